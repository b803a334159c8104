/-
  NARROWER THAN 'FOR EVERY INPUT', by the rows' own cells (each row's printed sentence says how): FnNamesRead: laid · FnNamesReadOfAll: laid · FnNamesOrdered: laid · FnNamesOrderedOfAll: laid.
  DERIVED. THE GIVEN ROWS OF THIS SEAT. 4 by the template 'for every input the law returns true; each argument reads behind the call as it read before'; 0 by the template 'total and deterministic' (their statements: YtlcbdmmmafpchaaDoorTotals.lean).
  GIVEN WITH THE SEED: the statements are not yours to turn. If you find one false, say at which input.
  Laid BY PROGRAM, IN A SANDBOX (cutbox-rows.mjs): the forced cells as the released guide's own fill.sh prints them over the translation 0660d94e92f7b37c… (all of the seat's roots in one cut). By AI agents, Wed Nov 11 2026. No macro, syntax, notation, axiom, sorry.
-/
import Derived.Test.YtlcbdmmmafpchaaDoorChecked
import GoSem.PinnedTables
import GoSem.Claim
import GoSem.ClaimJoined
import GoSem.ClaimMapViews
import Derived.JoinedTies
import Derived.KernelRfl
namespace Go.Proofs.YtlcbdmmmafpchaaDoor
/- THE CELL 'sum', in the pinned program and in every row, IS THE sha256 OF THE DUMP (.gsa) THAT YtlcbdmmmafpchaaDoorProg.lean LOADS. Nothing in Lean hashes anything: it is a label: what it is worth is what the hold of that sum in a sandbox is worth. -/
noncomputable def Tryd.pinned : Pinned := { name := "ytlcbdmmmafpchaadoor", sum := "0660d94e92f7b37c0ed44432ae5c1090806ee96474eca3f1eed64de19620e90f", checked := Tryd.checked }
namespace Rows
def none {H : Type} : Left H := { results := [], args := [] }

/- WHAT THE LISTED PACKAGE-LEVEL VARIABLES READ AS WHEN THE CALL BEGINS. Each datum BY PROGRAM (the guide's laid-datum.mjs) off the statement by which the dump's own 'gosem.cut.vars' lays the variable. In a bare row this is a premise. The card (YtlcbdmmmafpchaaDoorCards.lean) ties it to the program's text. -/
def laid_unicode_utf8_acceptRanges {H : Type} : DataW H := .agg [.agg [.lit (.int .u8 128), .lit (.int .u8 191)], .agg [.lit (.int .u8 160), .lit (.int .u8 191)], .agg [.lit (.int .u8 128), .lit (.int .u8 159)], .agg [.lit (.int .u8 144), .lit (.int .u8 191)], .agg [.lit (.int .u8 128), .lit (.int .u8 143)], .agg [.lit (.int .u8 0), .lit (.int .u8 0)], .agg [.lit (.int .u8 0), .lit (.int .u8 0)], .agg [.lit (.int .u8 0), .lit (.int .u8 0)], .agg [.lit (.int .u8 0), .lit (.int .u8 0)], .agg [.lit (.int .u8 0), .lit (.int .u8 0)], .agg [.lit (.int .u8 0), .lit (.int .u8 0)], .agg [.lit (.int .u8 0), .lit (.int .u8 0)], .agg [.lit (.int .u8 0), .lit (.int .u8 0)], .agg [.lit (.int .u8 0), .lit (.int .u8 0)], .agg [.lit (.int .u8 0), .lit (.int .u8 0)], .agg [.lit (.int .u8 0), .lit (.int .u8 0)]]
def laid_loop_example_g01240_impl_smallNames {H : Type} : DataW H := .agg [.lit (.string [122, 101, 114, 111]), .lit (.string [111, 110, 101]), .lit (.string [116, 119, 111]), .lit (.string [116, 104, 114, 101, 101]), .lit (.string [102, 111, 117, 114]), .lit (.string [102, 105, 118, 101]), .lit (.string [115, 105, 120]), .lit (.string [115, 101, 118, 101, 110]), .lit (.string [101, 105, 103, 104, 116]), .lit (.string [110, 105, 110, 101]), .lit (.string [116, 101, 110]), .lit (.string [101, 108, 101, 118, 101, 110]), .lit (.string [116, 119, 101, 108, 118, 101]), .lit (.string [116, 104, 105, 114, 116, 101, 101, 110]), .lit (.string [102, 111, 117, 114, 116, 101, 101, 110]), .lit (.string [102, 105, 102, 116, 101, 101, 110]), .lit (.string [115, 105, 120, 116, 101, 101, 110]), .lit (.string [115, 101, 118, 101, 110, 116, 101, 101, 110]), .lit (.string [101, 105, 103, 104, 116, 101, 101, 110]), .lit (.string [110, 105, 110, 101, 116, 101, 101, 110])]
def laid_loop_example_g01240_impl_tensNames {H : Type} : DataW H := .agg [.lit (.string [116, 119, 101, 110, 116, 121]), .lit (.string [116, 104, 105, 114, 116, 121]), .lit (.string [102, 111, 114, 116, 121]), .lit (.string [102, 105, 102, 116, 121]), .lit (.string [115, 105, 120, 116, 121]), .lit (.string [115, 101, 118, 101, 110, 116, 121]), .lit (.string [101, 105, 103, 104, 116, 121]), .lit (.string [110, 105, 110, 101, 116, 121])]
/-- One of Go's own tables, pinned by name: the form's constant. -/
def laid_unicode_utf8_first : DataW Unit := Go.Pinned.utf8First

/-- 'laws.FnNamesRead': WHATEVER THE INPUT: true; the input reads as it did. -/
def fnNamesReadSpec : ChangeSpec := { name := "fnNamesRead", vars := ["loop.example/g01240/impl.smallNames", "loop.example/g01240/impl.tensNames"], fn := fun _ => fun
  | [d1, d2, g1, g2] => { results := [.lit (.bool true)], args := [d1, d2], vars := [g1, g2] }
  | _ => none }
def fnNamesReadRow : OpenClaim := { program := "ytlcbdmmmafpchaadoor", sum := "0660d94e92f7b37c0ed44432ae5c1090806ee96474eca3f1eed64de19620e90f", func := "loop.example/g01240/laws.FnNamesRead", spec := "fnNamesRead", inPlace := ["internal/abi.NoEscape", "internal/bytealg.MakeNoZero", "internal/bytealg.CountString", "internal/bytealg.IndexByteString", "internal/bytealg.IndexString"], unfollowed := true, recurses := true, named := ["loop.example/g01240/impl.smallNames", "loop.example/g01240/impl.tensNames", "internal/bytealg.MaxLen", "unicode/utf8.first", "unicode/utf8.acceptRanges"], apart := false, laid := [("unicode/utf8.acceptRanges", laid_unicode_utf8_acceptRanges), ("loop.example/g01240/impl.smallNames", laid_loop_example_g01240_impl_smallNames), ("loop.example/g01240/impl.tensNames", laid_loop_example_g01240_impl_tensNames), ("unicode/utf8.first", laid_unicode_utf8_first)] }
def FnNamesReadSaid : Prop := fnNamesReadRow.holds Tryd.pinned (OpenSpec.ofChange fnNamesReadSpec)

/-- ITS FALSE NEIGHBOUR: 'it returns false'. Refute it at one input. -/
def fnNamesReadWrong : ChangeSpec := { name := "fnNamesRead", vars := ["loop.example/g01240/impl.smallNames", "loop.example/g01240/impl.tensNames"], fn := fun _ => fun
  | [d1, d2, g1, g2] => { results := [.lit (.bool false)], args := [d1, d2], vars := [g1, g2] }
  | _ => none }
def FnNamesReadWrongFalsely : Prop := fnNamesReadRow.holds Tryd.pinned (OpenSpec.ofChange fnNamesReadWrong)

/-- 'laws.FnNamesReadOfAll': WHATEVER THE INPUT: true; the input reads as it did. -/
def fnNamesReadOfAllSpec : ChangeSpec := { name := "fnNamesReadOfAll", vars := ["loop.example/g01240/impl.smallNames", "loop.example/g01240/impl.tensNames"], fn := fun _ => fun
  | [d1, d2, d3, d4, d5, g1, g2] => { results := [.lit (.bool true)], args := [d1, d2, d3, d4, d5], vars := [g1, g2] }
  | _ => none }
def fnNamesReadOfAllRow : OpenClaim := { program := "ytlcbdmmmafpchaadoor", sum := "0660d94e92f7b37c0ed44432ae5c1090806ee96474eca3f1eed64de19620e90f", func := "loop.example/g01240/laws.FnNamesReadOfAll", spec := "fnNamesReadOfAll", inPlace := ["internal/abi.NoEscape", "internal/bytealg.MakeNoZero", "internal/bytealg.CountString", "internal/bytealg.IndexByteString", "internal/bytealg.IndexString"], unfollowed := true, recurses := true, named := ["loop.example/g01240/impl.smallNames", "loop.example/g01240/impl.tensNames", "internal/bytealg.MaxLen", "unicode/utf8.first", "unicode/utf8.acceptRanges"], apart := false, laid := [("unicode/utf8.acceptRanges", laid_unicode_utf8_acceptRanges), ("loop.example/g01240/impl.smallNames", laid_loop_example_g01240_impl_smallNames), ("loop.example/g01240/impl.tensNames", laid_loop_example_g01240_impl_tensNames), ("unicode/utf8.first", laid_unicode_utf8_first)] }
def FnNamesReadOfAllSaid : Prop := fnNamesReadOfAllRow.holds Tryd.pinned (OpenSpec.ofChange fnNamesReadOfAllSpec)

/-- ITS FALSE NEIGHBOUR: 'it returns false'. Refute it at one input. -/
def fnNamesReadOfAllWrong : ChangeSpec := { name := "fnNamesReadOfAll", vars := ["loop.example/g01240/impl.smallNames", "loop.example/g01240/impl.tensNames"], fn := fun _ => fun
  | [d1, d2, d3, d4, d5, g1, g2] => { results := [.lit (.bool false)], args := [d1, d2, d3, d4, d5], vars := [g1, g2] }
  | _ => none }
def FnNamesReadOfAllWrongFalsely : Prop := fnNamesReadOfAllRow.holds Tryd.pinned (OpenSpec.ofChange fnNamesReadOfAllWrong)

/-- 'laws.FnNamesOrdered': WHATEVER THE INPUT: true; the input reads as it did. -/
def fnNamesOrderedSpec : ChangeSpec := { name := "fnNamesOrdered", vars := ["loop.example/g01240/impl.smallNames", "loop.example/g01240/impl.tensNames"], fn := fun _ => fun
  | [d1, d2, g1, g2] => { results := [.lit (.bool true)], args := [d1, d2], vars := [g1, g2] }
  | _ => none }
def fnNamesOrderedRow : OpenClaim := { program := "ytlcbdmmmafpchaadoor", sum := "0660d94e92f7b37c0ed44432ae5c1090806ee96474eca3f1eed64de19620e90f", func := "loop.example/g01240/laws.FnNamesOrdered", spec := "fnNamesOrdered", inPlace := ["internal/abi.NoEscape", "internal/bytealg.MakeNoZero", "internal/bytealg.CountString", "internal/bytealg.IndexByteString", "internal/bytealg.IndexString"], unfollowed := true, recurses := true, named := ["loop.example/g01240/impl.smallNames", "loop.example/g01240/impl.tensNames", "internal/bytealg.MaxLen", "unicode/utf8.first", "unicode/utf8.acceptRanges"], apart := false, laid := [("unicode/utf8.acceptRanges", laid_unicode_utf8_acceptRanges), ("loop.example/g01240/impl.smallNames", laid_loop_example_g01240_impl_smallNames), ("loop.example/g01240/impl.tensNames", laid_loop_example_g01240_impl_tensNames), ("unicode/utf8.first", laid_unicode_utf8_first)] }
def FnNamesOrderedSaid : Prop := fnNamesOrderedRow.holds Tryd.pinned (OpenSpec.ofChange fnNamesOrderedSpec)

/-- ITS FALSE NEIGHBOUR: 'it returns false'. Refute it at one input. -/
def fnNamesOrderedWrong : ChangeSpec := { name := "fnNamesOrdered", vars := ["loop.example/g01240/impl.smallNames", "loop.example/g01240/impl.tensNames"], fn := fun _ => fun
  | [d1, d2, g1, g2] => { results := [.lit (.bool false)], args := [d1, d2], vars := [g1, g2] }
  | _ => none }
def FnNamesOrderedWrongFalsely : Prop := fnNamesOrderedRow.holds Tryd.pinned (OpenSpec.ofChange fnNamesOrderedWrong)

/-- 'laws.FnNamesOrderedOfAll': WHATEVER THE INPUT: true; the input reads as it did. -/
def fnNamesOrderedOfAllSpec : ChangeSpec := { name := "fnNamesOrderedOfAll", vars := ["loop.example/g01240/impl.smallNames", "loop.example/g01240/impl.tensNames"], fn := fun _ => fun
  | [d1, d2, d3, d4, d5, d6, d7, g1, g2] => { results := [.lit (.bool true)], args := [d1, d2, d3, d4, d5, d6, d7], vars := [g1, g2] }
  | _ => none }
def fnNamesOrderedOfAllRow : OpenClaim := { program := "ytlcbdmmmafpchaadoor", sum := "0660d94e92f7b37c0ed44432ae5c1090806ee96474eca3f1eed64de19620e90f", func := "loop.example/g01240/laws.FnNamesOrderedOfAll", spec := "fnNamesOrderedOfAll", inPlace := ["internal/abi.NoEscape", "internal/bytealg.MakeNoZero", "internal/bytealg.CountString", "internal/bytealg.IndexByteString", "internal/bytealg.IndexString"], unfollowed := true, recurses := true, named := ["loop.example/g01240/impl.smallNames", "loop.example/g01240/impl.tensNames", "internal/bytealg.MaxLen", "unicode/utf8.first", "unicode/utf8.acceptRanges"], apart := false, laid := [("unicode/utf8.acceptRanges", laid_unicode_utf8_acceptRanges), ("loop.example/g01240/impl.smallNames", laid_loop_example_g01240_impl_smallNames), ("loop.example/g01240/impl.tensNames", laid_loop_example_g01240_impl_tensNames), ("unicode/utf8.first", laid_unicode_utf8_first)] }
def FnNamesOrderedOfAllSaid : Prop := fnNamesOrderedOfAllRow.holds Tryd.pinned (OpenSpec.ofChange fnNamesOrderedOfAllSpec)

/-- ITS FALSE NEIGHBOUR: 'it returns false'. Refute it at one input. -/
def fnNamesOrderedOfAllWrong : ChangeSpec := { name := "fnNamesOrderedOfAll", vars := ["loop.example/g01240/impl.smallNames", "loop.example/g01240/impl.tensNames"], fn := fun _ => fun
  | [d1, d2, d3, d4, d5, d6, d7, g1, g2] => { results := [.lit (.bool false)], args := [d1, d2, d3, d4, d5, d6, d7], vars := [g1, g2] }
  | _ => none }
def FnNamesOrderedOfAllWrongFalsely : Prop := fnNamesOrderedOfAllRow.holds Tryd.pinned (OpenSpec.ofChange fnNamesOrderedOfAllWrong)

/- THE SECOND FORM. 'bulk': how many values and letters a reading holds, each counted each time it is reached (what is shared counts as often as it is met; a slice's spare places count too). A statement '..UptoSaid' is the law's where the arguments, and the package variables that the reading takes, are together of bulk at most 1048576: NARROWER than '..Said'. Prove '..Said' where nothing that the law and all that it calls make is longer than what came in: it says more and counts as full. Else prove '..UptoSaid'. A law counts once. -/
mutual
def uptoBulk {H : Type} : DataW H → Nat
  | .lit (.string bytes) => bytes.length + 1
  | .lit _ => 1
  | .nil => 1
  | .ptr d => uptoBulk d + 1
  | .slice elems spare => uptoBulkAll elems + uptoBulkAll spare + 1
  | .agg parts => uptoBulkAll parts + 1
  | .iface _ d => uptoBulk d + 1
  | .map entries => uptoBulkEntries entries + 1
  | .held _ => 1
def uptoBulkAll {H : Type} : List (DataW H) → Nat
  | [] => 0
  | d :: r => uptoBulk d + uptoBulkAll r
def uptoBulkEntries {H : Type} : List (Lit × DataW H) → Nat
  | [] => 0
  | x :: r => uptoBulkEntry x + uptoBulkEntries r
def uptoBulkEntry {H : Type} : Lit × DataW H → Nat
  | (.string bytes, d) => bytes.length + uptoBulk d + 1
  | (_, d) => uptoBulk d + 1
 end
def uptoSmall : (H : Type) → List (DataW H) → Bool := fun _ ds => decide (uptoBulkAll ds ≤ 1048576)
def OpenSpec.upto (s : _root_.Go.ChangeSpec) : _root_.Go.OpenSpec := { _root_.Go.OpenSpec.ofChange s with cond := some uptoSmall }

/-- 'laws.FnNamesRead', WHERE WHAT IT READS IS OF BULK AT MOST 1048576: true; the input reads as it did. -/
def fnNamesReadUptoRow : OpenClaim := { program := "ytlcbdmmmafpchaadoor", sum := "0660d94e92f7b37c0ed44432ae5c1090806ee96474eca3f1eed64de19620e90f", func := "loop.example/g01240/laws.FnNamesRead", spec := "fnNamesRead", inPlace := ["internal/abi.NoEscape", "internal/bytealg.MakeNoZero", "internal/bytealg.CountString", "internal/bytealg.IndexByteString", "internal/bytealg.IndexString"], unfollowed := true, recurses := true, named := ["loop.example/g01240/impl.smallNames", "loop.example/g01240/impl.tensNames", "internal/bytealg.MaxLen", "unicode/utf8.first", "unicode/utf8.acceptRanges"], apart := false, laid := [("unicode/utf8.acceptRanges", laid_unicode_utf8_acceptRanges), ("loop.example/g01240/impl.smallNames", laid_loop_example_g01240_impl_smallNames), ("loop.example/g01240/impl.tensNames", laid_loop_example_g01240_impl_tensNames), ("unicode/utf8.first", laid_unicode_utf8_first)], narrowed := true }
def FnNamesReadUptoSaid : Prop := fnNamesReadUptoRow.holds Tryd.pinned (OpenSpec.upto fnNamesReadSpec)

/-- 'laws.FnNamesReadOfAll', WHERE WHAT IT READS IS OF BULK AT MOST 1048576: true; the input reads as it did. -/
def fnNamesReadOfAllUptoRow : OpenClaim := { program := "ytlcbdmmmafpchaadoor", sum := "0660d94e92f7b37c0ed44432ae5c1090806ee96474eca3f1eed64de19620e90f", func := "loop.example/g01240/laws.FnNamesReadOfAll", spec := "fnNamesReadOfAll", inPlace := ["internal/abi.NoEscape", "internal/bytealg.MakeNoZero", "internal/bytealg.CountString", "internal/bytealg.IndexByteString", "internal/bytealg.IndexString"], unfollowed := true, recurses := true, named := ["loop.example/g01240/impl.smallNames", "loop.example/g01240/impl.tensNames", "internal/bytealg.MaxLen", "unicode/utf8.first", "unicode/utf8.acceptRanges"], apart := false, laid := [("unicode/utf8.acceptRanges", laid_unicode_utf8_acceptRanges), ("loop.example/g01240/impl.smallNames", laid_loop_example_g01240_impl_smallNames), ("loop.example/g01240/impl.tensNames", laid_loop_example_g01240_impl_tensNames), ("unicode/utf8.first", laid_unicode_utf8_first)], narrowed := true }
def FnNamesReadOfAllUptoSaid : Prop := fnNamesReadOfAllUptoRow.holds Tryd.pinned (OpenSpec.upto fnNamesReadOfAllSpec)

/-- 'laws.FnNamesOrdered', WHERE WHAT IT READS IS OF BULK AT MOST 1048576: true; the input reads as it did. -/
def fnNamesOrderedUptoRow : OpenClaim := { program := "ytlcbdmmmafpchaadoor", sum := "0660d94e92f7b37c0ed44432ae5c1090806ee96474eca3f1eed64de19620e90f", func := "loop.example/g01240/laws.FnNamesOrdered", spec := "fnNamesOrdered", inPlace := ["internal/abi.NoEscape", "internal/bytealg.MakeNoZero", "internal/bytealg.CountString", "internal/bytealg.IndexByteString", "internal/bytealg.IndexString"], unfollowed := true, recurses := true, named := ["loop.example/g01240/impl.smallNames", "loop.example/g01240/impl.tensNames", "internal/bytealg.MaxLen", "unicode/utf8.first", "unicode/utf8.acceptRanges"], apart := false, laid := [("unicode/utf8.acceptRanges", laid_unicode_utf8_acceptRanges), ("loop.example/g01240/impl.smallNames", laid_loop_example_g01240_impl_smallNames), ("loop.example/g01240/impl.tensNames", laid_loop_example_g01240_impl_tensNames), ("unicode/utf8.first", laid_unicode_utf8_first)], narrowed := true }
def FnNamesOrderedUptoSaid : Prop := fnNamesOrderedUptoRow.holds Tryd.pinned (OpenSpec.upto fnNamesOrderedSpec)

/-- 'laws.FnNamesOrderedOfAll', WHERE WHAT IT READS IS OF BULK AT MOST 1048576: true; the input reads as it did. -/
def fnNamesOrderedOfAllUptoRow : OpenClaim := { program := "ytlcbdmmmafpchaadoor", sum := "0660d94e92f7b37c0ed44432ae5c1090806ee96474eca3f1eed64de19620e90f", func := "loop.example/g01240/laws.FnNamesOrderedOfAll", spec := "fnNamesOrderedOfAll", inPlace := ["internal/abi.NoEscape", "internal/bytealg.MakeNoZero", "internal/bytealg.CountString", "internal/bytealg.IndexByteString", "internal/bytealg.IndexString"], unfollowed := true, recurses := true, named := ["loop.example/g01240/impl.smallNames", "loop.example/g01240/impl.tensNames", "internal/bytealg.MaxLen", "unicode/utf8.first", "unicode/utf8.acceptRanges"], apart := false, laid := [("unicode/utf8.acceptRanges", laid_unicode_utf8_acceptRanges), ("loop.example/g01240/impl.smallNames", laid_loop_example_g01240_impl_smallNames), ("loop.example/g01240/impl.tensNames", laid_loop_example_g01240_impl_tensNames), ("unicode/utf8.first", laid_unicode_utf8_first)], narrowed := true }
def FnNamesOrderedOfAllUptoSaid : Prop := fnNamesOrderedOfAllUptoRow.holds Tryd.pinned (OpenSpec.upto fnNamesOrderedOfAllSpec)

end Rows
end Go.Proofs.YtlcbdmmmafpchaaDoor
