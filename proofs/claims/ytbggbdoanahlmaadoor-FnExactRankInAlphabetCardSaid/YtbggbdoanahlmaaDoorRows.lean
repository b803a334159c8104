/-
  NARROWER THAN 'FOR EVERY INPUT', by the rows' own cells (each row's printed sentence says how): FnExactMostLetters: laid · FnExactFirstInAlphabet: laid · FnExactRankInAlphabet: laid.
  DERIVED. THE GIVEN ROWS OF THIS SEAT. 3 by the template 'for every input the law returns true; each argument reads behind the call as it read before'; 0 by the template 'total and deterministic' (their statements: YtbggbdoanahlmaaDoorTotals.lean).
  GIVEN WITH THE SEED: the statements are not yours to turn. If you find one false, say at which input.
  Laid BY PROGRAM, IN A SANDBOX (cutbox-rows.mjs): the forced cells as the released guide's own fill.sh prints them over the translation bebea35eedf9788e… (all of the seat's roots in one cut). By AI agents, Wed Nov 11 2026. No macro, syntax, notation, axiom, sorry.
-/
import Derived.Test.YtbggbdoanahlmaaDoorChecked
import GoSem.PinnedTables
import GoSem.Claim
import GoSem.ClaimJoined
import GoSem.ClaimMapViews
import Derived.JoinedTies
import Derived.KernelRfl
namespace Go.Proofs.YtbggbdoanahlmaaDoor
/- THE CELL 'sum', in the pinned program and in every row, IS THE sha256 OF THE DUMP (.gsa) THAT YtbggbdoanahlmaaDoorProg.lean LOADS. Nothing in Lean hashes anything: it is a label: what it is worth is what the hold of that sum in a sandbox is worth. -/
noncomputable def Tryd.pinned : Pinned := { name := "ytbggbdoanahlmaadoor", sum := "bebea35eedf9788e77ec305a7706fc3a44806d2c3f9f6f24f84a53097e317ce7", checked := Tryd.checked }
namespace Rows
def none {H : Type} : Left H := { results := [], args := [] }

/- WHAT THE LISTED PACKAGE-LEVEL VARIABLES READ AS WHEN THE CALL BEGINS. Each datum BY PROGRAM (the guide's laid-datum.mjs) off the statement by which the dump's own 'gosem.cut.vars' lays the variable. In a bare row this is a premise. The card (YtbggbdoanahlmaaDoorCards.lean) ties it to the program's text. -/
def laid_unicode_utf8_acceptRanges {H : Type} : DataW H := .agg [.agg [.lit (.int .u8 128), .lit (.int .u8 191)], .agg [.lit (.int .u8 160), .lit (.int .u8 191)], .agg [.lit (.int .u8 128), .lit (.int .u8 159)], .agg [.lit (.int .u8 144), .lit (.int .u8 191)], .agg [.lit (.int .u8 128), .lit (.int .u8 143)], .agg [.lit (.int .u8 0), .lit (.int .u8 0)], .agg [.lit (.int .u8 0), .lit (.int .u8 0)], .agg [.lit (.int .u8 0), .lit (.int .u8 0)], .agg [.lit (.int .u8 0), .lit (.int .u8 0)], .agg [.lit (.int .u8 0), .lit (.int .u8 0)], .agg [.lit (.int .u8 0), .lit (.int .u8 0)], .agg [.lit (.int .u8 0), .lit (.int .u8 0)], .agg [.lit (.int .u8 0), .lit (.int .u8 0)], .agg [.lit (.int .u8 0), .lit (.int .u8 0)], .agg [.lit (.int .u8 0), .lit (.int .u8 0)], .agg [.lit (.int .u8 0), .lit (.int .u8 0)]]
def laid_loop_example_g01240_impl_smallNames {H : Type} : DataW H := .agg [.lit (.string [122, 101, 114, 111]), .lit (.string [111, 110, 101]), .lit (.string [116, 119, 111]), .lit (.string [116, 104, 114, 101, 101]), .lit (.string [102, 111, 117, 114]), .lit (.string [102, 105, 118, 101]), .lit (.string [115, 105, 120]), .lit (.string [115, 101, 118, 101, 110]), .lit (.string [101, 105, 103, 104, 116]), .lit (.string [110, 105, 110, 101]), .lit (.string [116, 101, 110]), .lit (.string [101, 108, 101, 118, 101, 110]), .lit (.string [116, 119, 101, 108, 118, 101]), .lit (.string [116, 104, 105, 114, 116, 101, 101, 110]), .lit (.string [102, 111, 117, 114, 116, 101, 101, 110]), .lit (.string [102, 105, 102, 116, 101, 101, 110]), .lit (.string [115, 105, 120, 116, 101, 101, 110]), .lit (.string [115, 101, 118, 101, 110, 116, 101, 101, 110]), .lit (.string [101, 105, 103, 104, 116, 101, 101, 110]), .lit (.string [110, 105, 110, 101, 116, 101, 101, 110])]
def laid_loop_example_g01240_impl_tensNames {H : Type} : DataW H := .agg [.lit (.string [116, 119, 101, 110, 116, 121]), .lit (.string [116, 104, 105, 114, 116, 121]), .lit (.string [102, 111, 114, 116, 121]), .lit (.string [102, 105, 102, 116, 121]), .lit (.string [115, 105, 120, 116, 121]), .lit (.string [115, 101, 118, 101, 110, 116, 121]), .lit (.string [101, 105, 103, 104, 116, 121]), .lit (.string [110, 105, 110, 101, 116, 121])]
/-- One of Go's own tables, pinned by name: the form's constant. -/
def laid_unicode_utf8_first : DataW Unit := Go.Pinned.utf8First

/-- 'laws.FnExactMostLetters': WHATEVER THE INPUT: true; the input reads as it did. -/
def fnExactMostLettersSpec : ChangeSpec := { name := "fnExactMostLetters", vars := ["loop.example/g01240/impl.smallNames", "loop.example/g01240/impl.tensNames"], fn := fun _ => fun
  | [d, g1, g2] => { results := [.lit (.bool true)], args := [d], vars := [g1, g2] }
  | _ => none }
def fnExactMostLettersRow : OpenClaim := { program := "ytbggbdoanahlmaadoor", sum := "bebea35eedf9788e77ec305a7706fc3a44806d2c3f9f6f24f84a53097e317ce7", func := "loop.example/g01240/laws.FnExactMostLetters", spec := "fnExactMostLetters", inPlace := ["internal/abi.NoEscape", "internal/bytealg.MakeNoZero", "internal/bytealg.CountString", "internal/bytealg.IndexByteString", "internal/bytealg.IndexString"], unfollowed := true, recurses := true, named := ["loop.example/g01240/impl.smallNames", "loop.example/g01240/impl.tensNames", "internal/bytealg.MaxLen", "unicode/utf8.first", "unicode/utf8.acceptRanges"], apart := false, laid := [("unicode/utf8.acceptRanges", laid_unicode_utf8_acceptRanges), ("loop.example/g01240/impl.smallNames", laid_loop_example_g01240_impl_smallNames), ("loop.example/g01240/impl.tensNames", laid_loop_example_g01240_impl_tensNames), ("unicode/utf8.first", laid_unicode_utf8_first)] }
def FnExactMostLettersSaid : Prop := fnExactMostLettersRow.holds Tryd.pinned (OpenSpec.ofChange fnExactMostLettersSpec)

/-- ITS FALSE NEIGHBOUR: 'it returns false'. Refute it at one input. -/
def fnExactMostLettersWrong : ChangeSpec := { name := "fnExactMostLetters", vars := ["loop.example/g01240/impl.smallNames", "loop.example/g01240/impl.tensNames"], fn := fun _ => fun
  | [d, g1, g2] => { results := [.lit (.bool false)], args := [d], vars := [g1, g2] }
  | _ => none }
def FnExactMostLettersWrongFalsely : Prop := fnExactMostLettersRow.holds Tryd.pinned (OpenSpec.ofChange fnExactMostLettersWrong)

/-- 'laws.FnExactFirstInAlphabet': WHATEVER THE INPUT: true; the input reads as it did. -/
def fnExactFirstInAlphabetSpec : ChangeSpec := { name := "fnExactFirstInAlphabet", vars := ["loop.example/g01240/impl.smallNames", "loop.example/g01240/impl.tensNames"], fn := fun _ => fun
  | [d, g1, g2] => { results := [.lit (.bool true)], args := [d], vars := [g1, g2] }
  | _ => none }
def fnExactFirstInAlphabetRow : OpenClaim := { program := "ytbggbdoanahlmaadoor", sum := "bebea35eedf9788e77ec305a7706fc3a44806d2c3f9f6f24f84a53097e317ce7", func := "loop.example/g01240/laws.FnExactFirstInAlphabet", spec := "fnExactFirstInAlphabet", inPlace := ["internal/abi.NoEscape", "internal/bytealg.MakeNoZero", "internal/bytealg.CountString", "internal/bytealg.IndexByteString", "internal/bytealg.IndexString"], unfollowed := true, recurses := true, named := ["loop.example/g01240/impl.smallNames", "loop.example/g01240/impl.tensNames", "internal/bytealg.MaxLen", "unicode/utf8.first", "unicode/utf8.acceptRanges"], apart := false, laid := [("unicode/utf8.acceptRanges", laid_unicode_utf8_acceptRanges), ("loop.example/g01240/impl.smallNames", laid_loop_example_g01240_impl_smallNames), ("loop.example/g01240/impl.tensNames", laid_loop_example_g01240_impl_tensNames), ("unicode/utf8.first", laid_unicode_utf8_first)] }
def FnExactFirstInAlphabetSaid : Prop := fnExactFirstInAlphabetRow.holds Tryd.pinned (OpenSpec.ofChange fnExactFirstInAlphabetSpec)

/-- ITS FALSE NEIGHBOUR: 'it returns false'. Refute it at one input. -/
def fnExactFirstInAlphabetWrong : ChangeSpec := { name := "fnExactFirstInAlphabet", vars := ["loop.example/g01240/impl.smallNames", "loop.example/g01240/impl.tensNames"], fn := fun _ => fun
  | [d, g1, g2] => { results := [.lit (.bool false)], args := [d], vars := [g1, g2] }
  | _ => none }
def FnExactFirstInAlphabetWrongFalsely : Prop := fnExactFirstInAlphabetRow.holds Tryd.pinned (OpenSpec.ofChange fnExactFirstInAlphabetWrong)

/-- 'laws.FnExactRankInAlphabet': WHATEVER THE INPUT: true; the input reads as it did. -/
def fnExactRankInAlphabetSpec : ChangeSpec := { name := "fnExactRankInAlphabet", vars := ["loop.example/g01240/impl.smallNames", "loop.example/g01240/impl.tensNames"], fn := fun _ => fun
  | [d1, d2, g1, g2] => { results := [.lit (.bool true)], args := [d1, d2], vars := [g1, g2] }
  | _ => none }
def fnExactRankInAlphabetRow : OpenClaim := { program := "ytbggbdoanahlmaadoor", sum := "bebea35eedf9788e77ec305a7706fc3a44806d2c3f9f6f24f84a53097e317ce7", func := "loop.example/g01240/laws.FnExactRankInAlphabet", spec := "fnExactRankInAlphabet", inPlace := ["internal/abi.NoEscape", "internal/bytealg.MakeNoZero", "internal/bytealg.CountString", "internal/bytealg.IndexByteString", "internal/bytealg.IndexString"], unfollowed := true, recurses := true, named := ["loop.example/g01240/impl.smallNames", "loop.example/g01240/impl.tensNames", "internal/bytealg.MaxLen", "unicode/utf8.first", "unicode/utf8.acceptRanges"], apart := false, laid := [("unicode/utf8.acceptRanges", laid_unicode_utf8_acceptRanges), ("loop.example/g01240/impl.smallNames", laid_loop_example_g01240_impl_smallNames), ("loop.example/g01240/impl.tensNames", laid_loop_example_g01240_impl_tensNames), ("unicode/utf8.first", laid_unicode_utf8_first)] }
def FnExactRankInAlphabetSaid : Prop := fnExactRankInAlphabetRow.holds Tryd.pinned (OpenSpec.ofChange fnExactRankInAlphabetSpec)

/-- ITS FALSE NEIGHBOUR: 'it returns false'. Refute it at one input. -/
def fnExactRankInAlphabetWrong : ChangeSpec := { name := "fnExactRankInAlphabet", vars := ["loop.example/g01240/impl.smallNames", "loop.example/g01240/impl.tensNames"], fn := fun _ => fun
  | [d1, d2, g1, g2] => { results := [.lit (.bool false)], args := [d1, d2], vars := [g1, g2] }
  | _ => none }
def FnExactRankInAlphabetWrongFalsely : Prop := fnExactRankInAlphabetRow.holds Tryd.pinned (OpenSpec.ofChange fnExactRankInAlphabetWrong)

/- THE SECOND FORM. 'bulk': how many values and letters a reading holds, each counted each time it is reached (what is shared counts as often as it is met; a slice's spare places count too). A statement '..UptoSaid' is the law's where the arguments, and the package variables that the reading takes, are together of bulk at most 1048576: NARROWER than '..Said'. Prove '..Said' where nothing that the law and all that it calls make is longer than what came in: it says more and counts as full. Else prove '..UptoSaid'. A law counts once. -/
mutual
def uptoBulk {H : Type} : DataW H → Nat
  | .lit (.string bytes) => bytes.length + 1
  | .lit _ => 1
  | .nil => 1
  | .ptr d => uptoBulk d + 1
  | .slice elems spare => uptoBulkAll elems + uptoBulkAll spare + 1
  | .agg parts => uptoBulkAll parts + 1
  | .iface _ d => uptoBulk d + 1
  | .map entries => uptoBulkEntries entries + 1
  | .held _ => 1
def uptoBulkAll {H : Type} : List (DataW H) → Nat
  | [] => 0
  | d :: r => uptoBulk d + uptoBulkAll r
def uptoBulkEntries {H : Type} : List (Lit × DataW H) → Nat
  | [] => 0
  | x :: r => uptoBulkEntry x + uptoBulkEntries r
def uptoBulkEntry {H : Type} : Lit × DataW H → Nat
  | (.string bytes, d) => bytes.length + uptoBulk d + 1
  | (_, d) => uptoBulk d + 1
 end
def uptoSmall : (H : Type) → List (DataW H) → Bool := fun _ ds => decide (uptoBulkAll ds ≤ 1048576)
def OpenSpec.upto (s : _root_.Go.ChangeSpec) : _root_.Go.OpenSpec := { _root_.Go.OpenSpec.ofChange s with cond := some uptoSmall }

/-- 'laws.FnExactMostLetters', WHERE WHAT IT READS IS OF BULK AT MOST 1048576: true; the input reads as it did. -/
def fnExactMostLettersUptoRow : OpenClaim := { program := "ytbggbdoanahlmaadoor", sum := "bebea35eedf9788e77ec305a7706fc3a44806d2c3f9f6f24f84a53097e317ce7", func := "loop.example/g01240/laws.FnExactMostLetters", spec := "fnExactMostLetters", inPlace := ["internal/abi.NoEscape", "internal/bytealg.MakeNoZero", "internal/bytealg.CountString", "internal/bytealg.IndexByteString", "internal/bytealg.IndexString"], unfollowed := true, recurses := true, named := ["loop.example/g01240/impl.smallNames", "loop.example/g01240/impl.tensNames", "internal/bytealg.MaxLen", "unicode/utf8.first", "unicode/utf8.acceptRanges"], apart := false, laid := [("unicode/utf8.acceptRanges", laid_unicode_utf8_acceptRanges), ("loop.example/g01240/impl.smallNames", laid_loop_example_g01240_impl_smallNames), ("loop.example/g01240/impl.tensNames", laid_loop_example_g01240_impl_tensNames), ("unicode/utf8.first", laid_unicode_utf8_first)], narrowed := true }
def FnExactMostLettersUptoSaid : Prop := fnExactMostLettersUptoRow.holds Tryd.pinned (OpenSpec.upto fnExactMostLettersSpec)

/-- 'laws.FnExactFirstInAlphabet', WHERE WHAT IT READS IS OF BULK AT MOST 1048576: true; the input reads as it did. -/
def fnExactFirstInAlphabetUptoRow : OpenClaim := { program := "ytbggbdoanahlmaadoor", sum := "bebea35eedf9788e77ec305a7706fc3a44806d2c3f9f6f24f84a53097e317ce7", func := "loop.example/g01240/laws.FnExactFirstInAlphabet", spec := "fnExactFirstInAlphabet", inPlace := ["internal/abi.NoEscape", "internal/bytealg.MakeNoZero", "internal/bytealg.CountString", "internal/bytealg.IndexByteString", "internal/bytealg.IndexString"], unfollowed := true, recurses := true, named := ["loop.example/g01240/impl.smallNames", "loop.example/g01240/impl.tensNames", "internal/bytealg.MaxLen", "unicode/utf8.first", "unicode/utf8.acceptRanges"], apart := false, laid := [("unicode/utf8.acceptRanges", laid_unicode_utf8_acceptRanges), ("loop.example/g01240/impl.smallNames", laid_loop_example_g01240_impl_smallNames), ("loop.example/g01240/impl.tensNames", laid_loop_example_g01240_impl_tensNames), ("unicode/utf8.first", laid_unicode_utf8_first)], narrowed := true }
def FnExactFirstInAlphabetUptoSaid : Prop := fnExactFirstInAlphabetUptoRow.holds Tryd.pinned (OpenSpec.upto fnExactFirstInAlphabetSpec)

/-- 'laws.FnExactRankInAlphabet', WHERE WHAT IT READS IS OF BULK AT MOST 1048576: true; the input reads as it did. -/
def fnExactRankInAlphabetUptoRow : OpenClaim := { program := "ytbggbdoanahlmaadoor", sum := "bebea35eedf9788e77ec305a7706fc3a44806d2c3f9f6f24f84a53097e317ce7", func := "loop.example/g01240/laws.FnExactRankInAlphabet", spec := "fnExactRankInAlphabet", inPlace := ["internal/abi.NoEscape", "internal/bytealg.MakeNoZero", "internal/bytealg.CountString", "internal/bytealg.IndexByteString", "internal/bytealg.IndexString"], unfollowed := true, recurses := true, named := ["loop.example/g01240/impl.smallNames", "loop.example/g01240/impl.tensNames", "internal/bytealg.MaxLen", "unicode/utf8.first", "unicode/utf8.acceptRanges"], apart := false, laid := [("unicode/utf8.acceptRanges", laid_unicode_utf8_acceptRanges), ("loop.example/g01240/impl.smallNames", laid_loop_example_g01240_impl_smallNames), ("loop.example/g01240/impl.tensNames", laid_loop_example_g01240_impl_tensNames), ("unicode/utf8.first", laid_unicode_utf8_first)], narrowed := true }
def FnExactRankInAlphabetUptoSaid : Prop := fnExactRankInAlphabetUptoRow.holds Tryd.pinned (OpenSpec.upto fnExactRankInAlphabetSpec)

end Rows
end Go.Proofs.YtbggbdoanahlmaaDoor
