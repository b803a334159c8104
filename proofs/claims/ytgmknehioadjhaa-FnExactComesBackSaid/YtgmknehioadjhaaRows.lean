/-
  No cell of these rows narrows 'for every input' (looked for: loops, veiled, ifaces, maps, wideKeys, modest, calm, conditions, laid).
  DERIVED. THE GIVEN ROWS OF THIS SEAT. 9 by the template 'for every input the law returns true; each argument reads behind the call as it read before'; 0 by the template 'total and deterministic' (their statements: YtgmknehioadjhaaTotals.lean).
  GIVEN WITH THE SEED: the statements are not yours to turn. If you find one false, say at which input.
  Laid BY PROGRAM, IN A SANDBOX (cutbox-rows.mjs): the forced cells as the released guide's own fill.sh prints them over the translation cb7d05034421d0d2… (all of the seat's roots in one cut). By AI agents, Wed Nov 11 2026. No macro, syntax, notation, axiom, sorry.
-/
import Derived.Test.YtgmknehioadjhaaChecked
import GoSem.Claim
import GoSem.ClaimJoined
import GoSem.ClaimMapViews
import Derived.JoinedTies
import Derived.KernelRfl
namespace Go.Proofs.Ytgmknehioadjhaa
/- THE CELL 'sum', in the pinned program and in every row, IS THE sha256 OF THE DUMP (.gsa) THAT YtgmknehioadjhaaProg.lean LOADS. Nothing in Lean hashes anything: it is a label: what it is worth is what the hold of that sum in a sandbox is worth. -/
noncomputable def Try.pinned : Pinned := { name := "ytgmknehioadjhaa", sum := "cb7d05034421d0d287155b94df6040d404dc9fefc7a3e42c5fc73bb818bc20d9", checked := Try.checked }
namespace Rows
def none {H : Type} : Left H := { results := [], args := [] }

/-- 'laws.FnExactElementsFrom': WHATEVER THE INPUT: true; the input reads as it did. -/
def fnExactElementsFromSpec : ChangeSpec := { name := "fnExactElementsFrom", fn := fun _ => fun
  | [d] => { results := [.lit (.bool true)], args := [d] }
  | _ => none }
def fnExactElementsFromRow : OpenClaim := { program := "ytgmknehioadjhaa", sum := "cb7d05034421d0d287155b94df6040d404dc9fefc7a3e42c5fc73bb818bc20d9", func := "loop.example/g01240/laws.FnExactElementsFrom", spec := "fnExactElementsFrom", unfollowed := true, recurses := true, plainKeys := false, apart := false }
def FnExactElementsFromSaid : Prop := fnExactElementsFromRow.holds Try.pinned (OpenSpec.ofChange fnExactElementsFromSpec)

/-- ITS FALSE NEIGHBOUR: 'it returns false'. Refute it at one input. -/
def fnExactElementsFromWrong : ChangeSpec := { name := "fnExactElementsFrom", fn := fun _ => fun
  | [d] => { results := [.lit (.bool false)], args := [d] }
  | _ => none }
def FnExactElementsFromWrongFalsely : Prop := fnExactElementsFromRow.holds Try.pinned (OpenSpec.ofChange fnExactElementsFromWrong)

/-- 'laws.FnExactCountElements': WHATEVER THE INPUT: true; the input reads as it did. -/
def fnExactCountElementsSpec : ChangeSpec := { name := "fnExactCountElements", fn := fun _ => fun
  | [d] => { results := [.lit (.bool true)], args := [d] }
  | _ => none }
def fnExactCountElementsRow : OpenClaim := { program := "ytgmknehioadjhaa", sum := "cb7d05034421d0d287155b94df6040d404dc9fefc7a3e42c5fc73bb818bc20d9", func := "loop.example/g01240/laws.FnExactCountElements", spec := "fnExactCountElements", unfollowed := true, recurses := true, plainKeys := false, apart := false }
def FnExactCountElementsSaid : Prop := fnExactCountElementsRow.holds Try.pinned (OpenSpec.ofChange fnExactCountElementsSpec)

/-- ITS FALSE NEIGHBOUR: 'it returns false'. Refute it at one input. -/
def fnExactCountElementsWrong : ChangeSpec := { name := "fnExactCountElements", fn := fun _ => fun
  | [d] => { results := [.lit (.bool false)], args := [d] }
  | _ => none }
def FnExactCountElementsWrongFalsely : Prop := fnExactCountElementsRow.holds Try.pinned (OpenSpec.ofChange fnExactCountElementsWrong)

/-- 'laws.FnExactCountsLater': WHATEVER THE INPUT: true; the input reads as it did. -/
def fnExactCountsLaterSpec : ChangeSpec := { name := "fnExactCountsLater", fn := fun _ => fun
  | [d1, d2] => { results := [.lit (.bool true)], args := [d1, d2] }
  | _ => none }
def fnExactCountsLaterRow : OpenClaim := { program := "ytgmknehioadjhaa", sum := "cb7d05034421d0d287155b94df6040d404dc9fefc7a3e42c5fc73bb818bc20d9", func := "loop.example/g01240/laws.FnExactCountsLater", spec := "fnExactCountsLater", unfollowed := true, recurses := true, plainKeys := false, apart := false }
def FnExactCountsLaterSaid : Prop := fnExactCountsLaterRow.holds Try.pinned (OpenSpec.ofChange fnExactCountsLaterSpec)

/-- ITS FALSE NEIGHBOUR: 'it returns false'. Refute it at one input. -/
def fnExactCountsLaterWrong : ChangeSpec := { name := "fnExactCountsLater", fn := fun _ => fun
  | [d1, d2] => { results := [.lit (.bool false)], args := [d1, d2] }
  | _ => none }
def FnExactCountsLaterWrongFalsely : Prop := fnExactCountsLaterRow.holds Try.pinned (OpenSpec.ofChange fnExactCountsLaterWrong)

/-- 'laws.FnExactLengthLater': WHATEVER THE INPUT: true; the input reads as it did. -/
def fnExactLengthLaterSpec : ChangeSpec := { name := "fnExactLengthLater", fn := fun _ => fun
  | [d1, d2] => { results := [.lit (.bool true)], args := [d1, d2] }
  | _ => none }
def fnExactLengthLaterRow : OpenClaim := { program := "ytgmknehioadjhaa", sum := "cb7d05034421d0d287155b94df6040d404dc9fefc7a3e42c5fc73bb818bc20d9", func := "loop.example/g01240/laws.FnExactLengthLater", spec := "fnExactLengthLater", unfollowed := true, recurses := true, plainKeys := false, apart := false }
def FnExactLengthLaterSaid : Prop := fnExactLengthLaterRow.holds Try.pinned (OpenSpec.ofChange fnExactLengthLaterSpec)

/-- ITS FALSE NEIGHBOUR: 'it returns false'. Refute it at one input. -/
def fnExactLengthLaterWrong : ChangeSpec := { name := "fnExactLengthLater", fn := fun _ => fun
  | [d1, d2] => { results := [.lit (.bool false)], args := [d1, d2] }
  | _ => none }
def FnExactLengthLaterWrongFalsely : Prop := fnExactLengthLaterRow.holds Try.pinned (OpenSpec.ofChange fnExactLengthLaterWrong)

/-- 'laws.FnExactDigitLater': WHATEVER THE INPUT: true; the input reads as it did. -/
def fnExactDigitLaterSpec : ChangeSpec := { name := "fnExactDigitLater", fn := fun _ => fun
  | [d1, d2, d3] => { results := [.lit (.bool true)], args := [d1, d2, d3] }
  | _ => none }
def fnExactDigitLaterRow : OpenClaim := { program := "ytgmknehioadjhaa", sum := "cb7d05034421d0d287155b94df6040d404dc9fefc7a3e42c5fc73bb818bc20d9", func := "loop.example/g01240/laws.FnExactDigitLater", spec := "fnExactDigitLater", inPlace := ["internal/bytealg.Count", "internal/bytealg.IndexByte", "internal/bytealg.Index"], unfollowed := true, recurses := true, named := ["internal/bytealg.MaxLen"], plainKeys := false, apart := false }
def FnExactDigitLaterSaid : Prop := fnExactDigitLaterRow.holds Try.pinned (OpenSpec.ofChange fnExactDigitLaterSpec)

/-- ITS FALSE NEIGHBOUR: 'it returns false'. Refute it at one input. -/
def fnExactDigitLaterWrong : ChangeSpec := { name := "fnExactDigitLater", fn := fun _ => fun
  | [d1, d2, d3] => { results := [.lit (.bool false)], args := [d1, d2, d3] }
  | _ => none }
def FnExactDigitLaterWrongFalsely : Prop := fnExactDigitLaterRow.holds Try.pinned (OpenSpec.ofChange fnExactDigitLaterWrong)

/-- 'laws.FnExactComesBack': WHATEVER THE INPUT: true; the input reads as it did. -/
def fnExactComesBackSpec : ChangeSpec := { name := "fnExactComesBack", fn := fun _ => fun
  | [d1, d2] => { results := [.lit (.bool true)], args := [d1, d2] }
  | _ => none }
def fnExactComesBackRow : OpenClaim := { program := "ytgmknehioadjhaa", sum := "cb7d05034421d0d287155b94df6040d404dc9fefc7a3e42c5fc73bb818bc20d9", func := "loop.example/g01240/laws.FnExactComesBack", spec := "fnExactComesBack", unfollowed := true, recurses := true, plainKeys := false, apart := false }
def FnExactComesBackSaid : Prop := fnExactComesBackRow.holds Try.pinned (OpenSpec.ofChange fnExactComesBackSpec)

/-- ITS FALSE NEIGHBOUR: 'it returns false'. Refute it at one input. -/
def fnExactComesBackWrong : ChangeSpec := { name := "fnExactComesBack", fn := fun _ => fun
  | [d1, d2] => { results := [.lit (.bool false)], args := [d1, d2] }
  | _ => none }
def FnExactComesBackWrongFalsely : Prop := fnExactComesBackRow.holds Try.pinned (OpenSpec.ofChange fnExactComesBackWrong)

/-- 'laws.FnExactFirstTime': WHATEVER THE INPUT: true; the input reads as it did. -/
def fnExactFirstTimeSpec : ChangeSpec := { name := "fnExactFirstTime", fn := fun _ => fun
  | [d1, d2] => { results := [.lit (.bool true)], args := [d1, d2] }
  | _ => none }
def fnExactFirstTimeRow : OpenClaim := { program := "ytgmknehioadjhaa", sum := "cb7d05034421d0d287155b94df6040d404dc9fefc7a3e42c5fc73bb818bc20d9", func := "loop.example/g01240/laws.FnExactFirstTime", spec := "fnExactFirstTime", unfollowed := true, recurses := true, plainKeys := false, apart := false }
def FnExactFirstTimeSaid : Prop := fnExactFirstTimeRow.holds Try.pinned (OpenSpec.ofChange fnExactFirstTimeSpec)

/-- ITS FALSE NEIGHBOUR: 'it returns false'. Refute it at one input. -/
def fnExactFirstTimeWrong : ChangeSpec := { name := "fnExactFirstTime", fn := fun _ => fun
  | [d1, d2] => { results := [.lit (.bool false)], args := [d1, d2] }
  | _ => none }
def FnExactFirstTimeWrongFalsely : Prop := fnExactFirstTimeRow.holds Try.pinned (OpenSpec.ofChange fnExactFirstTimeWrong)

/-- 'laws.FnExactCommonElements': WHATEVER THE INPUT: true; the input reads as it did. -/
def fnExactCommonElementsSpec : ChangeSpec := { name := "fnExactCommonElements", fn := fun _ => fun
  | [d1, d2] => { results := [.lit (.bool true)], args := [d1, d2] }
  | _ => none }
def fnExactCommonElementsRow : OpenClaim := { program := "ytgmknehioadjhaa", sum := "cb7d05034421d0d287155b94df6040d404dc9fefc7a3e42c5fc73bb818bc20d9", func := "loop.example/g01240/laws.FnExactCommonElements", spec := "fnExactCommonElements", unfollowed := true, recurses := true, plainKeys := false, apart := false }
def FnExactCommonElementsSaid : Prop := fnExactCommonElementsRow.holds Try.pinned (OpenSpec.ofChange fnExactCommonElementsSpec)

/-- ITS FALSE NEIGHBOUR: 'it returns false'. Refute it at one input. -/
def fnExactCommonElementsWrong : ChangeSpec := { name := "fnExactCommonElements", fn := fun _ => fun
  | [d1, d2] => { results := [.lit (.bool false)], args := [d1, d2] }
  | _ => none }
def FnExactCommonElementsWrongFalsely : Prop := fnExactCommonElementsRow.holds Try.pinned (OpenSpec.ofChange fnExactCommonElementsWrong)

/-- 'laws.FnExactSplitLater': WHATEVER THE INPUT: true; the input reads as it did. -/
def fnExactSplitLaterSpec : ChangeSpec := { name := "fnExactSplitLater", fn := fun _ => fun
  | [d1, d2] => { results := [.lit (.bool true)], args := [d1, d2] }
  | _ => none }
def fnExactSplitLaterRow : OpenClaim := { program := "ytgmknehioadjhaa", sum := "cb7d05034421d0d287155b94df6040d404dc9fefc7a3e42c5fc73bb818bc20d9", func := "loop.example/g01240/laws.FnExactSplitLater", spec := "fnExactSplitLater", unfollowed := true, recurses := true, plainKeys := false, apart := false }
def FnExactSplitLaterSaid : Prop := fnExactSplitLaterRow.holds Try.pinned (OpenSpec.ofChange fnExactSplitLaterSpec)

/-- ITS FALSE NEIGHBOUR: 'it returns false'. Refute it at one input. -/
def fnExactSplitLaterWrong : ChangeSpec := { name := "fnExactSplitLater", fn := fun _ => fun
  | [d1, d2] => { results := [.lit (.bool false)], args := [d1, d2] }
  | _ => none }
def FnExactSplitLaterWrongFalsely : Prop := fnExactSplitLaterRow.holds Try.pinned (OpenSpec.ofChange fnExactSplitLaterWrong)

/- THE SECOND FORM. 'bulk': how many values and letters a reading holds, each counted each time it is reached (what is shared counts as often as it is met; a slice's spare places count too). A statement '..UptoSaid' is the law's where the arguments, and the package variables that the reading takes, are together of bulk at most 1048576: NARROWER than '..Said'. Prove '..Said' where nothing that the law and all that it calls make is longer than what came in: it says more and counts as full. Else prove '..UptoSaid'. A law counts once. -/
mutual
def uptoBulk {H : Type} : DataW H → Nat
  | .lit (.string bytes) => bytes.length + 1
  | .lit _ => 1
  | .nil => 1
  | .ptr d => uptoBulk d + 1
  | .slice elems spare => uptoBulkAll elems + uptoBulkAll spare + 1
  | .agg parts => uptoBulkAll parts + 1
  | .iface _ d => uptoBulk d + 1
  | .map entries => uptoBulkEntries entries + 1
  | .held _ => 1
def uptoBulkAll {H : Type} : List (DataW H) → Nat
  | [] => 0
  | d :: r => uptoBulk d + uptoBulkAll r
def uptoBulkEntries {H : Type} : List (Lit × DataW H) → Nat
  | [] => 0
  | x :: r => uptoBulkEntry x + uptoBulkEntries r
def uptoBulkEntry {H : Type} : Lit × DataW H → Nat
  | (.string bytes, d) => bytes.length + uptoBulk d + 1
  | (_, d) => uptoBulk d + 1
 end
def uptoSmall : (H : Type) → List (DataW H) → Bool := fun _ ds => decide (uptoBulkAll ds ≤ 1048576)
def OpenSpec.upto (s : _root_.Go.ChangeSpec) : _root_.Go.OpenSpec := { _root_.Go.OpenSpec.ofChange s with cond := some uptoSmall }

/-- 'laws.FnExactElementsFrom', WHERE WHAT IT READS IS OF BULK AT MOST 1048576: true; the input reads as it did. -/
def fnExactElementsFromUptoRow : OpenClaim := { program := "ytgmknehioadjhaa", sum := "cb7d05034421d0d287155b94df6040d404dc9fefc7a3e42c5fc73bb818bc20d9", func := "loop.example/g01240/laws.FnExactElementsFrom", spec := "fnExactElementsFrom", unfollowed := true, recurses := true, plainKeys := false, apart := false, narrowed := true }
def FnExactElementsFromUptoSaid : Prop := fnExactElementsFromUptoRow.holds Try.pinned (OpenSpec.upto fnExactElementsFromSpec)

/-- 'laws.FnExactCountElements', WHERE WHAT IT READS IS OF BULK AT MOST 1048576: true; the input reads as it did. -/
def fnExactCountElementsUptoRow : OpenClaim := { program := "ytgmknehioadjhaa", sum := "cb7d05034421d0d287155b94df6040d404dc9fefc7a3e42c5fc73bb818bc20d9", func := "loop.example/g01240/laws.FnExactCountElements", spec := "fnExactCountElements", unfollowed := true, recurses := true, plainKeys := false, apart := false, narrowed := true }
def FnExactCountElementsUptoSaid : Prop := fnExactCountElementsUptoRow.holds Try.pinned (OpenSpec.upto fnExactCountElementsSpec)

/-- 'laws.FnExactCountsLater', WHERE WHAT IT READS IS OF BULK AT MOST 1048576: true; the input reads as it did. -/
def fnExactCountsLaterUptoRow : OpenClaim := { program := "ytgmknehioadjhaa", sum := "cb7d05034421d0d287155b94df6040d404dc9fefc7a3e42c5fc73bb818bc20d9", func := "loop.example/g01240/laws.FnExactCountsLater", spec := "fnExactCountsLater", unfollowed := true, recurses := true, plainKeys := false, apart := false, narrowed := true }
def FnExactCountsLaterUptoSaid : Prop := fnExactCountsLaterUptoRow.holds Try.pinned (OpenSpec.upto fnExactCountsLaterSpec)

/-- 'laws.FnExactLengthLater', WHERE WHAT IT READS IS OF BULK AT MOST 1048576: true; the input reads as it did. -/
def fnExactLengthLaterUptoRow : OpenClaim := { program := "ytgmknehioadjhaa", sum := "cb7d05034421d0d287155b94df6040d404dc9fefc7a3e42c5fc73bb818bc20d9", func := "loop.example/g01240/laws.FnExactLengthLater", spec := "fnExactLengthLater", unfollowed := true, recurses := true, plainKeys := false, apart := false, narrowed := true }
def FnExactLengthLaterUptoSaid : Prop := fnExactLengthLaterUptoRow.holds Try.pinned (OpenSpec.upto fnExactLengthLaterSpec)

/-- 'laws.FnExactDigitLater', WHERE WHAT IT READS IS OF BULK AT MOST 1048576: true; the input reads as it did. -/
def fnExactDigitLaterUptoRow : OpenClaim := { program := "ytgmknehioadjhaa", sum := "cb7d05034421d0d287155b94df6040d404dc9fefc7a3e42c5fc73bb818bc20d9", func := "loop.example/g01240/laws.FnExactDigitLater", spec := "fnExactDigitLater", inPlace := ["internal/bytealg.Count", "internal/bytealg.IndexByte", "internal/bytealg.Index"], unfollowed := true, recurses := true, named := ["internal/bytealg.MaxLen"], plainKeys := false, apart := false, narrowed := true }
def FnExactDigitLaterUptoSaid : Prop := fnExactDigitLaterUptoRow.holds Try.pinned (OpenSpec.upto fnExactDigitLaterSpec)

/-- 'laws.FnExactComesBack', WHERE WHAT IT READS IS OF BULK AT MOST 1048576: true; the input reads as it did. -/
def fnExactComesBackUptoRow : OpenClaim := { program := "ytgmknehioadjhaa", sum := "cb7d05034421d0d287155b94df6040d404dc9fefc7a3e42c5fc73bb818bc20d9", func := "loop.example/g01240/laws.FnExactComesBack", spec := "fnExactComesBack", unfollowed := true, recurses := true, plainKeys := false, apart := false, narrowed := true }
def FnExactComesBackUptoSaid : Prop := fnExactComesBackUptoRow.holds Try.pinned (OpenSpec.upto fnExactComesBackSpec)

/-- 'laws.FnExactFirstTime', WHERE WHAT IT READS IS OF BULK AT MOST 1048576: true; the input reads as it did. -/
def fnExactFirstTimeUptoRow : OpenClaim := { program := "ytgmknehioadjhaa", sum := "cb7d05034421d0d287155b94df6040d404dc9fefc7a3e42c5fc73bb818bc20d9", func := "loop.example/g01240/laws.FnExactFirstTime", spec := "fnExactFirstTime", unfollowed := true, recurses := true, plainKeys := false, apart := false, narrowed := true }
def FnExactFirstTimeUptoSaid : Prop := fnExactFirstTimeUptoRow.holds Try.pinned (OpenSpec.upto fnExactFirstTimeSpec)

/-- 'laws.FnExactCommonElements', WHERE WHAT IT READS IS OF BULK AT MOST 1048576: true; the input reads as it did. -/
def fnExactCommonElementsUptoRow : OpenClaim := { program := "ytgmknehioadjhaa", sum := "cb7d05034421d0d287155b94df6040d404dc9fefc7a3e42c5fc73bb818bc20d9", func := "loop.example/g01240/laws.FnExactCommonElements", spec := "fnExactCommonElements", unfollowed := true, recurses := true, plainKeys := false, apart := false, narrowed := true }
def FnExactCommonElementsUptoSaid : Prop := fnExactCommonElementsUptoRow.holds Try.pinned (OpenSpec.upto fnExactCommonElementsSpec)

/-- 'laws.FnExactSplitLater', WHERE WHAT IT READS IS OF BULK AT MOST 1048576: true; the input reads as it did. -/
def fnExactSplitLaterUptoRow : OpenClaim := { program := "ytgmknehioadjhaa", sum := "cb7d05034421d0d287155b94df6040d404dc9fefc7a3e42c5fc73bb818bc20d9", func := "loop.example/g01240/laws.FnExactSplitLater", spec := "fnExactSplitLater", unfollowed := true, recurses := true, plainKeys := false, apart := false, narrowed := true }
def FnExactSplitLaterUptoSaid : Prop := fnExactSplitLaterUptoRow.holds Try.pinned (OpenSpec.upto fnExactSplitLaterSpec)

end Rows
end Go.Proofs.Ytgmknehioadjhaa
