/-
  No cell of these rows narrows 'for every input' (looked for: loops, veiled, ifaces, maps, wideKeys, modest, calm, conditions, laid).
  DERIVED. THE GIVEN ROWS OF THIS SEAT. 11 by the template 'for every input the law returns true; each argument reads behind the call as it read before'; 0 by the template 'total and deterministic' (their statements: YteiclnfeabfadaaTotals.lean).
  GIVEN WITH THE SEED: the statements are not yours to turn. If you find one false, say at which input.
  Laid BY PROGRAM, IN A SANDBOX (cutbox-rows.mjs): the forced cells as the released guide's own fill.sh prints them over the translation 2c6d0e191e0b545b… (all of the seat's roots in one cut). By AI agents, Wed Nov 11 2026. No macro, syntax, notation, axiom, sorry.
-/
import Derived.Test.YteiclnfeabfadaaChecked
import GoSem.Claim
import GoSem.ClaimJoined
import GoSem.ClaimMapViews
import Derived.JoinedTies
import Derived.KernelRfl
namespace Go.Proofs.Yteiclnfeabfadaa
/- THE CELL 'sum', in the pinned program and in every row, IS THE sha256 OF THE DUMP (.gsa) THAT YteiclnfeabfadaaProg.lean LOADS. Nothing in Lean hashes anything: it is a label: what it is worth is what the hold of that sum in a sandbox is worth. -/
noncomputable def Try.pinned : Pinned := { name := "yteiclnfeabfadaa", sum := "2c6d0e191e0b545be1d99eb668a4036f2e27b87148a6cd00e5310a0bef76f41d", checked := Try.checked }
namespace Rows
def none {H : Type} : Left H := { results := [], args := [] }

/-- 'laws.FnExactGolombOf': WHATEVER THE INPUT: true; the input reads as it did. -/
def fnExactGolombOfSpec : ChangeSpec := { name := "fnExactGolombOf", fn := fun _ => fun
  | [d] => { results := [.lit (.bool true)], args := [d] }
  | _ => none }
def fnExactGolombOfRow : OpenClaim := { program := "yteiclnfeabfadaa", sum := "2c6d0e191e0b545be1d99eb668a4036f2e27b87148a6cd00e5310a0bef76f41d", func := "loop.example/g01240/laws.FnExactGolombOf", spec := "fnExactGolombOf", unfollowed := true, recurses := true, apart := false }
def FnExactGolombOfSaid : Prop := fnExactGolombOfRow.holds Try.pinned (OpenSpec.ofChange fnExactGolombOfSpec)

/-- ITS FALSE NEIGHBOUR: 'it returns false'. Refute it at one input. -/
def fnExactGolombOfWrong : ChangeSpec := { name := "fnExactGolombOf", fn := fun _ => fun
  | [d] => { results := [.lit (.bool false)], args := [d] }
  | _ => none }
def FnExactGolombOfWrongFalsely : Prop := fnExactGolombOfRow.holds Try.pinned (OpenSpec.ofChange fnExactGolombOfWrong)

/-- 'laws.FnExactGolombList': WHATEVER THE INPUT: true; the input reads as it did. -/
def fnExactGolombListSpec : ChangeSpec := { name := "fnExactGolombList", fn := fun _ => fun
  | [d] => { results := [.lit (.bool true)], args := [d] }
  | _ => none }
def fnExactGolombListRow : OpenClaim := { program := "yteiclnfeabfadaa", sum := "2c6d0e191e0b545be1d99eb668a4036f2e27b87148a6cd00e5310a0bef76f41d", func := "loop.example/g01240/laws.FnExactGolombList", spec := "fnExactGolombList", unfollowed := true, recurses := true, apart := false }
def FnExactGolombListSaid : Prop := fnExactGolombListRow.holds Try.pinned (OpenSpec.ofChange fnExactGolombListSpec)

/-- ITS FALSE NEIGHBOUR: 'it returns false'. Refute it at one input. -/
def fnExactGolombListWrong : ChangeSpec := { name := "fnExactGolombList", fn := fun _ => fun
  | [d] => { results := [.lit (.bool false)], args := [d] }
  | _ => none }
def FnExactGolombListWrongFalsely : Prop := fnExactGolombListRow.holds Try.pinned (OpenSpec.ofChange fnExactGolombListWrong)

/-- 'laws.FnExactGolombTimes': WHATEVER THE INPUT: true; the input reads as it did. -/
def fnExactGolombTimesSpec : ChangeSpec := { name := "fnExactGolombTimes", fn := fun _ => fun
  | [d] => { results := [.lit (.bool true)], args := [d] }
  | _ => none }
def fnExactGolombTimesRow : OpenClaim := { program := "yteiclnfeabfadaa", sum := "2c6d0e191e0b545be1d99eb668a4036f2e27b87148a6cd00e5310a0bef76f41d", func := "loop.example/g01240/laws.FnExactGolombTimes", spec := "fnExactGolombTimes", unfollowed := true, recurses := true, apart := false }
def FnExactGolombTimesSaid : Prop := fnExactGolombTimesRow.holds Try.pinned (OpenSpec.ofChange fnExactGolombTimesSpec)

/-- ITS FALSE NEIGHBOUR: 'it returns false'. Refute it at one input. -/
def fnExactGolombTimesWrong : ChangeSpec := { name := "fnExactGolombTimes", fn := fun _ => fun
  | [d] => { results := [.lit (.bool false)], args := [d] }
  | _ => none }
def FnExactGolombTimesWrongFalsely : Prop := fnExactGolombTimesRow.holds Try.pinned (OpenSpec.ofChange fnExactGolombTimesWrong)

/-- 'laws.FnExactGolombLast': WHATEVER THE INPUT: true; the input reads as it did. -/
def fnExactGolombLastSpec : ChangeSpec := { name := "fnExactGolombLast", fn := fun _ => fun
  | [d] => { results := [.lit (.bool true)], args := [d] }
  | _ => none }
def fnExactGolombLastRow : OpenClaim := { program := "yteiclnfeabfadaa", sum := "2c6d0e191e0b545be1d99eb668a4036f2e27b87148a6cd00e5310a0bef76f41d", func := "loop.example/g01240/laws.FnExactGolombLast", spec := "fnExactGolombLast", unfollowed := true, recurses := true, apart := false }
def FnExactGolombLastSaid : Prop := fnExactGolombLastRow.holds Try.pinned (OpenSpec.ofChange fnExactGolombLastSpec)

/-- ITS FALSE NEIGHBOUR: 'it returns false'. Refute it at one input. -/
def fnExactGolombLastWrong : ChangeSpec := { name := "fnExactGolombLast", fn := fun _ => fun
  | [d] => { results := [.lit (.bool false)], args := [d] }
  | _ => none }
def FnExactGolombLastWrongFalsely : Prop := fnExactGolombLastRow.holds Try.pinned (OpenSpec.ofChange fnExactGolombLastWrong)

/-- 'laws.FnExactGolombSum': WHATEVER THE INPUT: true; the input reads as it did. -/
def fnExactGolombSumSpec : ChangeSpec := { name := "fnExactGolombSum", fn := fun _ => fun
  | [d] => { results := [.lit (.bool true)], args := [d] }
  | _ => none }
def fnExactGolombSumRow : OpenClaim := { program := "yteiclnfeabfadaa", sum := "2c6d0e191e0b545be1d99eb668a4036f2e27b87148a6cd00e5310a0bef76f41d", func := "loop.example/g01240/laws.FnExactGolombSum", spec := "fnExactGolombSum", unfollowed := true, recurses := true, apart := false }
def FnExactGolombSumSaid : Prop := fnExactGolombSumRow.holds Try.pinned (OpenSpec.ofChange fnExactGolombSumSpec)

/-- ITS FALSE NEIGHBOUR: 'it returns false'. Refute it at one input. -/
def fnExactGolombSumWrong : ChangeSpec := { name := "fnExactGolombSum", fn := fun _ => fun
  | [d] => { results := [.lit (.bool false)], args := [d] }
  | _ => none }
def FnExactGolombSumWrongFalsely : Prop := fnExactGolombSumRow.holds Try.pinned (OpenSpec.ofChange fnExactGolombSumWrong)

/-- 'laws.FnExactBackOf': WHATEVER THE INPUT: true; the input reads as it did. -/
def fnExactBackOfSpec : ChangeSpec := { name := "fnExactBackOf", fn := fun _ => fun
  | [d] => { results := [.lit (.bool true)], args := [d] }
  | _ => none }
def fnExactBackOfRow : OpenClaim := { program := "yteiclnfeabfadaa", sum := "2c6d0e191e0b545be1d99eb668a4036f2e27b87148a6cd00e5310a0bef76f41d", func := "loop.example/g01240/laws.FnExactBackOf", spec := "fnExactBackOf", unfollowed := true, recurses := true, apart := false }
def FnExactBackOfSaid : Prop := fnExactBackOfRow.holds Try.pinned (OpenSpec.ofChange fnExactBackOfSpec)

/-- ITS FALSE NEIGHBOUR: 'it returns false'. Refute it at one input. -/
def fnExactBackOfWrong : ChangeSpec := { name := "fnExactBackOf", fn := fun _ => fun
  | [d] => { results := [.lit (.bool false)], args := [d] }
  | _ => none }
def FnExactBackOfWrongFalsely : Prop := fnExactBackOfRow.holds Try.pinned (OpenSpec.ofChange fnExactBackOfWrong)

/-- 'laws.FnExactBackList': WHATEVER THE INPUT: true; the input reads as it did. -/
def fnExactBackListSpec : ChangeSpec := { name := "fnExactBackList", fn := fun _ => fun
  | [d] => { results := [.lit (.bool true)], args := [d] }
  | _ => none }
def fnExactBackListRow : OpenClaim := { program := "yteiclnfeabfadaa", sum := "2c6d0e191e0b545be1d99eb668a4036f2e27b87148a6cd00e5310a0bef76f41d", func := "loop.example/g01240/laws.FnExactBackList", spec := "fnExactBackList", unfollowed := true, recurses := true, apart := false }
def FnExactBackListSaid : Prop := fnExactBackListRow.holds Try.pinned (OpenSpec.ofChange fnExactBackListSpec)

/-- ITS FALSE NEIGHBOUR: 'it returns false'. Refute it at one input. -/
def fnExactBackListWrong : ChangeSpec := { name := "fnExactBackList", fn := fun _ => fun
  | [d] => { results := [.lit (.bool false)], args := [d] }
  | _ => none }
def FnExactBackListWrongFalsely : Prop := fnExactBackListRow.holds Try.pinned (OpenSpec.ofChange fnExactBackListWrong)

/-- 'laws.FnExactBackExcess': WHATEVER THE INPUT: true; the input reads as it did. -/
def fnExactBackExcessSpec : ChangeSpec := { name := "fnExactBackExcess", fn := fun _ => fun
  | [d] => { results := [.lit (.bool true)], args := [d] }
  | _ => none }
def fnExactBackExcessRow : OpenClaim := { program := "yteiclnfeabfadaa", sum := "2c6d0e191e0b545be1d99eb668a4036f2e27b87148a6cd00e5310a0bef76f41d", func := "loop.example/g01240/laws.FnExactBackExcess", spec := "fnExactBackExcess", unfollowed := true, recurses := true, apart := false }
def FnExactBackExcessSaid : Prop := fnExactBackExcessRow.holds Try.pinned (OpenSpec.ofChange fnExactBackExcessSpec)

/-- ITS FALSE NEIGHBOUR: 'it returns false'. Refute it at one input. -/
def fnExactBackExcessWrong : ChangeSpec := { name := "fnExactBackExcess", fn := fun _ => fun
  | [d] => { results := [.lit (.bool false)], args := [d] }
  | _ => none }
def FnExactBackExcessWrongFalsely : Prop := fnExactBackExcessRow.holds Try.pinned (OpenSpec.ofChange fnExactBackExcessWrong)

/-- 'laws.FnExactNestedOf': WHATEVER THE INPUT: true; the input reads as it did. -/
def fnExactNestedOfSpec : ChangeSpec := { name := "fnExactNestedOf", fn := fun _ => fun
  | [d] => { results := [.lit (.bool true)], args := [d] }
  | _ => none }
def fnExactNestedOfRow : OpenClaim := { program := "yteiclnfeabfadaa", sum := "2c6d0e191e0b545be1d99eb668a4036f2e27b87148a6cd00e5310a0bef76f41d", func := "loop.example/g01240/laws.FnExactNestedOf", spec := "fnExactNestedOf", unfollowed := true, recurses := true, apart := false }
def FnExactNestedOfSaid : Prop := fnExactNestedOfRow.holds Try.pinned (OpenSpec.ofChange fnExactNestedOfSpec)

/-- ITS FALSE NEIGHBOUR: 'it returns false'. Refute it at one input. -/
def fnExactNestedOfWrong : ChangeSpec := { name := "fnExactNestedOf", fn := fun _ => fun
  | [d] => { results := [.lit (.bool false)], args := [d] }
  | _ => none }
def FnExactNestedOfWrongFalsely : Prop := fnExactNestedOfRow.holds Try.pinned (OpenSpec.ofChange fnExactNestedOfWrong)

/-- 'laws.FnExactNestedTimes': WHATEVER THE INPUT: true; the input reads as it did. -/
def fnExactNestedTimesSpec : ChangeSpec := { name := "fnExactNestedTimes", fn := fun _ => fun
  | [d] => { results := [.lit (.bool true)], args := [d] }
  | _ => none }
def fnExactNestedTimesRow : OpenClaim := { program := "yteiclnfeabfadaa", sum := "2c6d0e191e0b545be1d99eb668a4036f2e27b87148a6cd00e5310a0bef76f41d", func := "loop.example/g01240/laws.FnExactNestedTimes", spec := "fnExactNestedTimes", unfollowed := true, recurses := true, apart := false }
def FnExactNestedTimesSaid : Prop := fnExactNestedTimesRow.holds Try.pinned (OpenSpec.ofChange fnExactNestedTimesSpec)

/-- ITS FALSE NEIGHBOUR: 'it returns false'. Refute it at one input. -/
def fnExactNestedTimesWrong : ChangeSpec := { name := "fnExactNestedTimes", fn := fun _ => fun
  | [d] => { results := [.lit (.bool false)], args := [d] }
  | _ => none }
def FnExactNestedTimesWrongFalsely : Prop := fnExactNestedTimesRow.holds Try.pinned (OpenSpec.ofChange fnExactNestedTimesWrong)

/-- 'laws.FnExactWildOf': WHATEVER THE INPUT: true; the input reads as it did. -/
def fnExactWildOfSpec : ChangeSpec := { name := "fnExactWildOf", fn := fun _ => fun
  | [d] => { results := [.lit (.bool true)], args := [d] }
  | _ => none }
def fnExactWildOfRow : OpenClaim := { program := "yteiclnfeabfadaa", sum := "2c6d0e191e0b545be1d99eb668a4036f2e27b87148a6cd00e5310a0bef76f41d", func := "loop.example/g01240/laws.FnExactWildOf", spec := "fnExactWildOf", unfollowed := true, recurses := true, apart := false }
def FnExactWildOfSaid : Prop := fnExactWildOfRow.holds Try.pinned (OpenSpec.ofChange fnExactWildOfSpec)

/-- ITS FALSE NEIGHBOUR: 'it returns false'. Refute it at one input. -/
def fnExactWildOfWrong : ChangeSpec := { name := "fnExactWildOf", fn := fun _ => fun
  | [d] => { results := [.lit (.bool false)], args := [d] }
  | _ => none }
def FnExactWildOfWrongFalsely : Prop := fnExactWildOfRow.holds Try.pinned (OpenSpec.ofChange fnExactWildOfWrong)

/- THE SECOND FORM. 'bulk': how many values and letters a reading holds, each counted each time it is reached (what is shared counts as often as it is met; a slice's spare places count too). A statement '..UptoSaid' is the law's where the arguments, and the package variables that the reading takes, are together of bulk at most 1048576: NARROWER than '..Said'. Prove '..Said' where nothing that the law and all that it calls make is longer than what came in: it says more and counts as full. Else prove '..UptoSaid'. A law counts once. -/
mutual
def uptoBulk {H : Type} : DataW H → Nat
  | .lit (.string bytes) => bytes.length + 1
  | .lit _ => 1
  | .nil => 1
  | .ptr d => uptoBulk d + 1
  | .slice elems spare => uptoBulkAll elems + uptoBulkAll spare + 1
  | .agg parts => uptoBulkAll parts + 1
  | .iface _ d => uptoBulk d + 1
  | .map entries => uptoBulkEntries entries + 1
  | .held _ => 1
def uptoBulkAll {H : Type} : List (DataW H) → Nat
  | [] => 0
  | d :: r => uptoBulk d + uptoBulkAll r
def uptoBulkEntries {H : Type} : List (Lit × DataW H) → Nat
  | [] => 0
  | x :: r => uptoBulkEntry x + uptoBulkEntries r
def uptoBulkEntry {H : Type} : Lit × DataW H → Nat
  | (.string bytes, d) => bytes.length + uptoBulk d + 1
  | (_, d) => uptoBulk d + 1
 end
def uptoSmall : (H : Type) → List (DataW H) → Bool := fun _ ds => decide (uptoBulkAll ds ≤ 1048576)
def OpenSpec.upto (s : _root_.Go.ChangeSpec) : _root_.Go.OpenSpec := { _root_.Go.OpenSpec.ofChange s with cond := some uptoSmall }

/-- 'laws.FnExactGolombOf', WHERE WHAT IT READS IS OF BULK AT MOST 1048576: true; the input reads as it did. -/
def fnExactGolombOfUptoRow : OpenClaim := { program := "yteiclnfeabfadaa", sum := "2c6d0e191e0b545be1d99eb668a4036f2e27b87148a6cd00e5310a0bef76f41d", func := "loop.example/g01240/laws.FnExactGolombOf", spec := "fnExactGolombOf", unfollowed := true, recurses := true, apart := false, narrowed := true }
def FnExactGolombOfUptoSaid : Prop := fnExactGolombOfUptoRow.holds Try.pinned (OpenSpec.upto fnExactGolombOfSpec)

/-- 'laws.FnExactGolombList', WHERE WHAT IT READS IS OF BULK AT MOST 1048576: true; the input reads as it did. -/
def fnExactGolombListUptoRow : OpenClaim := { program := "yteiclnfeabfadaa", sum := "2c6d0e191e0b545be1d99eb668a4036f2e27b87148a6cd00e5310a0bef76f41d", func := "loop.example/g01240/laws.FnExactGolombList", spec := "fnExactGolombList", unfollowed := true, recurses := true, apart := false, narrowed := true }
def FnExactGolombListUptoSaid : Prop := fnExactGolombListUptoRow.holds Try.pinned (OpenSpec.upto fnExactGolombListSpec)

/-- 'laws.FnExactGolombTimes', WHERE WHAT IT READS IS OF BULK AT MOST 1048576: true; the input reads as it did. -/
def fnExactGolombTimesUptoRow : OpenClaim := { program := "yteiclnfeabfadaa", sum := "2c6d0e191e0b545be1d99eb668a4036f2e27b87148a6cd00e5310a0bef76f41d", func := "loop.example/g01240/laws.FnExactGolombTimes", spec := "fnExactGolombTimes", unfollowed := true, recurses := true, apart := false, narrowed := true }
def FnExactGolombTimesUptoSaid : Prop := fnExactGolombTimesUptoRow.holds Try.pinned (OpenSpec.upto fnExactGolombTimesSpec)

/-- 'laws.FnExactGolombLast', WHERE WHAT IT READS IS OF BULK AT MOST 1048576: true; the input reads as it did. -/
def fnExactGolombLastUptoRow : OpenClaim := { program := "yteiclnfeabfadaa", sum := "2c6d0e191e0b545be1d99eb668a4036f2e27b87148a6cd00e5310a0bef76f41d", func := "loop.example/g01240/laws.FnExactGolombLast", spec := "fnExactGolombLast", unfollowed := true, recurses := true, apart := false, narrowed := true }
def FnExactGolombLastUptoSaid : Prop := fnExactGolombLastUptoRow.holds Try.pinned (OpenSpec.upto fnExactGolombLastSpec)

/-- 'laws.FnExactGolombSum', WHERE WHAT IT READS IS OF BULK AT MOST 1048576: true; the input reads as it did. -/
def fnExactGolombSumUptoRow : OpenClaim := { program := "yteiclnfeabfadaa", sum := "2c6d0e191e0b545be1d99eb668a4036f2e27b87148a6cd00e5310a0bef76f41d", func := "loop.example/g01240/laws.FnExactGolombSum", spec := "fnExactGolombSum", unfollowed := true, recurses := true, apart := false, narrowed := true }
def FnExactGolombSumUptoSaid : Prop := fnExactGolombSumUptoRow.holds Try.pinned (OpenSpec.upto fnExactGolombSumSpec)

/-- 'laws.FnExactBackOf', WHERE WHAT IT READS IS OF BULK AT MOST 1048576: true; the input reads as it did. -/
def fnExactBackOfUptoRow : OpenClaim := { program := "yteiclnfeabfadaa", sum := "2c6d0e191e0b545be1d99eb668a4036f2e27b87148a6cd00e5310a0bef76f41d", func := "loop.example/g01240/laws.FnExactBackOf", spec := "fnExactBackOf", unfollowed := true, recurses := true, apart := false, narrowed := true }
def FnExactBackOfUptoSaid : Prop := fnExactBackOfUptoRow.holds Try.pinned (OpenSpec.upto fnExactBackOfSpec)

/-- 'laws.FnExactBackList', WHERE WHAT IT READS IS OF BULK AT MOST 1048576: true; the input reads as it did. -/
def fnExactBackListUptoRow : OpenClaim := { program := "yteiclnfeabfadaa", sum := "2c6d0e191e0b545be1d99eb668a4036f2e27b87148a6cd00e5310a0bef76f41d", func := "loop.example/g01240/laws.FnExactBackList", spec := "fnExactBackList", unfollowed := true, recurses := true, apart := false, narrowed := true }
def FnExactBackListUptoSaid : Prop := fnExactBackListUptoRow.holds Try.pinned (OpenSpec.upto fnExactBackListSpec)

/-- 'laws.FnExactBackExcess', WHERE WHAT IT READS IS OF BULK AT MOST 1048576: true; the input reads as it did. -/
def fnExactBackExcessUptoRow : OpenClaim := { program := "yteiclnfeabfadaa", sum := "2c6d0e191e0b545be1d99eb668a4036f2e27b87148a6cd00e5310a0bef76f41d", func := "loop.example/g01240/laws.FnExactBackExcess", spec := "fnExactBackExcess", unfollowed := true, recurses := true, apart := false, narrowed := true }
def FnExactBackExcessUptoSaid : Prop := fnExactBackExcessUptoRow.holds Try.pinned (OpenSpec.upto fnExactBackExcessSpec)

/-- 'laws.FnExactNestedOf', WHERE WHAT IT READS IS OF BULK AT MOST 1048576: true; the input reads as it did. -/
def fnExactNestedOfUptoRow : OpenClaim := { program := "yteiclnfeabfadaa", sum := "2c6d0e191e0b545be1d99eb668a4036f2e27b87148a6cd00e5310a0bef76f41d", func := "loop.example/g01240/laws.FnExactNestedOf", spec := "fnExactNestedOf", unfollowed := true, recurses := true, apart := false, narrowed := true }
def FnExactNestedOfUptoSaid : Prop := fnExactNestedOfUptoRow.holds Try.pinned (OpenSpec.upto fnExactNestedOfSpec)

/-- 'laws.FnExactNestedTimes', WHERE WHAT IT READS IS OF BULK AT MOST 1048576: true; the input reads as it did. -/
def fnExactNestedTimesUptoRow : OpenClaim := { program := "yteiclnfeabfadaa", sum := "2c6d0e191e0b545be1d99eb668a4036f2e27b87148a6cd00e5310a0bef76f41d", func := "loop.example/g01240/laws.FnExactNestedTimes", spec := "fnExactNestedTimes", unfollowed := true, recurses := true, apart := false, narrowed := true }
def FnExactNestedTimesUptoSaid : Prop := fnExactNestedTimesUptoRow.holds Try.pinned (OpenSpec.upto fnExactNestedTimesSpec)

/-- 'laws.FnExactWildOf', WHERE WHAT IT READS IS OF BULK AT MOST 1048576: true; the input reads as it did. -/
def fnExactWildOfUptoRow : OpenClaim := { program := "yteiclnfeabfadaa", sum := "2c6d0e191e0b545be1d99eb668a4036f2e27b87148a6cd00e5310a0bef76f41d", func := "loop.example/g01240/laws.FnExactWildOf", spec := "fnExactWildOf", unfollowed := true, recurses := true, apart := false, narrowed := true }
def FnExactWildOfUptoSaid : Prop := fnExactWildOfUptoRow.holds Try.pinned (OpenSpec.upto fnExactWildOfSpec)

end Rows
end Go.Proofs.Yteiclnfeabfadaa
