/-
  No cell of these rows narrows 'for every input' (looked for: loops, veiled, ifaces, maps, wideKeys, modest, calm, conditions, laid).
  DERIVED. THE GIVEN ROWS OF THIS SEAT. 3 by the template 'for every input the law returns true; each argument reads behind the call as it read before'; 0 by the template 'total and deterministic' (their statements: YtpglkgpaaflikaaTotals.lean).
  GIVEN WITH THE SEED: the statements are not yours to turn. If you find one false, say at which input.
  Laid BY PROGRAM, IN A SANDBOX (cutbox-rows.mjs): the forced cells as the released guide's own fill.sh prints them over the translation 351f461240e21f89… (all of the seat's roots in one cut). By AI agents, Wed Nov 11 2026. No macro, syntax, notation, axiom, sorry.
-/
import Derived.Test.YtpglkgpaaflikaaChecked
import GoSem.Claim
import GoSem.ClaimJoined
import GoSem.ClaimMapViews
import Derived.JoinedTies
import Derived.KernelRfl
namespace Go.Proofs.Ytpglkgpaaflikaa
/- THE CELL 'sum', in the pinned program and in every row, IS THE sha256 OF THE DUMP (.gsa) THAT YtpglkgpaaflikaaProg.lean LOADS. Nothing in Lean hashes anything: it is a label: what it is worth is what the hold of that sum in a sandbox is worth. -/
noncomputable def Try.pinned : Pinned := { name := "ytpglkgpaaflikaa", sum := "351f461240e21f89e1477f5d59f3f8f190c845894b2f0b66a5b649806545ce82", checked := Try.checked }
namespace Rows
def none {H : Type} : Left H := { results := [], args := [] }

/-- 'laws.FnDistancesToldOfAll': WHATEVER THE INPUT: true; the input reads as it did. -/
def fnDistancesToldOfAllSpec : ChangeSpec := { name := "fnDistancesToldOfAll", fn := fun _ => fun
  | [d1, d2, d3, d4, d5] => { results := [.lit (.bool true)], args := [d1, d2, d3, d4, d5] }
  | _ => none }
def fnDistancesToldOfAllRow : OpenClaim := { program := "ytpglkgpaaflikaa", sum := "351f461240e21f89e1477f5d59f3f8f190c845894b2f0b66a5b649806545ce82", func := "loop.example/g01240/laws.FnDistancesToldOfAll", spec := "fnDistancesToldOfAll", unfollowed := true, recurses := true, apart := false }
def FnDistancesToldOfAllSaid : Prop := fnDistancesToldOfAllRow.holds Try.pinned (OpenSpec.ofChange fnDistancesToldOfAllSpec)

/-- ITS FALSE NEIGHBOUR: 'it returns false'. Refute it at one input. -/
def fnDistancesToldOfAllWrong : ChangeSpec := { name := "fnDistancesToldOfAll", fn := fun _ => fun
  | [d1, d2, d3, d4, d5] => { results := [.lit (.bool false)], args := [d1, d2, d3, d4, d5] }
  | _ => none }
def FnDistancesToldOfAllWrongFalsely : Prop := fnDistancesToldOfAllRow.holds Try.pinned (OpenSpec.ofChange fnDistancesToldOfAllWrong)

/-- 'laws.FnFormsCounted': WHATEVER THE INPUT: true; the input reads as it did. -/
def fnFormsCountedSpec : ChangeSpec := { name := "fnFormsCounted", fn := fun _ => fun
  | [d1, d2] => { results := [.lit (.bool true)], args := [d1, d2] }
  | _ => none }
def fnFormsCountedRow : OpenClaim := { program := "ytpglkgpaaflikaa", sum := "351f461240e21f89e1477f5d59f3f8f190c845894b2f0b66a5b649806545ce82", func := "loop.example/g01240/laws.FnFormsCounted", spec := "fnFormsCounted", unfollowed := true, recurses := true, apart := false }
def FnFormsCountedSaid : Prop := fnFormsCountedRow.holds Try.pinned (OpenSpec.ofChange fnFormsCountedSpec)

/-- ITS FALSE NEIGHBOUR: 'it returns false'. Refute it at one input. -/
def fnFormsCountedWrong : ChangeSpec := { name := "fnFormsCounted", fn := fun _ => fun
  | [d1, d2] => { results := [.lit (.bool false)], args := [d1, d2] }
  | _ => none }
def FnFormsCountedWrongFalsely : Prop := fnFormsCountedRow.holds Try.pinned (OpenSpec.ofChange fnFormsCountedWrong)

/-- 'laws.FnFormsCountedOfAll': WHATEVER THE INPUT: true; the input reads as it did. -/
def fnFormsCountedOfAllSpec : ChangeSpec := { name := "fnFormsCountedOfAll", fn := fun _ => fun
  | [d1, d2, d3, d4, d5, d6, d7, d8, d9, d10, d11] => { results := [.lit (.bool true)], args := [d1, d2, d3, d4, d5, d6, d7, d8, d9, d10, d11] }
  | _ => none }
def fnFormsCountedOfAllRow : OpenClaim := { program := "ytpglkgpaaflikaa", sum := "351f461240e21f89e1477f5d59f3f8f190c845894b2f0b66a5b649806545ce82", func := "loop.example/g01240/laws.FnFormsCountedOfAll", spec := "fnFormsCountedOfAll", unfollowed := true, recurses := true, apart := false }
def FnFormsCountedOfAllSaid : Prop := fnFormsCountedOfAllRow.holds Try.pinned (OpenSpec.ofChange fnFormsCountedOfAllSpec)

/-- ITS FALSE NEIGHBOUR: 'it returns false'. Refute it at one input. -/
def fnFormsCountedOfAllWrong : ChangeSpec := { name := "fnFormsCountedOfAll", fn := fun _ => fun
  | [d1, d2, d3, d4, d5, d6, d7, d8, d9, d10, d11] => { results := [.lit (.bool false)], args := [d1, d2, d3, d4, d5, d6, d7, d8, d9, d10, d11] }
  | _ => none }
def FnFormsCountedOfAllWrongFalsely : Prop := fnFormsCountedOfAllRow.holds Try.pinned (OpenSpec.ofChange fnFormsCountedOfAllWrong)

/- THE SECOND FORM. 'bulk': how many values and letters a reading holds, each counted each time it is reached (what is shared counts as often as it is met; a slice's spare places count too). A statement '..UptoSaid' is the law's where the arguments, and the package variables that the reading takes, are together of bulk at most 1048576: NARROWER than '..Said'. Prove '..Said' where nothing that the law and all that it calls make is longer than what came in: it says more and counts as full. Else prove '..UptoSaid'. A law counts once. -/
mutual
def uptoBulk {H : Type} : DataW H → Nat
  | .lit (.string bytes) => bytes.length + 1
  | .lit _ => 1
  | .nil => 1
  | .ptr d => uptoBulk d + 1
  | .slice elems spare => uptoBulkAll elems + uptoBulkAll spare + 1
  | .agg parts => uptoBulkAll parts + 1
  | .iface _ d => uptoBulk d + 1
  | .map entries => uptoBulkEntries entries + 1
  | .held _ => 1
def uptoBulkAll {H : Type} : List (DataW H) → Nat
  | [] => 0
  | d :: r => uptoBulk d + uptoBulkAll r
def uptoBulkEntries {H : Type} : List (Lit × DataW H) → Nat
  | [] => 0
  | x :: r => uptoBulkEntry x + uptoBulkEntries r
def uptoBulkEntry {H : Type} : Lit × DataW H → Nat
  | (.string bytes, d) => bytes.length + uptoBulk d + 1
  | (_, d) => uptoBulk d + 1
 end
def uptoSmall : (H : Type) → List (DataW H) → Bool := fun _ ds => decide (uptoBulkAll ds ≤ 1048576)
def OpenSpec.upto (s : _root_.Go.ChangeSpec) : _root_.Go.OpenSpec := { _root_.Go.OpenSpec.ofChange s with cond := some uptoSmall }

/-- 'laws.FnDistancesToldOfAll', WHERE WHAT IT READS IS OF BULK AT MOST 1048576: true; the input reads as it did. -/
def fnDistancesToldOfAllUptoRow : OpenClaim := { program := "ytpglkgpaaflikaa", sum := "351f461240e21f89e1477f5d59f3f8f190c845894b2f0b66a5b649806545ce82", func := "loop.example/g01240/laws.FnDistancesToldOfAll", spec := "fnDistancesToldOfAll", unfollowed := true, recurses := true, apart := false, narrowed := true }
def FnDistancesToldOfAllUptoSaid : Prop := fnDistancesToldOfAllUptoRow.holds Try.pinned (OpenSpec.upto fnDistancesToldOfAllSpec)

/-- 'laws.FnFormsCounted', WHERE WHAT IT READS IS OF BULK AT MOST 1048576: true; the input reads as it did. -/
def fnFormsCountedUptoRow : OpenClaim := { program := "ytpglkgpaaflikaa", sum := "351f461240e21f89e1477f5d59f3f8f190c845894b2f0b66a5b649806545ce82", func := "loop.example/g01240/laws.FnFormsCounted", spec := "fnFormsCounted", unfollowed := true, recurses := true, apart := false, narrowed := true }
def FnFormsCountedUptoSaid : Prop := fnFormsCountedUptoRow.holds Try.pinned (OpenSpec.upto fnFormsCountedSpec)

/-- 'laws.FnFormsCountedOfAll', WHERE WHAT IT READS IS OF BULK AT MOST 1048576: true; the input reads as it did. -/
def fnFormsCountedOfAllUptoRow : OpenClaim := { program := "ytpglkgpaaflikaa", sum := "351f461240e21f89e1477f5d59f3f8f190c845894b2f0b66a5b649806545ce82", func := "loop.example/g01240/laws.FnFormsCountedOfAll", spec := "fnFormsCountedOfAll", unfollowed := true, recurses := true, apart := false, narrowed := true }
def FnFormsCountedOfAllUptoSaid : Prop := fnFormsCountedOfAllUptoRow.holds Try.pinned (OpenSpec.upto fnFormsCountedOfAllSpec)

end Rows
end Go.Proofs.Ytpglkgpaaflikaa
