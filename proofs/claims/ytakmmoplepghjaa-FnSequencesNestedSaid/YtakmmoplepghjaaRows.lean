/-
  No cell of these rows narrows 'for every input' (looked for: loops, veiled, ifaces, maps, wideKeys, modest, calm, conditions, laid).
  DERIVED. THE GIVEN ROWS OF THIS SEAT. 4 by the template 'for every input the law returns true; each argument reads behind the call as it read before'; 0 by the template 'total and deterministic' (their statements: YtakmmoplepghjaaTotals.lean).
  GIVEN WITH THE SEED: the statements are not yours to turn. If you find one false, say at which input.
  Laid BY PROGRAM, IN A SANDBOX (cutbox-rows.mjs): the forced cells as the released guide's own fill.sh prints them over the translation f752482b062c48c0… (all of the seat's roots in one cut). By AI agents, Wed Nov 11 2026. No macro, syntax, notation, axiom, sorry.
-/
import Derived.Test.YtakmmoplepghjaaChecked
import GoSem.Claim
import GoSem.ClaimJoined
import GoSem.ClaimMapViews
import Derived.JoinedTies
import Derived.KernelRfl
namespace Go.Proofs.Ytakmmoplepghjaa
/- THE CELL 'sum', in the pinned program and in every row, IS THE sha256 OF THE DUMP (.gsa) THAT YtakmmoplepghjaaProg.lean LOADS. Nothing in Lean hashes anything: it is a label: what it is worth is what the hold of that sum in a sandbox is worth. -/
noncomputable def Try.pinned : Pinned := { name := "ytakmmoplepghjaa", sum := "f752482b062c48c09ad1d9378a6c6baf6517c9d7e3d8adff5973f081192ca730", checked := Try.checked }
namespace Rows
def none {H : Type} : Left H := { results := [], args := [] }

/-- 'laws.FnSequencesCount': WHATEVER THE INPUT: true; the input reads as it did. -/
def fnSequencesCountSpec : ChangeSpec := { name := "fnSequencesCount", fn := fun _ => fun
  | [d1, d2] => { results := [.lit (.bool true)], args := [d1, d2] }
  | _ => none }
def fnSequencesCountRow : OpenClaim := { program := "ytakmmoplepghjaa", sum := "f752482b062c48c09ad1d9378a6c6baf6517c9d7e3d8adff5973f081192ca730", func := "loop.example/g01240/laws.FnSequencesCount", spec := "fnSequencesCount", unfollowed := true, recurses := true, apart := false }
def FnSequencesCountSaid : Prop := fnSequencesCountRow.holds Try.pinned (OpenSpec.ofChange fnSequencesCountSpec)

/-- ITS FALSE NEIGHBOUR: 'it returns false'. Refute it at one input. -/
def fnSequencesCountWrong : ChangeSpec := { name := "fnSequencesCount", fn := fun _ => fun
  | [d1, d2] => { results := [.lit (.bool false)], args := [d1, d2] }
  | _ => none }
def FnSequencesCountWrongFalsely : Prop := fnSequencesCountRow.holds Try.pinned (OpenSpec.ofChange fnSequencesCountWrong)

/-- 'laws.FnSequencesCountOfAll': WHATEVER THE INPUT: true; the input reads as it did. -/
def fnSequencesCountOfAllSpec : ChangeSpec := { name := "fnSequencesCountOfAll", fn := fun _ => fun
  | [d1, d2, d3] => { results := [.lit (.bool true)], args := [d1, d2, d3] }
  | _ => none }
def fnSequencesCountOfAllRow : OpenClaim := { program := "ytakmmoplepghjaa", sum := "f752482b062c48c09ad1d9378a6c6baf6517c9d7e3d8adff5973f081192ca730", func := "loop.example/g01240/laws.FnSequencesCountOfAll", spec := "fnSequencesCountOfAll", unfollowed := true, recurses := true, apart := false }
def FnSequencesCountOfAllSaid : Prop := fnSequencesCountOfAllRow.holds Try.pinned (OpenSpec.ofChange fnSequencesCountOfAllSpec)

/-- ITS FALSE NEIGHBOUR: 'it returns false'. Refute it at one input. -/
def fnSequencesCountOfAllWrong : ChangeSpec := { name := "fnSequencesCountOfAll", fn := fun _ => fun
  | [d1, d2, d3] => { results := [.lit (.bool false)], args := [d1, d2, d3] }
  | _ => none }
def FnSequencesCountOfAllWrongFalsely : Prop := fnSequencesCountOfAllRow.holds Try.pinned (OpenSpec.ofChange fnSequencesCountOfAllWrong)

/-- 'laws.FnSequencesNested': WHATEVER THE INPUT: true; the input reads as it did. -/
def fnSequencesNestedSpec : ChangeSpec := { name := "fnSequencesNested", fn := fun _ => fun
  | [d1, d2] => { results := [.lit (.bool true)], args := [d1, d2] }
  | _ => none }
def fnSequencesNestedRow : OpenClaim := { program := "ytakmmoplepghjaa", sum := "f752482b062c48c09ad1d9378a6c6baf6517c9d7e3d8adff5973f081192ca730", func := "loop.example/g01240/laws.FnSequencesNested", spec := "fnSequencesNested", unfollowed := true, recurses := true, apart := false }
def FnSequencesNestedSaid : Prop := fnSequencesNestedRow.holds Try.pinned (OpenSpec.ofChange fnSequencesNestedSpec)

/-- ITS FALSE NEIGHBOUR: 'it returns false'. Refute it at one input. -/
def fnSequencesNestedWrong : ChangeSpec := { name := "fnSequencesNested", fn := fun _ => fun
  | [d1, d2] => { results := [.lit (.bool false)], args := [d1, d2] }
  | _ => none }
def FnSequencesNestedWrongFalsely : Prop := fnSequencesNestedRow.holds Try.pinned (OpenSpec.ofChange fnSequencesNestedWrong)

/-- 'laws.FnSequencesNestedOfAll': WHATEVER THE INPUT: true; the input reads as it did. -/
def fnSequencesNestedOfAllSpec : ChangeSpec := { name := "fnSequencesNestedOfAll", fn := fun _ => fun
  | [d1, d2, d3, d4, d5, d6, d7] => { results := [.lit (.bool true)], args := [d1, d2, d3, d4, d5, d6, d7] }
  | _ => none }
def fnSequencesNestedOfAllRow : OpenClaim := { program := "ytakmmoplepghjaa", sum := "f752482b062c48c09ad1d9378a6c6baf6517c9d7e3d8adff5973f081192ca730", func := "loop.example/g01240/laws.FnSequencesNestedOfAll", spec := "fnSequencesNestedOfAll", unfollowed := true, recurses := true, apart := false }
def FnSequencesNestedOfAllSaid : Prop := fnSequencesNestedOfAllRow.holds Try.pinned (OpenSpec.ofChange fnSequencesNestedOfAllSpec)

/-- ITS FALSE NEIGHBOUR: 'it returns false'. Refute it at one input. -/
def fnSequencesNestedOfAllWrong : ChangeSpec := { name := "fnSequencesNestedOfAll", fn := fun _ => fun
  | [d1, d2, d3, d4, d5, d6, d7] => { results := [.lit (.bool false)], args := [d1, d2, d3, d4, d5, d6, d7] }
  | _ => none }
def FnSequencesNestedOfAllWrongFalsely : Prop := fnSequencesNestedOfAllRow.holds Try.pinned (OpenSpec.ofChange fnSequencesNestedOfAllWrong)

/- THE SECOND FORM. 'bulk': how many values and letters a reading holds, each counted each time it is reached (what is shared counts as often as it is met; a slice's spare places count too). A statement '..UptoSaid' is the law's where the arguments, and the package variables that the reading takes, are together of bulk at most 1048576: NARROWER than '..Said'. Prove '..Said' where nothing that the law and all that it calls make is longer than what came in: it says more and counts as full. Else prove '..UptoSaid'. A law counts once. -/
mutual
def uptoBulk {H : Type} : DataW H → Nat
  | .lit (.string bytes) => bytes.length + 1
  | .lit _ => 1
  | .nil => 1
  | .ptr d => uptoBulk d + 1
  | .slice elems spare => uptoBulkAll elems + uptoBulkAll spare + 1
  | .agg parts => uptoBulkAll parts + 1
  | .iface _ d => uptoBulk d + 1
  | .map entries => uptoBulkEntries entries + 1
  | .held _ => 1
def uptoBulkAll {H : Type} : List (DataW H) → Nat
  | [] => 0
  | d :: r => uptoBulk d + uptoBulkAll r
def uptoBulkEntries {H : Type} : List (Lit × DataW H) → Nat
  | [] => 0
  | x :: r => uptoBulkEntry x + uptoBulkEntries r
def uptoBulkEntry {H : Type} : Lit × DataW H → Nat
  | (.string bytes, d) => bytes.length + uptoBulk d + 1
  | (_, d) => uptoBulk d + 1
 end
def uptoSmall : (H : Type) → List (DataW H) → Bool := fun _ ds => decide (uptoBulkAll ds ≤ 1048576)
def OpenSpec.upto (s : _root_.Go.ChangeSpec) : _root_.Go.OpenSpec := { _root_.Go.OpenSpec.ofChange s with cond := some uptoSmall }

/-- 'laws.FnSequencesCount', WHERE WHAT IT READS IS OF BULK AT MOST 1048576: true; the input reads as it did. -/
def fnSequencesCountUptoRow : OpenClaim := { program := "ytakmmoplepghjaa", sum := "f752482b062c48c09ad1d9378a6c6baf6517c9d7e3d8adff5973f081192ca730", func := "loop.example/g01240/laws.FnSequencesCount", spec := "fnSequencesCount", unfollowed := true, recurses := true, apart := false, narrowed := true }
def FnSequencesCountUptoSaid : Prop := fnSequencesCountUptoRow.holds Try.pinned (OpenSpec.upto fnSequencesCountSpec)

/-- 'laws.FnSequencesCountOfAll', WHERE WHAT IT READS IS OF BULK AT MOST 1048576: true; the input reads as it did. -/
def fnSequencesCountOfAllUptoRow : OpenClaim := { program := "ytakmmoplepghjaa", sum := "f752482b062c48c09ad1d9378a6c6baf6517c9d7e3d8adff5973f081192ca730", func := "loop.example/g01240/laws.FnSequencesCountOfAll", spec := "fnSequencesCountOfAll", unfollowed := true, recurses := true, apart := false, narrowed := true }
def FnSequencesCountOfAllUptoSaid : Prop := fnSequencesCountOfAllUptoRow.holds Try.pinned (OpenSpec.upto fnSequencesCountOfAllSpec)

/-- 'laws.FnSequencesNested', WHERE WHAT IT READS IS OF BULK AT MOST 1048576: true; the input reads as it did. -/
def fnSequencesNestedUptoRow : OpenClaim := { program := "ytakmmoplepghjaa", sum := "f752482b062c48c09ad1d9378a6c6baf6517c9d7e3d8adff5973f081192ca730", func := "loop.example/g01240/laws.FnSequencesNested", spec := "fnSequencesNested", unfollowed := true, recurses := true, apart := false, narrowed := true }
def FnSequencesNestedUptoSaid : Prop := fnSequencesNestedUptoRow.holds Try.pinned (OpenSpec.upto fnSequencesNestedSpec)

/-- 'laws.FnSequencesNestedOfAll', WHERE WHAT IT READS IS OF BULK AT MOST 1048576: true; the input reads as it did. -/
def fnSequencesNestedOfAllUptoRow : OpenClaim := { program := "ytakmmoplepghjaa", sum := "f752482b062c48c09ad1d9378a6c6baf6517c9d7e3d8adff5973f081192ca730", func := "loop.example/g01240/laws.FnSequencesNestedOfAll", spec := "fnSequencesNestedOfAll", unfollowed := true, recurses := true, apart := false, narrowed := true }
def FnSequencesNestedOfAllUptoSaid : Prop := fnSequencesNestedOfAllUptoRow.holds Try.pinned (OpenSpec.upto fnSequencesNestedOfAllSpec)

end Rows
end Go.Proofs.Ytakmmoplepghjaa
