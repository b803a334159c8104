/-
  No cell of these rows narrows 'for every input' (looked for: loops, veiled, ifaces, maps, wideKeys, modest, calm, conditions, laid).
  DERIVED. THE GIVEN ROWS OF THIS SEAT. 4 by the template 'for every input the law returns true; each argument reads behind the call as it read before'; 0 by the template 'total and deterministic' (their statements: YtkdoghopbefjfaaTotals.lean).
  GIVEN WITH THE SEED: the statements are not yours to turn. If you find one false, say at which input.
  Laid BY PROGRAM, IN A SANDBOX (cutbox-rows.mjs): the forced cells as the released guide's own fill.sh prints them over the translation 42411156a4fdedda… (all of the seat's roots in one cut). By AI agents, Wed Nov 11 2026. No macro, syntax, notation, axiom, sorry.
-/
import Derived.Test.YtkdoghopbefjfaaChecked
import GoSem.Claim
import GoSem.ClaimJoined
import GoSem.ClaimMapViews
import Derived.JoinedTies
import Derived.KernelRfl
namespace Go.Proofs.Ytkdoghopbefjfaa
/- THE CELL 'sum', in the pinned program and in every row, IS THE sha256 OF THE DUMP (.gsa) THAT YtkdoghopbefjfaaProg.lean LOADS. Nothing in Lean hashes anything: it is a label: what it is worth is what the hold of that sum in a sandbox is worth. -/
noncomputable def Try.pinned : Pinned := { name := "ytkdoghopbefjfaa", sum := "42411156a4fdedda7a6993de3abf8dccf0a8bcbb6346761c66d760708d4c2d1d", checked := Try.checked }
namespace Rows
def none {H : Type} : Left H := { results := [], args := [] }

/-- 'laws.FnInventoriesLoop': WHATEVER THE INPUT: true; the input reads as it did. -/
def fnInventoriesLoopSpec : ChangeSpec := { name := "fnInventoriesLoop", fn := fun _ => fun
  | [d1, d2] => { results := [.lit (.bool true)], args := [d1, d2] }
  | _ => none }
def fnInventoriesLoopRow : OpenClaim := { program := "ytkdoghopbefjfaa", sum := "42411156a4fdedda7a6993de3abf8dccf0a8bcbb6346761c66d760708d4c2d1d", func := "loop.example/g01240/laws.FnInventoriesLoop", spec := "fnInventoriesLoop", unfollowed := true, recurses := true, apart := false }
def FnInventoriesLoopSaid : Prop := fnInventoriesLoopRow.holds Try.pinned (OpenSpec.ofChange fnInventoriesLoopSpec)

/-- ITS FALSE NEIGHBOUR: 'it returns false'. Refute it at one input. -/
def fnInventoriesLoopWrong : ChangeSpec := { name := "fnInventoriesLoop", fn := fun _ => fun
  | [d1, d2] => { results := [.lit (.bool false)], args := [d1, d2] }
  | _ => none }
def FnInventoriesLoopWrongFalsely : Prop := fnInventoriesLoopRow.holds Try.pinned (OpenSpec.ofChange fnInventoriesLoopWrong)

/-- 'laws.FnInventoriesLoopOfAll': WHATEVER THE INPUT: true; the input reads as it did. -/
def fnInventoriesLoopOfAllSpec : ChangeSpec := { name := "fnInventoriesLoopOfAll", fn := fun _ => fun
  | [d1, d2, d3, d4, d5, d6] => { results := [.lit (.bool true)], args := [d1, d2, d3, d4, d5, d6] }
  | _ => none }
def fnInventoriesLoopOfAllRow : OpenClaim := { program := "ytkdoghopbefjfaa", sum := "42411156a4fdedda7a6993de3abf8dccf0a8bcbb6346761c66d760708d4c2d1d", func := "loop.example/g01240/laws.FnInventoriesLoopOfAll", spec := "fnInventoriesLoopOfAll", unfollowed := true, recurses := true, apart := false }
def FnInventoriesLoopOfAllSaid : Prop := fnInventoriesLoopOfAllRow.holds Try.pinned (OpenSpec.ofChange fnInventoriesLoopOfAllSpec)

/-- ITS FALSE NEIGHBOUR: 'it returns false'. Refute it at one input. -/
def fnInventoriesLoopOfAllWrong : ChangeSpec := { name := "fnInventoriesLoopOfAll", fn := fun _ => fun
  | [d1, d2, d3, d4, d5, d6] => { results := [.lit (.bool false)], args := [d1, d2, d3, d4, d5, d6] }
  | _ => none }
def FnInventoriesLoopOfAllWrongFalsely : Prop := fnInventoriesLoopOfAllRow.holds Try.pinned (OpenSpec.ofChange fnInventoriesLoopOfAllWrong)

/-- 'laws.FnListsTold': WHATEVER THE INPUT: true; the input reads as it did. -/
def fnListsToldSpec : ChangeSpec := { name := "fnListsTold", fn := fun _ => fun
  | [d1, d2] => { results := [.lit (.bool true)], args := [d1, d2] }
  | _ => none }
def fnListsToldRow : OpenClaim := { program := "ytkdoghopbefjfaa", sum := "42411156a4fdedda7a6993de3abf8dccf0a8bcbb6346761c66d760708d4c2d1d", func := "loop.example/g01240/laws.FnListsTold", spec := "fnListsTold", unfollowed := true, recurses := true, apart := false }
def FnListsToldSaid : Prop := fnListsToldRow.holds Try.pinned (OpenSpec.ofChange fnListsToldSpec)

/-- ITS FALSE NEIGHBOUR: 'it returns false'. Refute it at one input. -/
def fnListsToldWrong : ChangeSpec := { name := "fnListsTold", fn := fun _ => fun
  | [d1, d2] => { results := [.lit (.bool false)], args := [d1, d2] }
  | _ => none }
def FnListsToldWrongFalsely : Prop := fnListsToldRow.holds Try.pinned (OpenSpec.ofChange fnListsToldWrong)

/-- 'laws.FnListsToldOfAll': WHATEVER THE INPUT: true; the input reads as it did. -/
def fnListsToldOfAllSpec : ChangeSpec := { name := "fnListsToldOfAll", fn := fun _ => fun
  | [d1, d2, d3, d4] => { results := [.lit (.bool true)], args := [d1, d2, d3, d4] }
  | _ => none }
def fnListsToldOfAllRow : OpenClaim := { program := "ytkdoghopbefjfaa", sum := "42411156a4fdedda7a6993de3abf8dccf0a8bcbb6346761c66d760708d4c2d1d", func := "loop.example/g01240/laws.FnListsToldOfAll", spec := "fnListsToldOfAll", unfollowed := true, recurses := true, apart := false }
def FnListsToldOfAllSaid : Prop := fnListsToldOfAllRow.holds Try.pinned (OpenSpec.ofChange fnListsToldOfAllSpec)

/-- ITS FALSE NEIGHBOUR: 'it returns false'. Refute it at one input. -/
def fnListsToldOfAllWrong : ChangeSpec := { name := "fnListsToldOfAll", fn := fun _ => fun
  | [d1, d2, d3, d4] => { results := [.lit (.bool false)], args := [d1, d2, d3, d4] }
  | _ => none }
def FnListsToldOfAllWrongFalsely : Prop := fnListsToldOfAllRow.holds Try.pinned (OpenSpec.ofChange fnListsToldOfAllWrong)

/- THE SECOND FORM. 'bulk': how many values and letters a reading holds, each counted each time it is reached (what is shared counts as often as it is met; a slice's spare places count too). A statement '..UptoSaid' is the law's where the arguments, and the package variables that the reading takes, are together of bulk at most 1048576: NARROWER than '..Said'. Prove '..Said' where nothing that the law and all that it calls make is longer than what came in: it says more and counts as full. Else prove '..UptoSaid'. A law counts once. -/
mutual
def uptoBulk {H : Type} : DataW H → Nat
  | .lit (.string bytes) => bytes.length + 1
  | .lit _ => 1
  | .nil => 1
  | .ptr d => uptoBulk d + 1
  | .slice elems spare => uptoBulkAll elems + uptoBulkAll spare + 1
  | .agg parts => uptoBulkAll parts + 1
  | .iface _ d => uptoBulk d + 1
  | .map entries => uptoBulkEntries entries + 1
  | .held _ => 1
def uptoBulkAll {H : Type} : List (DataW H) → Nat
  | [] => 0
  | d :: r => uptoBulk d + uptoBulkAll r
def uptoBulkEntries {H : Type} : List (Lit × DataW H) → Nat
  | [] => 0
  | x :: r => uptoBulkEntry x + uptoBulkEntries r
def uptoBulkEntry {H : Type} : Lit × DataW H → Nat
  | (.string bytes, d) => bytes.length + uptoBulk d + 1
  | (_, d) => uptoBulk d + 1
 end
def uptoSmall : (H : Type) → List (DataW H) → Bool := fun _ ds => decide (uptoBulkAll ds ≤ 1048576)
def OpenSpec.upto (s : _root_.Go.ChangeSpec) : _root_.Go.OpenSpec := { _root_.Go.OpenSpec.ofChange s with cond := some uptoSmall }

/-- 'laws.FnInventoriesLoop', WHERE WHAT IT READS IS OF BULK AT MOST 1048576: true; the input reads as it did. -/
def fnInventoriesLoopUptoRow : OpenClaim := { program := "ytkdoghopbefjfaa", sum := "42411156a4fdedda7a6993de3abf8dccf0a8bcbb6346761c66d760708d4c2d1d", func := "loop.example/g01240/laws.FnInventoriesLoop", spec := "fnInventoriesLoop", unfollowed := true, recurses := true, apart := false, narrowed := true }
def FnInventoriesLoopUptoSaid : Prop := fnInventoriesLoopUptoRow.holds Try.pinned (OpenSpec.upto fnInventoriesLoopSpec)

/-- 'laws.FnInventoriesLoopOfAll', WHERE WHAT IT READS IS OF BULK AT MOST 1048576: true; the input reads as it did. -/
def fnInventoriesLoopOfAllUptoRow : OpenClaim := { program := "ytkdoghopbefjfaa", sum := "42411156a4fdedda7a6993de3abf8dccf0a8bcbb6346761c66d760708d4c2d1d", func := "loop.example/g01240/laws.FnInventoriesLoopOfAll", spec := "fnInventoriesLoopOfAll", unfollowed := true, recurses := true, apart := false, narrowed := true }
def FnInventoriesLoopOfAllUptoSaid : Prop := fnInventoriesLoopOfAllUptoRow.holds Try.pinned (OpenSpec.upto fnInventoriesLoopOfAllSpec)

/-- 'laws.FnListsTold', WHERE WHAT IT READS IS OF BULK AT MOST 1048576: true; the input reads as it did. -/
def fnListsToldUptoRow : OpenClaim := { program := "ytkdoghopbefjfaa", sum := "42411156a4fdedda7a6993de3abf8dccf0a8bcbb6346761c66d760708d4c2d1d", func := "loop.example/g01240/laws.FnListsTold", spec := "fnListsTold", unfollowed := true, recurses := true, apart := false, narrowed := true }
def FnListsToldUptoSaid : Prop := fnListsToldUptoRow.holds Try.pinned (OpenSpec.upto fnListsToldSpec)

/-- 'laws.FnListsToldOfAll', WHERE WHAT IT READS IS OF BULK AT MOST 1048576: true; the input reads as it did. -/
def fnListsToldOfAllUptoRow : OpenClaim := { program := "ytkdoghopbefjfaa", sum := "42411156a4fdedda7a6993de3abf8dccf0a8bcbb6346761c66d760708d4c2d1d", func := "loop.example/g01240/laws.FnListsToldOfAll", spec := "fnListsToldOfAll", unfollowed := true, recurses := true, apart := false, narrowed := true }
def FnListsToldOfAllUptoSaid : Prop := fnListsToldOfAllUptoRow.holds Try.pinned (OpenSpec.upto fnListsToldOfAllSpec)

end Rows
end Go.Proofs.Ytkdoghopbefjfaa
