/-
  No cell of these rows narrows 'for every input' (looked for: loops, veiled, ifaces, maps, wideKeys, modest, calm, conditions, laid).
  DERIVED. THE GIVEN ROWS OF THIS SEAT. 9 by the template 'for every input the law returns true; each argument reads behind the call as it read before'; 0 by the template 'total and deterministic' (their statements: YtfkaghiopnaghaaTotals.lean).
  GIVEN WITH THE SEED: the statements are not yours to turn. If you find one false, say at which input.
  Laid BY PROGRAM, IN A SANDBOX (cutbox-rows.mjs): the forced cells as the released guide's own fill.sh prints them over the translation 6c35e7c06f3c83ba… (all of the seat's roots in one cut). By AI agents, Wed Nov 11 2026. No macro, syntax, notation, axiom, sorry.
-/
import Derived.Test.YtfkaghiopnaghaaChecked
import GoSem.Claim
import GoSem.ClaimJoined
import GoSem.ClaimMapViews
import Derived.JoinedTies
import Derived.KernelRfl
namespace Go.Proofs.Ytfkaghiopnaghaa
/- THE CELL 'sum', in the pinned program and in every row, IS THE sha256 OF THE DUMP (.gsa) THAT YtfkaghiopnaghaaProg.lean LOADS. Nothing in Lean hashes anything: it is a label: what it is worth is what the hold of that sum in a sandbox is worth. -/
noncomputable def Try.pinned : Pinned := { name := "ytfkaghiopnaghaa", sum := "6c35e7c06f3c83baeb92235d4c61784715d8152468aa31d283ce0a7c9a18b2cd", checked := Try.checked }
namespace Rows
def none {H : Type} : Left H := { results := [], args := [] }

/-- 'laws.FnExactCountsOf': WHATEVER THE INPUT: true; the input reads as it did. -/
def fnExactCountsOfSpec : ChangeSpec := { name := "fnExactCountsOf", fn := fun _ => fun
  | [d] => { results := [.lit (.bool true)], args := [d] }
  | _ => none }
def fnExactCountsOfRow : OpenClaim := { program := "ytfkaghiopnaghaa", sum := "6c35e7c06f3c83baeb92235d4c61784715d8152468aa31d283ce0a7c9a18b2cd", func := "loop.example/g01240/laws.FnExactCountsOf", spec := "fnExactCountsOf", apart := false }
def FnExactCountsOfSaid : Prop := fnExactCountsOfRow.holds Try.pinned (OpenSpec.ofChange fnExactCountsOfSpec)

/-- ITS FALSE NEIGHBOUR: 'it returns false'. Refute it at one input. -/
def fnExactCountsOfWrong : ChangeSpec := { name := "fnExactCountsOf", fn := fun _ => fun
  | [d] => { results := [.lit (.bool false)], args := [d] }
  | _ => none }
def FnExactCountsOfWrongFalsely : Prop := fnExactCountsOfRow.holds Try.pinned (OpenSpec.ofChange fnExactCountsOfWrong)

/-- 'laws.FnExactInventoryOf': WHATEVER THE INPUT: true; the input reads as it did. -/
def fnExactInventoryOfSpec : ChangeSpec := { name := "fnExactInventoryOf", fn := fun _ => fun
  | [d] => { results := [.lit (.bool true)], args := [d] }
  | _ => none }
def fnExactInventoryOfRow : OpenClaim := { program := "ytfkaghiopnaghaa", sum := "6c35e7c06f3c83baeb92235d4c61784715d8152468aa31d283ce0a7c9a18b2cd", func := "loop.example/g01240/laws.FnExactInventoryOf", spec := "fnExactInventoryOf", recurses := true, apart := false }
def FnExactInventoryOfSaid : Prop := fnExactInventoryOfRow.holds Try.pinned (OpenSpec.ofChange fnExactInventoryOfSpec)

/-- ITS FALSE NEIGHBOUR: 'it returns false'. Refute it at one input. -/
def fnExactInventoryOfWrong : ChangeSpec := { name := "fnExactInventoryOf", fn := fun _ => fun
  | [d] => { results := [.lit (.bool false)], args := [d] }
  | _ => none }
def FnExactInventoryOfWrongFalsely : Prop := fnExactInventoryOfRow.holds Try.pinned (OpenSpec.ofChange fnExactInventoryOfWrong)

/-- 'laws.FnExactIsInventory': WHATEVER THE INPUT: true; the input reads as it did. -/
def fnExactIsInventorySpec : ChangeSpec := { name := "fnExactIsInventory", fn := fun _ => fun
  | [d] => { results := [.lit (.bool true)], args := [d] }
  | _ => none }
def fnExactIsInventoryRow : OpenClaim := { program := "ytfkaghiopnaghaa", sum := "6c35e7c06f3c83baeb92235d4c61784715d8152468aa31d283ce0a7c9a18b2cd", func := "loop.example/g01240/laws.FnExactIsInventory", spec := "fnExactIsInventory", apart := false }
def FnExactIsInventorySaid : Prop := fnExactIsInventoryRow.holds Try.pinned (OpenSpec.ofChange fnExactIsInventorySpec)

/-- ITS FALSE NEIGHBOUR: 'it returns false'. Refute it at one input. -/
def fnExactIsInventoryWrong : ChangeSpec := { name := "fnExactIsInventory", fn := fun _ => fun
  | [d] => { results := [.lit (.bool false)], args := [d] }
  | _ => none }
def FnExactIsInventoryWrongFalsely : Prop := fnExactIsInventoryRow.holds Try.pinned (OpenSpec.ofChange fnExactIsInventoryWrong)

/-- 'laws.FnExactIsOwnInventory': WHATEVER THE INPUT: true; the input reads as it did. -/
def fnExactIsOwnInventorySpec : ChangeSpec := { name := "fnExactIsOwnInventory", fn := fun _ => fun
  | [d] => { results := [.lit (.bool true)], args := [d] }
  | _ => none }
def fnExactIsOwnInventoryRow : OpenClaim := { program := "ytfkaghiopnaghaa", sum := "6c35e7c06f3c83baeb92235d4c61784715d8152468aa31d283ce0a7c9a18b2cd", func := "loop.example/g01240/laws.FnExactIsOwnInventory", spec := "fnExactIsOwnInventory", recurses := true, apart := false }
def FnExactIsOwnInventorySaid : Prop := fnExactIsOwnInventoryRow.holds Try.pinned (OpenSpec.ofChange fnExactIsOwnInventorySpec)

/-- ITS FALSE NEIGHBOUR: 'it returns false'. Refute it at one input. -/
def fnExactIsOwnInventoryWrong : ChangeSpec := { name := "fnExactIsOwnInventory", fn := fun _ => fun
  | [d] => { results := [.lit (.bool false)], args := [d] }
  | _ => none }
def FnExactIsOwnInventoryWrongFalsely : Prop := fnExactIsOwnInventoryRow.holds Try.pinned (OpenSpec.ofChange fnExactIsOwnInventoryWrong)

/-- 'laws.FnExactWayOfInventory': WHATEVER THE INPUT: true; the input reads as it did. -/
def fnExactWayOfInventorySpec : ChangeSpec := { name := "fnExactWayOfInventory", fn := fun _ => fun
  | [d1, d2] => { results := [.lit (.bool true)], args := [d1, d2] }
  | _ => none }
def fnExactWayOfInventoryRow : OpenClaim := { program := "ytfkaghiopnaghaa", sum := "6c35e7c06f3c83baeb92235d4c61784715d8152468aa31d283ce0a7c9a18b2cd", func := "loop.example/g01240/laws.FnExactWayOfInventory", spec := "fnExactWayOfInventory", unfollowed := true, recurses := true, apart := false }
def FnExactWayOfInventorySaid : Prop := fnExactWayOfInventoryRow.holds Try.pinned (OpenSpec.ofChange fnExactWayOfInventorySpec)

/-- ITS FALSE NEIGHBOUR: 'it returns false'. Refute it at one input. -/
def fnExactWayOfInventoryWrong : ChangeSpec := { name := "fnExactWayOfInventory", fn := fun _ => fun
  | [d1, d2] => { results := [.lit (.bool false)], args := [d1, d2] }
  | _ => none }
def FnExactWayOfInventoryWrongFalsely : Prop := fnExactWayOfInventoryRow.holds Try.pinned (OpenSpec.ofChange fnExactWayOfInventoryWrong)

/-- 'laws.FnExactWayOfWord': WHATEVER THE INPUT: true; the input reads as it did. -/
def fnExactWayOfWordSpec : ChangeSpec := { name := "fnExactWayOfWord", fn := fun _ => fun
  | [d1, d2] => { results := [.lit (.bool true)], args := [d1, d2] }
  | _ => none }
def fnExactWayOfWordRow : OpenClaim := { program := "ytfkaghiopnaghaa", sum := "6c35e7c06f3c83baeb92235d4c61784715d8152468aa31d283ce0a7c9a18b2cd", func := "loop.example/g01240/laws.FnExactWayOfWord", spec := "fnExactWayOfWord", unfollowed := true, recurses := true, apart := false }
def FnExactWayOfWordSaid : Prop := fnExactWayOfWordRow.holds Try.pinned (OpenSpec.ofChange fnExactWayOfWordSpec)

/-- ITS FALSE NEIGHBOUR: 'it returns false'. Refute it at one input. -/
def fnExactWayOfWordWrong : ChangeSpec := { name := "fnExactWayOfWord", fn := fun _ => fun
  | [d1, d2] => { results := [.lit (.bool false)], args := [d1, d2] }
  | _ => none }
def FnExactWayOfWordWrongFalsely : Prop := fnExactWayOfWordRow.holds Try.pinned (OpenSpec.ofChange fnExactWayOfWordWrong)

/-- 'laws.FnExactLoopOfInventory': WHATEVER THE INPUT: true; the input reads as it did. -/
def fnExactLoopOfInventorySpec : ChangeSpec := { name := "fnExactLoopOfInventory", fn := fun _ => fun
  | [d] => { results := [.lit (.bool true)], args := [d] }
  | _ => none }
def fnExactLoopOfInventoryRow : OpenClaim := { program := "ytfkaghiopnaghaa", sum := "6c35e7c06f3c83baeb92235d4c61784715d8152468aa31d283ce0a7c9a18b2cd", func := "loop.example/g01240/laws.FnExactLoopOfInventory", spec := "fnExactLoopOfInventory", unfollowed := true, recurses := true, apart := false }
def FnExactLoopOfInventorySaid : Prop := fnExactLoopOfInventoryRow.holds Try.pinned (OpenSpec.ofChange fnExactLoopOfInventorySpec)

/-- ITS FALSE NEIGHBOUR: 'it returns false'. Refute it at one input. -/
def fnExactLoopOfInventoryWrong : ChangeSpec := { name := "fnExactLoopOfInventory", fn := fun _ => fun
  | [d] => { results := [.lit (.bool false)], args := [d] }
  | _ => none }
def FnExactLoopOfInventoryWrongFalsely : Prop := fnExactLoopOfInventoryRow.holds Try.pinned (OpenSpec.ofChange fnExactLoopOfInventoryWrong)

/-- 'laws.FnExactLoopWords': WHATEVER THE INPUT: true; the input reads as it did. -/
def fnExactLoopWordsSpec : ChangeSpec := { name := "fnExactLoopWords", fn := fun _ => fun
  | [d] => { results := [.lit (.bool true)], args := [d] }
  | _ => none }
def fnExactLoopWordsRow : OpenClaim := { program := "ytfkaghiopnaghaa", sum := "6c35e7c06f3c83baeb92235d4c61784715d8152468aa31d283ce0a7c9a18b2cd", func := "loop.example/g01240/laws.FnExactLoopWords", spec := "fnExactLoopWords", unfollowed := true, recurses := true, apart := false }
def FnExactLoopWordsSaid : Prop := fnExactLoopWordsRow.holds Try.pinned (OpenSpec.ofChange fnExactLoopWordsSpec)

/-- ITS FALSE NEIGHBOUR: 'it returns false'. Refute it at one input. -/
def fnExactLoopWordsWrong : ChangeSpec := { name := "fnExactLoopWords", fn := fun _ => fun
  | [d] => { results := [.lit (.bool false)], args := [d] }
  | _ => none }
def FnExactLoopWordsWrongFalsely : Prop := fnExactLoopWordsRow.holds Try.pinned (OpenSpec.ofChange fnExactLoopWordsWrong)

/-- 'laws.FnExactHearInventory': WHATEVER THE INPUT: true; the input reads as it did. -/
def fnExactHearInventorySpec : ChangeSpec := { name := "fnExactHearInventory", fn := fun _ => fun
  | [d] => { results := [.lit (.bool true)], args := [d] }
  | _ => none }
def fnExactHearInventoryRow : OpenClaim := { program := "ytfkaghiopnaghaa", sum := "6c35e7c06f3c83baeb92235d4c61784715d8152468aa31d283ce0a7c9a18b2cd", func := "loop.example/g01240/laws.FnExactHearInventory", spec := "fnExactHearInventory", recurses := true, apart := false }
def FnExactHearInventorySaid : Prop := fnExactHearInventoryRow.holds Try.pinned (OpenSpec.ofChange fnExactHearInventorySpec)

/-- ITS FALSE NEIGHBOUR: 'it returns false'. Refute it at one input. -/
def fnExactHearInventoryWrong : ChangeSpec := { name := "fnExactHearInventory", fn := fun _ => fun
  | [d] => { results := [.lit (.bool false)], args := [d] }
  | _ => none }
def FnExactHearInventoryWrongFalsely : Prop := fnExactHearInventoryRow.holds Try.pinned (OpenSpec.ofChange fnExactHearInventoryWrong)

/- THE SECOND FORM. 'bulk': how many values and letters a reading holds, each counted each time it is reached (what is shared counts as often as it is met; a slice's spare places count too). A statement '..UptoSaid' is the law's where the arguments, and the package variables that the reading takes, are together of bulk at most 1048576: NARROWER than '..Said'. Prove '..Said' where nothing that the law and all that it calls make is longer than what came in: it says more and counts as full. Else prove '..UptoSaid'. A law counts once. -/
mutual
def uptoBulk {H : Type} : DataW H → Nat
  | .lit (.string bytes) => bytes.length + 1
  | .lit _ => 1
  | .nil => 1
  | .ptr d => uptoBulk d + 1
  | .slice elems spare => uptoBulkAll elems + uptoBulkAll spare + 1
  | .agg parts => uptoBulkAll parts + 1
  | .iface _ d => uptoBulk d + 1
  | .map entries => uptoBulkEntries entries + 1
  | .held _ => 1
def uptoBulkAll {H : Type} : List (DataW H) → Nat
  | [] => 0
  | d :: r => uptoBulk d + uptoBulkAll r
def uptoBulkEntries {H : Type} : List (Lit × DataW H) → Nat
  | [] => 0
  | x :: r => uptoBulkEntry x + uptoBulkEntries r
def uptoBulkEntry {H : Type} : Lit × DataW H → Nat
  | (.string bytes, d) => bytes.length + uptoBulk d + 1
  | (_, d) => uptoBulk d + 1
 end
def uptoSmall : (H : Type) → List (DataW H) → Bool := fun _ ds => decide (uptoBulkAll ds ≤ 1048576)
def OpenSpec.upto (s : _root_.Go.ChangeSpec) : _root_.Go.OpenSpec := { _root_.Go.OpenSpec.ofChange s with cond := some uptoSmall }

/-- 'laws.FnExactCountsOf', WHERE WHAT IT READS IS OF BULK AT MOST 1048576: true; the input reads as it did. -/
def fnExactCountsOfUptoRow : OpenClaim := { program := "ytfkaghiopnaghaa", sum := "6c35e7c06f3c83baeb92235d4c61784715d8152468aa31d283ce0a7c9a18b2cd", func := "loop.example/g01240/laws.FnExactCountsOf", spec := "fnExactCountsOf", apart := false, narrowed := true }
def FnExactCountsOfUptoSaid : Prop := fnExactCountsOfUptoRow.holds Try.pinned (OpenSpec.upto fnExactCountsOfSpec)

/-- 'laws.FnExactInventoryOf', WHERE WHAT IT READS IS OF BULK AT MOST 1048576: true; the input reads as it did. -/
def fnExactInventoryOfUptoRow : OpenClaim := { program := "ytfkaghiopnaghaa", sum := "6c35e7c06f3c83baeb92235d4c61784715d8152468aa31d283ce0a7c9a18b2cd", func := "loop.example/g01240/laws.FnExactInventoryOf", spec := "fnExactInventoryOf", recurses := true, apart := false, narrowed := true }
def FnExactInventoryOfUptoSaid : Prop := fnExactInventoryOfUptoRow.holds Try.pinned (OpenSpec.upto fnExactInventoryOfSpec)

/-- 'laws.FnExactIsInventory', WHERE WHAT IT READS IS OF BULK AT MOST 1048576: true; the input reads as it did. -/
def fnExactIsInventoryUptoRow : OpenClaim := { program := "ytfkaghiopnaghaa", sum := "6c35e7c06f3c83baeb92235d4c61784715d8152468aa31d283ce0a7c9a18b2cd", func := "loop.example/g01240/laws.FnExactIsInventory", spec := "fnExactIsInventory", apart := false, narrowed := true }
def FnExactIsInventoryUptoSaid : Prop := fnExactIsInventoryUptoRow.holds Try.pinned (OpenSpec.upto fnExactIsInventorySpec)

/-- 'laws.FnExactIsOwnInventory', WHERE WHAT IT READS IS OF BULK AT MOST 1048576: true; the input reads as it did. -/
def fnExactIsOwnInventoryUptoRow : OpenClaim := { program := "ytfkaghiopnaghaa", sum := "6c35e7c06f3c83baeb92235d4c61784715d8152468aa31d283ce0a7c9a18b2cd", func := "loop.example/g01240/laws.FnExactIsOwnInventory", spec := "fnExactIsOwnInventory", recurses := true, apart := false, narrowed := true }
def FnExactIsOwnInventoryUptoSaid : Prop := fnExactIsOwnInventoryUptoRow.holds Try.pinned (OpenSpec.upto fnExactIsOwnInventorySpec)

/-- 'laws.FnExactWayOfInventory', WHERE WHAT IT READS IS OF BULK AT MOST 1048576: true; the input reads as it did. -/
def fnExactWayOfInventoryUptoRow : OpenClaim := { program := "ytfkaghiopnaghaa", sum := "6c35e7c06f3c83baeb92235d4c61784715d8152468aa31d283ce0a7c9a18b2cd", func := "loop.example/g01240/laws.FnExactWayOfInventory", spec := "fnExactWayOfInventory", unfollowed := true, recurses := true, apart := false, narrowed := true }
def FnExactWayOfInventoryUptoSaid : Prop := fnExactWayOfInventoryUptoRow.holds Try.pinned (OpenSpec.upto fnExactWayOfInventorySpec)

/-- 'laws.FnExactWayOfWord', WHERE WHAT IT READS IS OF BULK AT MOST 1048576: true; the input reads as it did. -/
def fnExactWayOfWordUptoRow : OpenClaim := { program := "ytfkaghiopnaghaa", sum := "6c35e7c06f3c83baeb92235d4c61784715d8152468aa31d283ce0a7c9a18b2cd", func := "loop.example/g01240/laws.FnExactWayOfWord", spec := "fnExactWayOfWord", unfollowed := true, recurses := true, apart := false, narrowed := true }
def FnExactWayOfWordUptoSaid : Prop := fnExactWayOfWordUptoRow.holds Try.pinned (OpenSpec.upto fnExactWayOfWordSpec)

/-- 'laws.FnExactLoopOfInventory', WHERE WHAT IT READS IS OF BULK AT MOST 1048576: true; the input reads as it did. -/
def fnExactLoopOfInventoryUptoRow : OpenClaim := { program := "ytfkaghiopnaghaa", sum := "6c35e7c06f3c83baeb92235d4c61784715d8152468aa31d283ce0a7c9a18b2cd", func := "loop.example/g01240/laws.FnExactLoopOfInventory", spec := "fnExactLoopOfInventory", unfollowed := true, recurses := true, apart := false, narrowed := true }
def FnExactLoopOfInventoryUptoSaid : Prop := fnExactLoopOfInventoryUptoRow.holds Try.pinned (OpenSpec.upto fnExactLoopOfInventorySpec)

/-- 'laws.FnExactLoopWords', WHERE WHAT IT READS IS OF BULK AT MOST 1048576: true; the input reads as it did. -/
def fnExactLoopWordsUptoRow : OpenClaim := { program := "ytfkaghiopnaghaa", sum := "6c35e7c06f3c83baeb92235d4c61784715d8152468aa31d283ce0a7c9a18b2cd", func := "loop.example/g01240/laws.FnExactLoopWords", spec := "fnExactLoopWords", unfollowed := true, recurses := true, apart := false, narrowed := true }
def FnExactLoopWordsUptoSaid : Prop := fnExactLoopWordsUptoRow.holds Try.pinned (OpenSpec.upto fnExactLoopWordsSpec)

/-- 'laws.FnExactHearInventory', WHERE WHAT IT READS IS OF BULK AT MOST 1048576: true; the input reads as it did. -/
def fnExactHearInventoryUptoRow : OpenClaim := { program := "ytfkaghiopnaghaa", sum := "6c35e7c06f3c83baeb92235d4c61784715d8152468aa31d283ce0a7c9a18b2cd", func := "loop.example/g01240/laws.FnExactHearInventory", spec := "fnExactHearInventory", recurses := true, apart := false, narrowed := true }
def FnExactHearInventoryUptoSaid : Prop := fnExactHearInventoryUptoRow.holds Try.pinned (OpenSpec.upto fnExactHearInventorySpec)

end Rows
end Go.Proofs.Ytfkaghiopnaghaa
