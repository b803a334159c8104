/-
  No cell of these rows narrows 'for every input' (looked for: loops, veiled, ifaces, maps, wideKeys, modest, calm, conditions, laid).
  DERIVED. THE GIVEN ROWS OF THIS SEAT. 6 by the template 'for every input the law returns true; each argument reads behind the call as it read before'; 0 by the template 'total and deterministic' (their statements: YtclifchdkcidgabTotals.lean).
  GIVEN WITH THE SEED: the statements are not yours to turn. If you find one false, say at which input.
  Laid BY PROGRAM, IN A SANDBOX (cutbox-rows.mjs): the forced cells as the released guide's own fill.sh prints them over the translation 3d3ca5fc5c9d66c9… (all of the seat's roots in one cut). By AI agents, Wed Nov 11 2026. No macro, syntax, notation, axiom, sorry.
-/
import Derived.Test.YtclifchdkcidgabChecked
import GoSem.Claim
import GoSem.ClaimJoined
import GoSem.ClaimMapViews
import Derived.JoinedTies
import Derived.KernelRfl
namespace Go.Proofs.Ytclifchdkcidgab
/- THE CELL 'sum', in the pinned program and in every row, IS THE sha256 OF THE DUMP (.gsa) THAT YtclifchdkcidgabProg.lean LOADS. Nothing in Lean hashes anything: it is a label: what it is worth is what the hold of that sum in a sandbox is worth. -/
noncomputable def Try.pinned : Pinned := { name := "ytclifchdkcidgab", sum := "3d3ca5fc5c9d66c9103ec7e67716475fd30ec177d319d98d8bdfe9cac2ac3a3b", checked := Try.checked }
namespace Rows
def none {H : Type} : Left H := { results := [], args := [] }

/-- 'laws.FnExactSayOther': WHATEVER THE INPUT: true; the input reads as it did. -/
def fnExactSayOtherSpec : ChangeSpec := { name := "fnExactSayOther", fn := fun _ => fun
  | [d] => { results := [.lit (.bool true)], args := [d] }
  | _ => none }
def fnExactSayOtherRow : OpenClaim := { program := "ytclifchdkcidgab", sum := "3d3ca5fc5c9d66c9103ec7e67716475fd30ec177d319d98d8bdfe9cac2ac3a3b", func := "loop.example/g01240/laws.FnExactSayOther", spec := "fnExactSayOther", unfollowed := true, recurses := true, apart := false }
def FnExactSayOtherSaid : Prop := fnExactSayOtherRow.holds Try.pinned (OpenSpec.ofChange fnExactSayOtherSpec)

/-- ITS FALSE NEIGHBOUR: 'it returns false'. Refute it at one input. -/
def fnExactSayOtherWrong : ChangeSpec := { name := "fnExactSayOther", fn := fun _ => fun
  | [d] => { results := [.lit (.bool false)], args := [d] }
  | _ => none }
def FnExactSayOtherWrongFalsely : Prop := fnExactSayOtherRow.holds Try.pinned (OpenSpec.ofChange fnExactSayOtherWrong)

/-- 'laws.FnExactIsStill': WHATEVER THE INPUT: true; the input reads as it did. -/
def fnExactIsStillSpec : ChangeSpec := { name := "fnExactIsStill", fn := fun _ => fun
  | [d] => { results := [.lit (.bool true)], args := [d] }
  | _ => none }
def fnExactIsStillRow : OpenClaim := { program := "ytclifchdkcidgab", sum := "3d3ca5fc5c9d66c9103ec7e67716475fd30ec177d319d98d8bdfe9cac2ac3a3b", func := "loop.example/g01240/laws.FnExactIsStill", spec := "fnExactIsStill", unfollowed := true, recurses := true, apart := false }
def FnExactIsStillSaid : Prop := fnExactIsStillRow.holds Try.pinned (OpenSpec.ofChange fnExactIsStillSpec)

/-- ITS FALSE NEIGHBOUR: 'it returns false'. Refute it at one input. -/
def fnExactIsStillWrong : ChangeSpec := { name := "fnExactIsStill", fn := fun _ => fun
  | [d] => { results := [.lit (.bool false)], args := [d] }
  | _ => none }
def FnExactIsStillWrongFalsely : Prop := fnExactIsStillRow.holds Try.pinned (OpenSpec.ofChange fnExactIsStillWrong)

/-- 'laws.FnExactCountWords': WHATEVER THE INPUT: true; the input reads as it did. -/
def fnExactCountWordsSpec : ChangeSpec := { name := "fnExactCountWords", fn := fun _ => fun
  | [d1, d2, d3] => { results := [.lit (.bool true)], args := [d1, d2, d3] }
  | _ => none }
def fnExactCountWordsRow : OpenClaim := { program := "ytclifchdkcidgab", sum := "3d3ca5fc5c9d66c9103ec7e67716475fd30ec177d319d98d8bdfe9cac2ac3a3b", func := "loop.example/g01240/laws.FnExactCountWords", spec := "fnExactCountWords", apart := false }
def FnExactCountWordsSaid : Prop := fnExactCountWordsRow.holds Try.pinned (OpenSpec.ofChange fnExactCountWordsSpec)

/-- ITS FALSE NEIGHBOUR: 'it returns false'. Refute it at one input. -/
def fnExactCountWordsWrong : ChangeSpec := { name := "fnExactCountWords", fn := fun _ => fun
  | [d1, d2, d3] => { results := [.lit (.bool false)], args := [d1, d2, d3] }
  | _ => none }
def FnExactCountWordsWrongFalsely : Prop := fnExactCountWordsRow.holds Try.pinned (OpenSpec.ofChange fnExactCountWordsWrong)

/-- 'laws.FnExactCountHeard': WHATEVER THE INPUT: true; the input reads as it did. -/
def fnExactCountHeardSpec : ChangeSpec := { name := "fnExactCountHeard", fn := fun _ => fun
  | [d1, d2] => { results := [.lit (.bool true)], args := [d1, d2] }
  | _ => none }
def fnExactCountHeardRow : OpenClaim := { program := "ytclifchdkcidgab", sum := "3d3ca5fc5c9d66c9103ec7e67716475fd30ec177d319d98d8bdfe9cac2ac3a3b", func := "loop.example/g01240/laws.FnExactCountHeard", spec := "fnExactCountHeard", apart := false }
def FnExactCountHeardSaid : Prop := fnExactCountHeardRow.holds Try.pinned (OpenSpec.ofChange fnExactCountHeardSpec)

/-- ITS FALSE NEIGHBOUR: 'it returns false'. Refute it at one input. -/
def fnExactCountHeardWrong : ChangeSpec := { name := "fnExactCountHeard", fn := fun _ => fun
  | [d1, d2] => { results := [.lit (.bool false)], args := [d1, d2] }
  | _ => none }
def FnExactCountHeardWrongFalsely : Prop := fnExactCountHeardRow.holds Try.pinned (OpenSpec.ofChange fnExactCountHeardWrong)

/-- 'laws.FnExactLongestRun': WHATEVER THE INPUT: true; the input reads as it did. -/
def fnExactLongestRunSpec : ChangeSpec := { name := "fnExactLongestRun", fn := fun _ => fun
  | [d] => { results := [.lit (.bool true)], args := [d] }
  | _ => none }
def fnExactLongestRunRow : OpenClaim := { program := "ytclifchdkcidgab", sum := "3d3ca5fc5c9d66c9103ec7e67716475fd30ec177d319d98d8bdfe9cac2ac3a3b", func := "loop.example/g01240/laws.FnExactLongestRun", spec := "fnExactLongestRun", apart := false }
def FnExactLongestRunSaid : Prop := fnExactLongestRunRow.holds Try.pinned (OpenSpec.ofChange fnExactLongestRunSpec)

/-- ITS FALSE NEIGHBOUR: 'it returns false'. Refute it at one input. -/
def fnExactLongestRunWrong : ChangeSpec := { name := "fnExactLongestRun", fn := fun _ => fun
  | [d] => { results := [.lit (.bool false)], args := [d] }
  | _ => none }
def FnExactLongestRunWrongFalsely : Prop := fnExactLongestRunRow.holds Try.pinned (OpenSpec.ofChange fnExactLongestRunWrong)

/-- 'laws.FnExactSumOfWord': WHATEVER THE INPUT: true; the input reads as it did. -/
def fnExactSumOfWordSpec : ChangeSpec := { name := "fnExactSumOfWord", fn := fun _ => fun
  | [d] => { results := [.lit (.bool true)], args := [d] }
  | _ => none }
def fnExactSumOfWordRow : OpenClaim := { program := "ytclifchdkcidgab", sum := "3d3ca5fc5c9d66c9103ec7e67716475fd30ec177d319d98d8bdfe9cac2ac3a3b", func := "loop.example/g01240/laws.FnExactSumOfWord", spec := "fnExactSumOfWord", apart := false }
def FnExactSumOfWordSaid : Prop := fnExactSumOfWordRow.holds Try.pinned (OpenSpec.ofChange fnExactSumOfWordSpec)

/-- ITS FALSE NEIGHBOUR: 'it returns false'. Refute it at one input. -/
def fnExactSumOfWordWrong : ChangeSpec := { name := "fnExactSumOfWord", fn := fun _ => fun
  | [d] => { results := [.lit (.bool false)], args := [d] }
  | _ => none }
def FnExactSumOfWordWrongFalsely : Prop := fnExactSumOfWordRow.holds Try.pinned (OpenSpec.ofChange fnExactSumOfWordWrong)

/- THE SECOND FORM. 'bulk': how many values and letters a reading holds, each counted each time it is reached (what is shared counts as often as it is met; a slice's spare places count too). A statement '..UptoSaid' is the law's where the arguments, and the package variables that the reading takes, are together of bulk at most 1048576: NARROWER than '..Said'. Prove '..Said' where nothing that the law and all that it calls make is longer than what came in: it says more and counts as full. Else prove '..UptoSaid'. A law counts once. -/
mutual
def uptoBulk {H : Type} : DataW H → Nat
  | .lit (.string bytes) => bytes.length + 1
  | .lit _ => 1
  | .nil => 1
  | .ptr d => uptoBulk d + 1
  | .slice elems spare => uptoBulkAll elems + uptoBulkAll spare + 1
  | .agg parts => uptoBulkAll parts + 1
  | .iface _ d => uptoBulk d + 1
  | .map entries => uptoBulkEntries entries + 1
  | .held _ => 1
def uptoBulkAll {H : Type} : List (DataW H) → Nat
  | [] => 0
  | d :: r => uptoBulk d + uptoBulkAll r
def uptoBulkEntries {H : Type} : List (Lit × DataW H) → Nat
  | [] => 0
  | x :: r => uptoBulkEntry x + uptoBulkEntries r
def uptoBulkEntry {H : Type} : Lit × DataW H → Nat
  | (.string bytes, d) => bytes.length + uptoBulk d + 1
  | (_, d) => uptoBulk d + 1
 end
def uptoSmall : (H : Type) → List (DataW H) → Bool := fun _ ds => decide (uptoBulkAll ds ≤ 1048576)
def OpenSpec.upto (s : _root_.Go.ChangeSpec) : _root_.Go.OpenSpec := { _root_.Go.OpenSpec.ofChange s with cond := some uptoSmall }

/-- 'laws.FnExactSayOther', WHERE WHAT IT READS IS OF BULK AT MOST 1048576: true; the input reads as it did. -/
def fnExactSayOtherUptoRow : OpenClaim := { program := "ytclifchdkcidgab", sum := "3d3ca5fc5c9d66c9103ec7e67716475fd30ec177d319d98d8bdfe9cac2ac3a3b", func := "loop.example/g01240/laws.FnExactSayOther", spec := "fnExactSayOther", unfollowed := true, recurses := true, apart := false, narrowed := true }
def FnExactSayOtherUptoSaid : Prop := fnExactSayOtherUptoRow.holds Try.pinned (OpenSpec.upto fnExactSayOtherSpec)

/-- 'laws.FnExactIsStill', WHERE WHAT IT READS IS OF BULK AT MOST 1048576: true; the input reads as it did. -/
def fnExactIsStillUptoRow : OpenClaim := { program := "ytclifchdkcidgab", sum := "3d3ca5fc5c9d66c9103ec7e67716475fd30ec177d319d98d8bdfe9cac2ac3a3b", func := "loop.example/g01240/laws.FnExactIsStill", spec := "fnExactIsStill", unfollowed := true, recurses := true, apart := false, narrowed := true }
def FnExactIsStillUptoSaid : Prop := fnExactIsStillUptoRow.holds Try.pinned (OpenSpec.upto fnExactIsStillSpec)

/-- 'laws.FnExactCountWords', WHERE WHAT IT READS IS OF BULK AT MOST 1048576: true; the input reads as it did. -/
def fnExactCountWordsUptoRow : OpenClaim := { program := "ytclifchdkcidgab", sum := "3d3ca5fc5c9d66c9103ec7e67716475fd30ec177d319d98d8bdfe9cac2ac3a3b", func := "loop.example/g01240/laws.FnExactCountWords", spec := "fnExactCountWords", apart := false, narrowed := true }
def FnExactCountWordsUptoSaid : Prop := fnExactCountWordsUptoRow.holds Try.pinned (OpenSpec.upto fnExactCountWordsSpec)

/-- 'laws.FnExactCountHeard', WHERE WHAT IT READS IS OF BULK AT MOST 1048576: true; the input reads as it did. -/
def fnExactCountHeardUptoRow : OpenClaim := { program := "ytclifchdkcidgab", sum := "3d3ca5fc5c9d66c9103ec7e67716475fd30ec177d319d98d8bdfe9cac2ac3a3b", func := "loop.example/g01240/laws.FnExactCountHeard", spec := "fnExactCountHeard", apart := false, narrowed := true }
def FnExactCountHeardUptoSaid : Prop := fnExactCountHeardUptoRow.holds Try.pinned (OpenSpec.upto fnExactCountHeardSpec)

/-- 'laws.FnExactLongestRun', WHERE WHAT IT READS IS OF BULK AT MOST 1048576: true; the input reads as it did. -/
def fnExactLongestRunUptoRow : OpenClaim := { program := "ytclifchdkcidgab", sum := "3d3ca5fc5c9d66c9103ec7e67716475fd30ec177d319d98d8bdfe9cac2ac3a3b", func := "loop.example/g01240/laws.FnExactLongestRun", spec := "fnExactLongestRun", apart := false, narrowed := true }
def FnExactLongestRunUptoSaid : Prop := fnExactLongestRunUptoRow.holds Try.pinned (OpenSpec.upto fnExactLongestRunSpec)

/-- 'laws.FnExactSumOfWord', WHERE WHAT IT READS IS OF BULK AT MOST 1048576: true; the input reads as it did. -/
def fnExactSumOfWordUptoRow : OpenClaim := { program := "ytclifchdkcidgab", sum := "3d3ca5fc5c9d66c9103ec7e67716475fd30ec177d319d98d8bdfe9cac2ac3a3b", func := "loop.example/g01240/laws.FnExactSumOfWord", spec := "fnExactSumOfWord", apart := false, narrowed := true }
def FnExactSumOfWordUptoSaid : Prop := fnExactSumOfWordUptoRow.holds Try.pinned (OpenSpec.upto fnExactSumOfWordSpec)

end Rows
end Go.Proofs.Ytclifchdkcidgab
