/-
  No cell of these rows narrows 'for every input' (looked for: loops, veiled, ifaces, maps, wideKeys, modest, calm, conditions, laid).
  DERIVED. THE GIVEN ROWS OF THIS SEAT. 9 by the template 'for every input the law returns true; each argument reads behind the call as it read before'; 0 by the template 'total and deterministic' (their statements: YtfkaghiopnaghabTotals.lean).
  GIVEN WITH THE SEED: the statements are not yours to turn. If you find one false, say at which input.
  Laid BY PROGRAM, IN A SANDBOX (cutbox-rows.mjs): the forced cells as the released guide's own fill.sh prints them over the translation 8c169df0e86ee193… (all of the seat's roots in one cut). By AI agents, Wed Nov 11 2026. No macro, syntax, notation, axiom, sorry.
-/
import Derived.Test.YtfkaghiopnaghabChecked
import GoSem.Claim
import GoSem.ClaimJoined
import GoSem.ClaimMapViews
import Derived.JoinedTies
import Derived.KernelRfl
namespace Go.Proofs.Ytfkaghiopnaghab
/- THE CELL 'sum', in the pinned program and in every row, IS THE sha256 OF THE DUMP (.gsa) THAT YtfkaghiopnaghabProg.lean LOADS. Nothing in Lean hashes anything: it is a label: what it is worth is what the hold of that sum in a sandbox is worth. -/
noncomputable def Try.pinned : Pinned := { name := "ytfkaghiopnaghab", sum := "8c169df0e86ee193e5ee03af1c912d243c21cd61886c8324c679d65ba23ccc21", checked := Try.checked }
namespace Rows
def none {H : Type} : Left H := { results := [], args := [] }

/-- 'laws.FnExactTellList': WHATEVER THE INPUT: true; the input reads as it did. -/
def fnExactTellListSpec : ChangeSpec := { name := "fnExactTellList", fn := fun _ => fun
  | [d] => { results := [.lit (.bool true)], args := [d] }
  | _ => none }
def fnExactTellListRow : OpenClaim := { program := "ytfkaghiopnaghab", sum := "8c169df0e86ee193e5ee03af1c912d243c21cd61886c8324c679d65ba23ccc21", func := "loop.example/g01240/laws.FnExactTellList", spec := "fnExactTellList", apart := false }
def FnExactTellListSaid : Prop := fnExactTellListRow.holds Try.pinned (OpenSpec.ofChange fnExactTellListSpec)

/-- ITS FALSE NEIGHBOUR: 'it returns false'. Refute it at one input. -/
def fnExactTellListWrong : ChangeSpec := { name := "fnExactTellList", fn := fun _ => fun
  | [d] => { results := [.lit (.bool false)], args := [d] }
  | _ => none }
def FnExactTellListWrongFalsely : Prop := fnExactTellListRow.holds Try.pinned (OpenSpec.ofChange fnExactTellListWrong)

/-- 'laws.FnExactIsSelfTold': WHATEVER THE INPUT: true; the input reads as it did. -/
def fnExactIsSelfToldSpec : ChangeSpec := { name := "fnExactIsSelfTold", fn := fun _ => fun
  | [d] => { results := [.lit (.bool true)], args := [d] }
  | _ => none }
def fnExactIsSelfToldRow : OpenClaim := { program := "ytfkaghiopnaghab", sum := "8c169df0e86ee193e5ee03af1c912d243c21cd61886c8324c679d65ba23ccc21", func := "loop.example/g01240/laws.FnExactIsSelfTold", spec := "fnExactIsSelfTold", apart := false }
def FnExactIsSelfToldSaid : Prop := fnExactIsSelfToldRow.holds Try.pinned (OpenSpec.ofChange fnExactIsSelfToldSpec)

/-- ITS FALSE NEIGHBOUR: 'it returns false'. Refute it at one input. -/
def fnExactIsSelfToldWrong : ChangeSpec := { name := "fnExactIsSelfTold", fn := fun _ => fun
  | [d] => { results := [.lit (.bool false)], args := [d] }
  | _ => none }
def FnExactIsSelfToldWrongFalsely : Prop := fnExactIsSelfToldRow.holds Try.pinned (OpenSpec.ofChange fnExactIsSelfToldWrong)

/-- 'laws.FnExactWayOfTelling': WHATEVER THE INPUT: true; the input reads as it did. -/
def fnExactWayOfTellingSpec : ChangeSpec := { name := "fnExactWayOfTelling", fn := fun _ => fun
  | [d1, d2] => { results := [.lit (.bool true)], args := [d1, d2] }
  | _ => none }
def fnExactWayOfTellingRow : OpenClaim := { program := "ytfkaghiopnaghab", sum := "8c169df0e86ee193e5ee03af1c912d243c21cd61886c8324c679d65ba23ccc21", func := "loop.example/g01240/laws.FnExactWayOfTelling", spec := "fnExactWayOfTelling", unfollowed := true, recurses := true, apart := false }
def FnExactWayOfTellingSaid : Prop := fnExactWayOfTellingRow.holds Try.pinned (OpenSpec.ofChange fnExactWayOfTellingSpec)

/-- ITS FALSE NEIGHBOUR: 'it returns false'. Refute it at one input. -/
def fnExactWayOfTellingWrong : ChangeSpec := { name := "fnExactWayOfTelling", fn := fun _ => fun
  | [d1, d2] => { results := [.lit (.bool false)], args := [d1, d2] }
  | _ => none }
def FnExactWayOfTellingWrongFalsely : Prop := fnExactWayOfTellingRow.holds Try.pinned (OpenSpec.ofChange fnExactWayOfTellingWrong)

/-- 'laws.FnExactLoopOfTelling': WHATEVER THE INPUT: true; the input reads as it did. -/
def fnExactLoopOfTellingSpec : ChangeSpec := { name := "fnExactLoopOfTelling", fn := fun _ => fun
  | [d] => { results := [.lit (.bool true)], args := [d] }
  | _ => none }
def fnExactLoopOfTellingRow : OpenClaim := { program := "ytfkaghiopnaghab", sum := "8c169df0e86ee193e5ee03af1c912d243c21cd61886c8324c679d65ba23ccc21", func := "loop.example/g01240/laws.FnExactLoopOfTelling", spec := "fnExactLoopOfTelling", unfollowed := true, recurses := true, apart := false }
def FnExactLoopOfTellingSaid : Prop := fnExactLoopOfTellingRow.holds Try.pinned (OpenSpec.ofChange fnExactLoopOfTellingSpec)

/-- ITS FALSE NEIGHBOUR: 'it returns false'. Refute it at one input. -/
def fnExactLoopOfTellingWrong : ChangeSpec := { name := "fnExactLoopOfTelling", fn := fun _ => fun
  | [d] => { results := [.lit (.bool false)], args := [d] }
  | _ => none }
def FnExactLoopOfTellingWrongFalsely : Prop := fnExactLoopOfTellingRow.holds Try.pinned (OpenSpec.ofChange fnExactLoopOfTellingWrong)

/-- 'laws.FnExactCountSelfTold': WHATEVER THE INPUT: true; the input reads as it did. -/
def fnExactCountSelfToldSpec : ChangeSpec := { name := "fnExactCountSelfTold", fn := fun _ => fun
  | [d] => { results := [.lit (.bool true)], args := [d] }
  | _ => none }
def fnExactCountSelfToldRow : OpenClaim := { program := "ytfkaghiopnaghab", sum := "8c169df0e86ee193e5ee03af1c912d243c21cd61886c8324c679d65ba23ccc21", func := "loop.example/g01240/laws.FnExactCountSelfTold", spec := "fnExactCountSelfTold", unfollowed := true, recurses := true, apart := false }
def FnExactCountSelfToldSaid : Prop := fnExactCountSelfToldRow.holds Try.pinned (OpenSpec.ofChange fnExactCountSelfToldSpec)

/-- ITS FALSE NEIGHBOUR: 'it returns false'. Refute it at one input. -/
def fnExactCountSelfToldWrong : ChangeSpec := { name := "fnExactCountSelfTold", fn := fun _ => fun
  | [d] => { results := [.lit (.bool false)], args := [d] }
  | _ => none }
def FnExactCountSelfToldWrongFalsely : Prop := fnExactCountSelfToldRow.holds Try.pinned (OpenSpec.ofChange fnExactCountSelfToldWrong)

/-- 'laws.FnExactAllSelfTold': WHATEVER THE INPUT: true; the input reads as it did. -/
def fnExactAllSelfToldSpec : ChangeSpec := { name := "fnExactAllSelfTold", fn := fun _ => fun
  | [d] => { results := [.lit (.bool true)], args := [d] }
  | _ => none }
def fnExactAllSelfToldRow : OpenClaim := { program := "ytfkaghiopnaghab", sum := "8c169df0e86ee193e5ee03af1c912d243c21cd61886c8324c679d65ba23ccc21", func := "loop.example/g01240/laws.FnExactAllSelfTold", spec := "fnExactAllSelfTold", unfollowed := true, recurses := true, apart := false }
def FnExactAllSelfToldSaid : Prop := fnExactAllSelfToldRow.holds Try.pinned (OpenSpec.ofChange fnExactAllSelfToldSpec)

/-- ITS FALSE NEIGHBOUR: 'it returns false'. Refute it at one input. -/
def fnExactAllSelfToldWrong : ChangeSpec := { name := "fnExactAllSelfTold", fn := fun _ => fun
  | [d] => { results := [.lit (.bool false)], args := [d] }
  | _ => none }
def FnExactAllSelfToldWrongFalsely : Prop := fnExactAllSelfToldRow.holds Try.pinned (OpenSpec.ofChange fnExactAllSelfToldWrong)

/-- 'laws.FnExactAllOwn': WHATEVER THE INPUT: true; the input reads as it did. -/
def fnExactAllOwnSpec : ChangeSpec := { name := "fnExactAllOwn", fn := fun _ => fun
  | [d] => { results := [.lit (.bool true)], args := [d] }
  | _ => none }
def fnExactAllOwnRow : OpenClaim := { program := "ytfkaghiopnaghab", sum := "8c169df0e86ee193e5ee03af1c912d243c21cd61886c8324c679d65ba23ccc21", func := "loop.example/g01240/laws.FnExactAllOwn", spec := "fnExactAllOwn", unfollowed := true, recurses := true, apart := false }
def FnExactAllOwnSaid : Prop := fnExactAllOwnRow.holds Try.pinned (OpenSpec.ofChange fnExactAllOwnSpec)

/-- ITS FALSE NEIGHBOUR: 'it returns false'. Refute it at one input. -/
def fnExactAllOwnWrong : ChangeSpec := { name := "fnExactAllOwn", fn := fun _ => fun
  | [d] => { results := [.lit (.bool false)], args := [d] }
  | _ => none }
def FnExactAllOwnWrongFalsely : Prop := fnExactAllOwnRow.holds Try.pinned (OpenSpec.ofChange fnExactAllOwnWrong)

/-- 'laws.FnExactIsWord': WHATEVER THE INPUT: true; the input reads as it did. -/
def fnExactIsWordSpec : ChangeSpec := { name := "fnExactIsWord", fn := fun _ => fun
  | [d] => { results := [.lit (.bool true)], args := [d] }
  | _ => none }
def fnExactIsWordRow : OpenClaim := { program := "ytfkaghiopnaghab", sum := "8c169df0e86ee193e5ee03af1c912d243c21cd61886c8324c679d65ba23ccc21", func := "loop.example/g01240/laws.FnExactIsWord", spec := "fnExactIsWord", apart := false }
def FnExactIsWordSaid : Prop := fnExactIsWordRow.holds Try.pinned (OpenSpec.ofChange fnExactIsWordSpec)

/-- ITS FALSE NEIGHBOUR: 'it returns false'. Refute it at one input. -/
def fnExactIsWordWrong : ChangeSpec := { name := "fnExactIsWord", fn := fun _ => fun
  | [d] => { results := [.lit (.bool false)], args := [d] }
  | _ => none }
def FnExactIsWordWrongFalsely : Prop := fnExactIsWordRow.holds Try.pinned (OpenSpec.ofChange fnExactIsWordWrong)

/-- 'laws.FnExactSayWord': WHATEVER THE INPUT: true; the input reads as it did. -/
def fnExactSayWordSpec : ChangeSpec := { name := "fnExactSayWord", fn := fun _ => fun
  | [d] => { results := [.lit (.bool true)], args := [d] }
  | _ => none }
def fnExactSayWordRow : OpenClaim := { program := "ytfkaghiopnaghab", sum := "8c169df0e86ee193e5ee03af1c912d243c21cd61886c8324c679d65ba23ccc21", func := "loop.example/g01240/laws.FnExactSayWord", spec := "fnExactSayWord", unfollowed := true, recurses := true, apart := false }
def FnExactSayWordSaid : Prop := fnExactSayWordRow.holds Try.pinned (OpenSpec.ofChange fnExactSayWordSpec)

/-- ITS FALSE NEIGHBOUR: 'it returns false'. Refute it at one input. -/
def fnExactSayWordWrong : ChangeSpec := { name := "fnExactSayWord", fn := fun _ => fun
  | [d] => { results := [.lit (.bool false)], args := [d] }
  | _ => none }
def FnExactSayWordWrongFalsely : Prop := fnExactSayWordRow.holds Try.pinned (OpenSpec.ofChange fnExactSayWordWrong)

/- THE SECOND FORM. 'bulk': how many values and letters a reading holds, each counted each time it is reached (what is shared counts as often as it is met; a slice's spare places count too). A statement '..UptoSaid' is the law's where the arguments, and the package variables that the reading takes, are together of bulk at most 1048576: NARROWER than '..Said'. Prove '..Said' where nothing that the law and all that it calls make is longer than what came in: it says more and counts as full. Else prove '..UptoSaid'. A law counts once. -/
mutual
def uptoBulk {H : Type} : DataW H → Nat
  | .lit (.string bytes) => bytes.length + 1
  | .lit _ => 1
  | .nil => 1
  | .ptr d => uptoBulk d + 1
  | .slice elems spare => uptoBulkAll elems + uptoBulkAll spare + 1
  | .agg parts => uptoBulkAll parts + 1
  | .iface _ d => uptoBulk d + 1
  | .map entries => uptoBulkEntries entries + 1
  | .held _ => 1
def uptoBulkAll {H : Type} : List (DataW H) → Nat
  | [] => 0
  | d :: r => uptoBulk d + uptoBulkAll r
def uptoBulkEntries {H : Type} : List (Lit × DataW H) → Nat
  | [] => 0
  | x :: r => uptoBulkEntry x + uptoBulkEntries r
def uptoBulkEntry {H : Type} : Lit × DataW H → Nat
  | (.string bytes, d) => bytes.length + uptoBulk d + 1
  | (_, d) => uptoBulk d + 1
 end
def uptoSmall : (H : Type) → List (DataW H) → Bool := fun _ ds => decide (uptoBulkAll ds ≤ 1048576)
def OpenSpec.upto (s : _root_.Go.ChangeSpec) : _root_.Go.OpenSpec := { _root_.Go.OpenSpec.ofChange s with cond := some uptoSmall }

/-- 'laws.FnExactTellList', WHERE WHAT IT READS IS OF BULK AT MOST 1048576: true; the input reads as it did. -/
def fnExactTellListUptoRow : OpenClaim := { program := "ytfkaghiopnaghab", sum := "8c169df0e86ee193e5ee03af1c912d243c21cd61886c8324c679d65ba23ccc21", func := "loop.example/g01240/laws.FnExactTellList", spec := "fnExactTellList", apart := false, narrowed := true }
def FnExactTellListUptoSaid : Prop := fnExactTellListUptoRow.holds Try.pinned (OpenSpec.upto fnExactTellListSpec)

/-- 'laws.FnExactIsSelfTold', WHERE WHAT IT READS IS OF BULK AT MOST 1048576: true; the input reads as it did. -/
def fnExactIsSelfToldUptoRow : OpenClaim := { program := "ytfkaghiopnaghab", sum := "8c169df0e86ee193e5ee03af1c912d243c21cd61886c8324c679d65ba23ccc21", func := "loop.example/g01240/laws.FnExactIsSelfTold", spec := "fnExactIsSelfTold", apart := false, narrowed := true }
def FnExactIsSelfToldUptoSaid : Prop := fnExactIsSelfToldUptoRow.holds Try.pinned (OpenSpec.upto fnExactIsSelfToldSpec)

/-- 'laws.FnExactWayOfTelling', WHERE WHAT IT READS IS OF BULK AT MOST 1048576: true; the input reads as it did. -/
def fnExactWayOfTellingUptoRow : OpenClaim := { program := "ytfkaghiopnaghab", sum := "8c169df0e86ee193e5ee03af1c912d243c21cd61886c8324c679d65ba23ccc21", func := "loop.example/g01240/laws.FnExactWayOfTelling", spec := "fnExactWayOfTelling", unfollowed := true, recurses := true, apart := false, narrowed := true }
def FnExactWayOfTellingUptoSaid : Prop := fnExactWayOfTellingUptoRow.holds Try.pinned (OpenSpec.upto fnExactWayOfTellingSpec)

/-- 'laws.FnExactLoopOfTelling', WHERE WHAT IT READS IS OF BULK AT MOST 1048576: true; the input reads as it did. -/
def fnExactLoopOfTellingUptoRow : OpenClaim := { program := "ytfkaghiopnaghab", sum := "8c169df0e86ee193e5ee03af1c912d243c21cd61886c8324c679d65ba23ccc21", func := "loop.example/g01240/laws.FnExactLoopOfTelling", spec := "fnExactLoopOfTelling", unfollowed := true, recurses := true, apart := false, narrowed := true }
def FnExactLoopOfTellingUptoSaid : Prop := fnExactLoopOfTellingUptoRow.holds Try.pinned (OpenSpec.upto fnExactLoopOfTellingSpec)

/-- 'laws.FnExactCountSelfTold', WHERE WHAT IT READS IS OF BULK AT MOST 1048576: true; the input reads as it did. -/
def fnExactCountSelfToldUptoRow : OpenClaim := { program := "ytfkaghiopnaghab", sum := "8c169df0e86ee193e5ee03af1c912d243c21cd61886c8324c679d65ba23ccc21", func := "loop.example/g01240/laws.FnExactCountSelfTold", spec := "fnExactCountSelfTold", unfollowed := true, recurses := true, apart := false, narrowed := true }
def FnExactCountSelfToldUptoSaid : Prop := fnExactCountSelfToldUptoRow.holds Try.pinned (OpenSpec.upto fnExactCountSelfToldSpec)

/-- 'laws.FnExactAllSelfTold', WHERE WHAT IT READS IS OF BULK AT MOST 1048576: true; the input reads as it did. -/
def fnExactAllSelfToldUptoRow : OpenClaim := { program := "ytfkaghiopnaghab", sum := "8c169df0e86ee193e5ee03af1c912d243c21cd61886c8324c679d65ba23ccc21", func := "loop.example/g01240/laws.FnExactAllSelfTold", spec := "fnExactAllSelfTold", unfollowed := true, recurses := true, apart := false, narrowed := true }
def FnExactAllSelfToldUptoSaid : Prop := fnExactAllSelfToldUptoRow.holds Try.pinned (OpenSpec.upto fnExactAllSelfToldSpec)

/-- 'laws.FnExactAllOwn', WHERE WHAT IT READS IS OF BULK AT MOST 1048576: true; the input reads as it did. -/
def fnExactAllOwnUptoRow : OpenClaim := { program := "ytfkaghiopnaghab", sum := "8c169df0e86ee193e5ee03af1c912d243c21cd61886c8324c679d65ba23ccc21", func := "loop.example/g01240/laws.FnExactAllOwn", spec := "fnExactAllOwn", unfollowed := true, recurses := true, apart := false, narrowed := true }
def FnExactAllOwnUptoSaid : Prop := fnExactAllOwnUptoRow.holds Try.pinned (OpenSpec.upto fnExactAllOwnSpec)

/-- 'laws.FnExactIsWord', WHERE WHAT IT READS IS OF BULK AT MOST 1048576: true; the input reads as it did. -/
def fnExactIsWordUptoRow : OpenClaim := { program := "ytfkaghiopnaghab", sum := "8c169df0e86ee193e5ee03af1c912d243c21cd61886c8324c679d65ba23ccc21", func := "loop.example/g01240/laws.FnExactIsWord", spec := "fnExactIsWord", apart := false, narrowed := true }
def FnExactIsWordUptoSaid : Prop := fnExactIsWordUptoRow.holds Try.pinned (OpenSpec.upto fnExactIsWordSpec)

/-- 'laws.FnExactSayWord', WHERE WHAT IT READS IS OF BULK AT MOST 1048576: true; the input reads as it did. -/
def fnExactSayWordUptoRow : OpenClaim := { program := "ytfkaghiopnaghab", sum := "8c169df0e86ee193e5ee03af1c912d243c21cd61886c8324c679d65ba23ccc21", func := "loop.example/g01240/laws.FnExactSayWord", spec := "fnExactSayWord", unfollowed := true, recurses := true, apart := false, narrowed := true }
def FnExactSayWordUptoSaid : Prop := fnExactSayWordUptoRow.holds Try.pinned (OpenSpec.upto fnExactSayWordSpec)

end Rows
end Go.Proofs.Ytfkaghiopnaghab
