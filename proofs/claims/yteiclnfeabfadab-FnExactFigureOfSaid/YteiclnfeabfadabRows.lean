/-
  No cell of these rows narrows 'for every input' (looked for: loops, veiled, ifaces, maps, wideKeys, modest, calm, conditions, laid).
  DERIVED. THE GIVEN ROWS OF THIS SEAT. 6 by the template 'for every input the law returns true; each argument reads behind the call as it read before'; 0 by the template 'total and deterministic' (their statements: YteiclnfeabfadabTotals.lean).
  GIVEN WITH THE SEED: the statements are not yours to turn. If you find one false, say at which input.
  Laid BY PROGRAM, IN A SANDBOX (cutbox-rows.mjs): the forced cells as the released guide's own fill.sh prints them over the translation 5145178efb3407ab… (all of the seat's roots in one cut). By AI agents, Wed Nov 11 2026. No macro, syntax, notation, axiom, sorry.
-/
import Derived.Test.YteiclnfeabfadabChecked
import GoSem.Claim
import GoSem.ClaimJoined
import GoSem.ClaimMapViews
import Derived.JoinedTies
import Derived.KernelRfl
namespace Go.Proofs.Yteiclnfeabfadab
/- THE CELL 'sum', in the pinned program and in every row, IS THE sha256 OF THE DUMP (.gsa) THAT YteiclnfeabfadabProg.lean LOADS. Nothing in Lean hashes anything: it is a label: what it is worth is what the hold of that sum in a sandbox is worth. -/
noncomputable def Try.pinned : Pinned := { name := "yteiclnfeabfadab", sum := "5145178efb3407ab774357f1fccececea9e57675a4517976bd30c4e213a77aad", checked := Try.checked }
namespace Rows
def none {H : Type} : Left H := { results := [], args := [] }

/-- 'laws.FnExactFigureOf': WHATEVER THE INPUT: true; the input reads as it did. -/
def fnExactFigureOfSpec : ChangeSpec := { name := "fnExactFigureOf", fn := fun _ => fun
  | [d] => { results := [.lit (.bool true)], args := [d] }
  | _ => none }
def fnExactFigureOfRow : OpenClaim := { program := "yteiclnfeabfadab", sum := "5145178efb3407ab774357f1fccececea9e57675a4517976bd30c4e213a77aad", func := "loop.example/g01240/laws.FnExactFigureOf", spec := "fnExactFigureOf", apart := false }
def FnExactFigureOfSaid : Prop := fnExactFigureOfRow.holds Try.pinned (OpenSpec.ofChange fnExactFigureOfSpec)

/-- ITS FALSE NEIGHBOUR: 'it returns false'. Refute it at one input. -/
def fnExactFigureOfWrong : ChangeSpec := { name := "fnExactFigureOf", fn := fun _ => fun
  | [d] => { results := [.lit (.bool false)], args := [d] }
  | _ => none }
def FnExactFigureOfWrongFalsely : Prop := fnExactFigureOfRow.holds Try.pinned (OpenSpec.ofChange fnExactFigureOfWrong)

/-- 'laws.FnExactStepOf': WHATEVER THE INPUT: true; the input reads as it did. -/
def fnExactStepOfSpec : ChangeSpec := { name := "fnExactStepOf", fn := fun _ => fun
  | [d] => { results := [.lit (.bool true)], args := [d] }
  | _ => none }
def fnExactStepOfRow : OpenClaim := { program := "yteiclnfeabfadab", sum := "5145178efb3407ab774357f1fccececea9e57675a4517976bd30c4e213a77aad", func := "loop.example/g01240/laws.FnExactStepOf", spec := "fnExactStepOf", apart := false }
def FnExactStepOfSaid : Prop := fnExactStepOfRow.holds Try.pinned (OpenSpec.ofChange fnExactStepOfSpec)

/-- ITS FALSE NEIGHBOUR: 'it returns false'. Refute it at one input. -/
def fnExactStepOfWrong : ChangeSpec := { name := "fnExactStepOf", fn := fun _ => fun
  | [d] => { results := [.lit (.bool false)], args := [d] }
  | _ => none }
def FnExactStepOfWrongFalsely : Prop := fnExactStepOfRow.holds Try.pinned (OpenSpec.ofChange fnExactStepOfWrong)

/-- 'laws.FnExactIsFigure': WHATEVER THE INPUT: true; the input reads as it did. -/
def fnExactIsFigureSpec : ChangeSpec := { name := "fnExactIsFigure", fn := fun _ => fun
  | [d] => { results := [.lit (.bool true)], args := [d] }
  | _ => none }
def fnExactIsFigureRow : OpenClaim := { program := "yteiclnfeabfadab", sum := "5145178efb3407ab774357f1fccececea9e57675a4517976bd30c4e213a77aad", func := "loop.example/g01240/laws.FnExactIsFigure", spec := "fnExactIsFigure", apart := false }
def FnExactIsFigureSaid : Prop := fnExactIsFigureRow.holds Try.pinned (OpenSpec.ofChange fnExactIsFigureSpec)

/-- ITS FALSE NEIGHBOUR: 'it returns false'. Refute it at one input. -/
def fnExactIsFigureWrong : ChangeSpec := { name := "fnExactIsFigure", fn := fun _ => fun
  | [d] => { results := [.lit (.bool false)], args := [d] }
  | _ => none }
def FnExactIsFigureWrongFalsely : Prop := fnExactIsFigureRow.holds Try.pinned (OpenSpec.ofChange fnExactIsFigureWrong)

/-- 'laws.FnExactHalvedOf': WHATEVER THE INPUT: true; the input reads as it did. -/
def fnExactHalvedOfSpec : ChangeSpec := { name := "fnExactHalvedOf", fn := fun _ => fun
  | [d] => { results := [.lit (.bool true)], args := [d] }
  | _ => none }
def fnExactHalvedOfRow : OpenClaim := { program := "yteiclnfeabfadab", sum := "5145178efb3407ab774357f1fccececea9e57675a4517976bd30c4e213a77aad", func := "loop.example/g01240/laws.FnExactHalvedOf", spec := "fnExactHalvedOf", recurses := true, apart := false }
def FnExactHalvedOfSaid : Prop := fnExactHalvedOfRow.holds Try.pinned (OpenSpec.ofChange fnExactHalvedOfSpec)

/-- ITS FALSE NEIGHBOUR: 'it returns false'. Refute it at one input. -/
def fnExactHalvedOfWrong : ChangeSpec := { name := "fnExactHalvedOf", fn := fun _ => fun
  | [d] => { results := [.lit (.bool false)], args := [d] }
  | _ => none }
def FnExactHalvedOfWrongFalsely : Prop := fnExactHalvedOfRow.holds Try.pinned (OpenSpec.ofChange fnExactHalvedOfWrong)

/-- 'laws.FnExactHalvedRank': WHATEVER THE INPUT: true; the input reads as it did. -/
def fnExactHalvedRankSpec : ChangeSpec := { name := "fnExactHalvedRank", fn := fun _ => fun
  | [d1, d2] => { results := [.lit (.bool true)], args := [d1, d2] }
  | _ => none }
def fnExactHalvedRankRow : OpenClaim := { program := "yteiclnfeabfadab", sum := "5145178efb3407ab774357f1fccececea9e57675a4517976bd30c4e213a77aad", func := "loop.example/g01240/laws.FnExactHalvedRank", spec := "fnExactHalvedRank", apart := false }
def FnExactHalvedRankSaid : Prop := fnExactHalvedRankRow.holds Try.pinned (OpenSpec.ofChange fnExactHalvedRankSpec)

/-- ITS FALSE NEIGHBOUR: 'it returns false'. Refute it at one input. -/
def fnExactHalvedRankWrong : ChangeSpec := { name := "fnExactHalvedRank", fn := fun _ => fun
  | [d1, d2] => { results := [.lit (.bool false)], args := [d1, d2] }
  | _ => none }
def FnExactHalvedRankWrongFalsely : Prop := fnExactHalvedRankRow.holds Try.pinned (OpenSpec.ofChange fnExactHalvedRankWrong)

/-- 'laws.FnExactHalvedPair': WHATEVER THE INPUT: true; the input reads as it did. -/
def fnExactHalvedPairSpec : ChangeSpec := { name := "fnExactHalvedPair", fn := fun _ => fun
  | [d] => { results := [.lit (.bool true)], args := [d] }
  | _ => none }
def fnExactHalvedPairRow : OpenClaim := { program := "yteiclnfeabfadab", sum := "5145178efb3407ab774357f1fccececea9e57675a4517976bd30c4e213a77aad", func := "loop.example/g01240/laws.FnExactHalvedPair", spec := "fnExactHalvedPair", recurses := true, apart := false }
def FnExactHalvedPairSaid : Prop := fnExactHalvedPairRow.holds Try.pinned (OpenSpec.ofChange fnExactHalvedPairSpec)

/-- ITS FALSE NEIGHBOUR: 'it returns false'. Refute it at one input. -/
def fnExactHalvedPairWrong : ChangeSpec := { name := "fnExactHalvedPair", fn := fun _ => fun
  | [d] => { results := [.lit (.bool false)], args := [d] }
  | _ => none }
def FnExactHalvedPairWrongFalsely : Prop := fnExactHalvedPairRow.holds Try.pinned (OpenSpec.ofChange fnExactHalvedPairWrong)

/- THE SECOND FORM. 'bulk': how many values and letters a reading holds, each counted each time it is reached (what is shared counts as often as it is met; a slice's spare places count too). A statement '..UptoSaid' is the law's where the arguments, and the package variables that the reading takes, are together of bulk at most 1048576: NARROWER than '..Said'. Prove '..Said' where nothing that the law and all that it calls make is longer than what came in: it says more and counts as full. Else prove '..UptoSaid'. A law counts once. -/
mutual
def uptoBulk {H : Type} : DataW H → Nat
  | .lit (.string bytes) => bytes.length + 1
  | .lit _ => 1
  | .nil => 1
  | .ptr d => uptoBulk d + 1
  | .slice elems spare => uptoBulkAll elems + uptoBulkAll spare + 1
  | .agg parts => uptoBulkAll parts + 1
  | .iface _ d => uptoBulk d + 1
  | .map entries => uptoBulkEntries entries + 1
  | .held _ => 1
def uptoBulkAll {H : Type} : List (DataW H) → Nat
  | [] => 0
  | d :: r => uptoBulk d + uptoBulkAll r
def uptoBulkEntries {H : Type} : List (Lit × DataW H) → Nat
  | [] => 0
  | x :: r => uptoBulkEntry x + uptoBulkEntries r
def uptoBulkEntry {H : Type} : Lit × DataW H → Nat
  | (.string bytes, d) => bytes.length + uptoBulk d + 1
  | (_, d) => uptoBulk d + 1
 end
def uptoSmall : (H : Type) → List (DataW H) → Bool := fun _ ds => decide (uptoBulkAll ds ≤ 1048576)
def OpenSpec.upto (s : _root_.Go.ChangeSpec) : _root_.Go.OpenSpec := { _root_.Go.OpenSpec.ofChange s with cond := some uptoSmall }

/-- 'laws.FnExactFigureOf', WHERE WHAT IT READS IS OF BULK AT MOST 1048576: true; the input reads as it did. -/
def fnExactFigureOfUptoRow : OpenClaim := { program := "yteiclnfeabfadab", sum := "5145178efb3407ab774357f1fccececea9e57675a4517976bd30c4e213a77aad", func := "loop.example/g01240/laws.FnExactFigureOf", spec := "fnExactFigureOf", apart := false, narrowed := true }
def FnExactFigureOfUptoSaid : Prop := fnExactFigureOfUptoRow.holds Try.pinned (OpenSpec.upto fnExactFigureOfSpec)

/-- 'laws.FnExactStepOf', WHERE WHAT IT READS IS OF BULK AT MOST 1048576: true; the input reads as it did. -/
def fnExactStepOfUptoRow : OpenClaim := { program := "yteiclnfeabfadab", sum := "5145178efb3407ab774357f1fccececea9e57675a4517976bd30c4e213a77aad", func := "loop.example/g01240/laws.FnExactStepOf", spec := "fnExactStepOf", apart := false, narrowed := true }
def FnExactStepOfUptoSaid : Prop := fnExactStepOfUptoRow.holds Try.pinned (OpenSpec.upto fnExactStepOfSpec)

/-- 'laws.FnExactIsFigure', WHERE WHAT IT READS IS OF BULK AT MOST 1048576: true; the input reads as it did. -/
def fnExactIsFigureUptoRow : OpenClaim := { program := "yteiclnfeabfadab", sum := "5145178efb3407ab774357f1fccececea9e57675a4517976bd30c4e213a77aad", func := "loop.example/g01240/laws.FnExactIsFigure", spec := "fnExactIsFigure", apart := false, narrowed := true }
def FnExactIsFigureUptoSaid : Prop := fnExactIsFigureUptoRow.holds Try.pinned (OpenSpec.upto fnExactIsFigureSpec)

/-- 'laws.FnExactHalvedOf', WHERE WHAT IT READS IS OF BULK AT MOST 1048576: true; the input reads as it did. -/
def fnExactHalvedOfUptoRow : OpenClaim := { program := "yteiclnfeabfadab", sum := "5145178efb3407ab774357f1fccececea9e57675a4517976bd30c4e213a77aad", func := "loop.example/g01240/laws.FnExactHalvedOf", spec := "fnExactHalvedOf", recurses := true, apart := false, narrowed := true }
def FnExactHalvedOfUptoSaid : Prop := fnExactHalvedOfUptoRow.holds Try.pinned (OpenSpec.upto fnExactHalvedOfSpec)

/-- 'laws.FnExactHalvedRank', WHERE WHAT IT READS IS OF BULK AT MOST 1048576: true; the input reads as it did. -/
def fnExactHalvedRankUptoRow : OpenClaim := { program := "yteiclnfeabfadab", sum := "5145178efb3407ab774357f1fccececea9e57675a4517976bd30c4e213a77aad", func := "loop.example/g01240/laws.FnExactHalvedRank", spec := "fnExactHalvedRank", apart := false, narrowed := true }
def FnExactHalvedRankUptoSaid : Prop := fnExactHalvedRankUptoRow.holds Try.pinned (OpenSpec.upto fnExactHalvedRankSpec)

/-- 'laws.FnExactHalvedPair', WHERE WHAT IT READS IS OF BULK AT MOST 1048576: true; the input reads as it did. -/
def fnExactHalvedPairUptoRow : OpenClaim := { program := "yteiclnfeabfadab", sum := "5145178efb3407ab774357f1fccececea9e57675a4517976bd30c4e213a77aad", func := "loop.example/g01240/laws.FnExactHalvedPair", spec := "fnExactHalvedPair", recurses := true, apart := false, narrowed := true }
def FnExactHalvedPairUptoSaid : Prop := fnExactHalvedPairUptoRow.holds Try.pinned (OpenSpec.upto fnExactHalvedPairSpec)

end Rows
end Go.Proofs.Yteiclnfeabfadab
