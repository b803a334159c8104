/-
  No cell of these rows narrows 'for every input' (looked for: loops, veiled, ifaces, maps, wideKeys, modest, calm, conditions, laid).
  DERIVED. THE GIVEN ROWS OF THIS SEAT. 5 by the template 'for every input the law returns true; each argument reads behind the call as it read before'; 0 by the template 'total and deterministic' (their statements: YtbjhalhahipjdabTotals.lean).
  GIVEN WITH THE SEED: the statements are not yours to turn. If you find one false, say at which input.
  Laid BY PROGRAM, IN A SANDBOX (cutbox-rows.mjs): the forced cells as the released guide's own fill.sh prints them over the translation fdb0e80bbd368207… (all of the seat's roots in one cut). By AI agents, Wed Nov 11 2026. No macro, syntax, notation, axiom, sorry.
-/
import Derived.Test.YtbjhalhahipjdabChecked
import GoSem.Claim
import GoSem.ClaimJoined
import GoSem.ClaimMapViews
import Derived.JoinedTies
import Derived.KernelRfl
namespace Go.Proofs.Ytbjhalhahipjdab
/- THE CELL 'sum', in the pinned program and in every row, IS THE sha256 OF THE DUMP (.gsa) THAT YtbjhalhahipjdabProg.lean LOADS. Nothing in Lean hashes anything: it is a label: what it is worth is what the hold of that sum in a sandbox is worth. -/
noncomputable def Try.pinned : Pinned := { name := "ytbjhalhahipjdab", sum := "fdb0e80bbd368207843e5d7bedf711b4915d0e93ddb9f7b58ef8c399c958e100", checked := Try.checked }
namespace Rows
def none {H : Type} : Left H := { results := [], args := [] }

/-- 'laws.FnExactEckList': WHATEVER THE INPUT: true; the input reads as it did. -/
def fnExactEckListSpec : ChangeSpec := { name := "fnExactEckList", fn := fun _ => fun
  | [d1, d2] => { results := [.lit (.bool true)], args := [d1, d2] }
  | _ => none }
def fnExactEckListRow : OpenClaim := { program := "ytbjhalhahipjdab", sum := "fdb0e80bbd368207843e5d7bedf711b4915d0e93ddb9f7b58ef8c399c958e100", func := "loop.example/g01240/laws.FnExactEckList", spec := "fnExactEckList", unfollowed := true, recurses := true, apart := false }
def FnExactEckListSaid : Prop := fnExactEckListRow.holds Try.pinned (OpenSpec.ofChange fnExactEckListSpec)

/-- ITS FALSE NEIGHBOUR: 'it returns false'. Refute it at one input. -/
def fnExactEckListWrong : ChangeSpec := { name := "fnExactEckList", fn := fun _ => fun
  | [d1, d2] => { results := [.lit (.bool false)], args := [d1, d2] }
  | _ => none }
def FnExactEckListWrongFalsely : Prop := fnExactEckListRow.holds Try.pinned (OpenSpec.ofChange fnExactEckListWrong)

/-- 'laws.FnExactEckNumber': WHATEVER THE INPUT: true; the input reads as it did. -/
def fnExactEckNumberSpec : ChangeSpec := { name := "fnExactEckNumber", fn := fun _ => fun
  | [d1, d2] => { results := [.lit (.bool true)], args := [d1, d2] }
  | _ => none }
def fnExactEckNumberRow : OpenClaim := { program := "ytbjhalhahipjdab", sum := "fdb0e80bbd368207843e5d7bedf711b4915d0e93ddb9f7b58ef8c399c958e100", func := "loop.example/g01240/laws.FnExactEckNumber", spec := "fnExactEckNumber", unfollowed := true, recurses := true, apart := false }
def FnExactEckNumberSaid : Prop := fnExactEckNumberRow.holds Try.pinned (OpenSpec.ofChange fnExactEckNumberSpec)

/-- ITS FALSE NEIGHBOUR: 'it returns false'. Refute it at one input. -/
def fnExactEckNumberWrong : ChangeSpec := { name := "fnExactEckNumber", fn := fun _ => fun
  | [d1, d2] => { results := [.lit (.bool false)], args := [d1, d2] }
  | _ => none }
def FnExactEckNumberWrongFalsely : Prop := fnExactEckNumberRow.holds Try.pinned (OpenSpec.ofChange fnExactEckNumberWrong)

/-- 'laws.FnExactEckFirst': WHATEVER THE INPUT: true; the input reads as it did. -/
def fnExactEckFirstSpec : ChangeSpec := { name := "fnExactEckFirst", fn := fun _ => fun
  | [d1, d2] => { results := [.lit (.bool true)], args := [d1, d2] }
  | _ => none }
def fnExactEckFirstRow : OpenClaim := { program := "ytbjhalhahipjdab", sum := "fdb0e80bbd368207843e5d7bedf711b4915d0e93ddb9f7b58ef8c399c958e100", func := "loop.example/g01240/laws.FnExactEckFirst", spec := "fnExactEckFirst", unfollowed := true, recurses := true, apart := false }
def FnExactEckFirstSaid : Prop := fnExactEckFirstRow.holds Try.pinned (OpenSpec.ofChange fnExactEckFirstSpec)

/-- ITS FALSE NEIGHBOUR: 'it returns false'. Refute it at one input. -/
def fnExactEckFirstWrong : ChangeSpec := { name := "fnExactEckFirst", fn := fun _ => fun
  | [d1, d2] => { results := [.lit (.bool false)], args := [d1, d2] }
  | _ => none }
def FnExactEckFirstWrongFalsely : Prop := fnExactEckFirstRow.holds Try.pinned (OpenSpec.ofChange fnExactEckFirstWrong)

/-- 'laws.FnExactEckZeros': WHATEVER THE INPUT: true; the input reads as it did. -/
def fnExactEckZerosSpec : ChangeSpec := { name := "fnExactEckZeros", fn := fun _ => fun
  | [d1, d2] => { results := [.lit (.bool true)], args := [d1, d2] }
  | _ => none }
def fnExactEckZerosRow : OpenClaim := { program := "ytbjhalhahipjdab", sum := "fdb0e80bbd368207843e5d7bedf711b4915d0e93ddb9f7b58ef8c399c958e100", func := "loop.example/g01240/laws.FnExactEckZeros", spec := "fnExactEckZeros", unfollowed := true, recurses := true, apart := false }
def FnExactEckZerosSaid : Prop := fnExactEckZerosRow.holds Try.pinned (OpenSpec.ofChange fnExactEckZerosSpec)

/-- ITS FALSE NEIGHBOUR: 'it returns false'. Refute it at one input. -/
def fnExactEckZerosWrong : ChangeSpec := { name := "fnExactEckZeros", fn := fun _ => fun
  | [d1, d2] => { results := [.lit (.bool false)], args := [d1, d2] }
  | _ => none }
def FnExactEckZerosWrongFalsely : Prop := fnExactEckZerosRow.holds Try.pinned (OpenSpec.ofChange fnExactEckZerosWrong)

/-- 'laws.FnExactAllForms': WHATEVER THE INPUT: true; the input reads as it did. -/
def fnExactAllFormsSpec : ChangeSpec := { name := "fnExactAllForms", fn := fun _ => fun
  | [d] => { results := [.lit (.bool true)], args := [d] }
  | _ => none }
def fnExactAllFormsRow : OpenClaim := { program := "ytbjhalhahipjdab", sum := "fdb0e80bbd368207843e5d7bedf711b4915d0e93ddb9f7b58ef8c399c958e100", func := "loop.example/g01240/laws.FnExactAllForms", spec := "fnExactAllForms", recurses := true, apart := false }
def FnExactAllFormsSaid : Prop := fnExactAllFormsRow.holds Try.pinned (OpenSpec.ofChange fnExactAllFormsSpec)

/-- ITS FALSE NEIGHBOUR: 'it returns false'. Refute it at one input. -/
def fnExactAllFormsWrong : ChangeSpec := { name := "fnExactAllForms", fn := fun _ => fun
  | [d] => { results := [.lit (.bool false)], args := [d] }
  | _ => none }
def FnExactAllFormsWrongFalsely : Prop := fnExactAllFormsRow.holds Try.pinned (OpenSpec.ofChange fnExactAllFormsWrong)

/- THE SECOND FORM. 'bulk': how many values and letters a reading holds, each counted each time it is reached (what is shared counts as often as it is met; a slice's spare places count too). A statement '..UptoSaid' is the law's where the arguments, and the package variables that the reading takes, are together of bulk at most 1048576: NARROWER than '..Said'. Prove '..Said' where nothing that the law and all that it calls make is longer than what came in: it says more and counts as full. Else prove '..UptoSaid'. A law counts once. -/
mutual
def uptoBulk {H : Type} : DataW H → Nat
  | .lit (.string bytes) => bytes.length + 1
  | .lit _ => 1
  | .nil => 1
  | .ptr d => uptoBulk d + 1
  | .slice elems spare => uptoBulkAll elems + uptoBulkAll spare + 1
  | .agg parts => uptoBulkAll parts + 1
  | .iface _ d => uptoBulk d + 1
  | .map entries => uptoBulkEntries entries + 1
  | .held _ => 1
def uptoBulkAll {H : Type} : List (DataW H) → Nat
  | [] => 0
  | d :: r => uptoBulk d + uptoBulkAll r
def uptoBulkEntries {H : Type} : List (Lit × DataW H) → Nat
  | [] => 0
  | x :: r => uptoBulkEntry x + uptoBulkEntries r
def uptoBulkEntry {H : Type} : Lit × DataW H → Nat
  | (.string bytes, d) => bytes.length + uptoBulk d + 1
  | (_, d) => uptoBulk d + 1
 end
def uptoSmall : (H : Type) → List (DataW H) → Bool := fun _ ds => decide (uptoBulkAll ds ≤ 1048576)
def OpenSpec.upto (s : _root_.Go.ChangeSpec) : _root_.Go.OpenSpec := { _root_.Go.OpenSpec.ofChange s with cond := some uptoSmall }

/-- 'laws.FnExactEckList', WHERE WHAT IT READS IS OF BULK AT MOST 1048576: true; the input reads as it did. -/
def fnExactEckListUptoRow : OpenClaim := { program := "ytbjhalhahipjdab", sum := "fdb0e80bbd368207843e5d7bedf711b4915d0e93ddb9f7b58ef8c399c958e100", func := "loop.example/g01240/laws.FnExactEckList", spec := "fnExactEckList", unfollowed := true, recurses := true, apart := false, narrowed := true }
def FnExactEckListUptoSaid : Prop := fnExactEckListUptoRow.holds Try.pinned (OpenSpec.upto fnExactEckListSpec)

/-- 'laws.FnExactEckNumber', WHERE WHAT IT READS IS OF BULK AT MOST 1048576: true; the input reads as it did. -/
def fnExactEckNumberUptoRow : OpenClaim := { program := "ytbjhalhahipjdab", sum := "fdb0e80bbd368207843e5d7bedf711b4915d0e93ddb9f7b58ef8c399c958e100", func := "loop.example/g01240/laws.FnExactEckNumber", spec := "fnExactEckNumber", unfollowed := true, recurses := true, apart := false, narrowed := true }
def FnExactEckNumberUptoSaid : Prop := fnExactEckNumberUptoRow.holds Try.pinned (OpenSpec.upto fnExactEckNumberSpec)

/-- 'laws.FnExactEckFirst', WHERE WHAT IT READS IS OF BULK AT MOST 1048576: true; the input reads as it did. -/
def fnExactEckFirstUptoRow : OpenClaim := { program := "ytbjhalhahipjdab", sum := "fdb0e80bbd368207843e5d7bedf711b4915d0e93ddb9f7b58ef8c399c958e100", func := "loop.example/g01240/laws.FnExactEckFirst", spec := "fnExactEckFirst", unfollowed := true, recurses := true, apart := false, narrowed := true }
def FnExactEckFirstUptoSaid : Prop := fnExactEckFirstUptoRow.holds Try.pinned (OpenSpec.upto fnExactEckFirstSpec)

/-- 'laws.FnExactEckZeros', WHERE WHAT IT READS IS OF BULK AT MOST 1048576: true; the input reads as it did. -/
def fnExactEckZerosUptoRow : OpenClaim := { program := "ytbjhalhahipjdab", sum := "fdb0e80bbd368207843e5d7bedf711b4915d0e93ddb9f7b58ef8c399c958e100", func := "loop.example/g01240/laws.FnExactEckZeros", spec := "fnExactEckZeros", unfollowed := true, recurses := true, apart := false, narrowed := true }
def FnExactEckZerosUptoSaid : Prop := fnExactEckZerosUptoRow.holds Try.pinned (OpenSpec.upto fnExactEckZerosSpec)

/-- 'laws.FnExactAllForms', WHERE WHAT IT READS IS OF BULK AT MOST 1048576: true; the input reads as it did. -/
def fnExactAllFormsUptoRow : OpenClaim := { program := "ytbjhalhahipjdab", sum := "fdb0e80bbd368207843e5d7bedf711b4915d0e93ddb9f7b58ef8c399c958e100", func := "loop.example/g01240/laws.FnExactAllForms", spec := "fnExactAllForms", recurses := true, apart := false, narrowed := true }
def FnExactAllFormsUptoSaid : Prop := fnExactAllFormsUptoRow.holds Try.pinned (OpenSpec.upto fnExactAllFormsSpec)

end Rows
end Go.Proofs.Ytbjhalhahipjdab
