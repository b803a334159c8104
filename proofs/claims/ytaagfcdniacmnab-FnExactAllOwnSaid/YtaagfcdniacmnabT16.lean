/- The loop of inventories: the model's and the program's LoopOfInventory, and the law. -/
import Derived.Test.YtaagfcdniacmnabT15
namespace Go.Proofs.Ytaagfcdniacmnab
open Go.RowKit Go.BigFrame
set_option linter.unusedSimpArgs false
set_option linter.unusedVariables false
set_option maxRecDepth 4000

def loopO (K : Nat) (l : List UInt8) : Option (List (List UInt8) × Nat) := if goodL l = true then loopF invO K [] l else none
def tailV (o : Option (List (List UInt8) × Nat)) : Int := ((o.getD ([], 0)).2 : Int)
def cycV (o : Option (List (List UInt8) × Nat)) : Int := ((o.getD ([], 0)).1.length : Int) - ((o.getD ([], 0)).2 : Int)
/-- What LoopOk says, opened: the value is a slice of so many texts. -/
theorem loopOk_open {o : Option (List (List UInt8) × Nat)} {w w' : World} {e : Ending} (h : LoopOk o w w' e) :
    ∃ a n c i, e = .returned (.tuple #[.slice a n c, .int .i64 (i : Nat), .bool o.isSome]) ∧ (i : Int) = tailV o ∧ (n : Int) - (i : Int) = cycV o ∧ i ≤ n ∧ n ≤ 2000000000 ∧ Below w.heap.size w w' := by
  obtain ⟨v, rfl, h2, h3, h4, h5⟩ := h
  obtain ⟨a, c, rfl⟩ := own_slice h2
  refine ⟨a, _, c, _, rfl, rfl, rfl, ?_, ?_, h3⟩
  · cases o with
    | none => exact Nat.le_refl _
    | some p => exact Nat.le_of_lt (h5 (by simp)).1
  · cases o with
    | none => simp
    | some p => exact (h5 (by simp)).2

end Go.Proofs.Ytaagfcdniacmnab
