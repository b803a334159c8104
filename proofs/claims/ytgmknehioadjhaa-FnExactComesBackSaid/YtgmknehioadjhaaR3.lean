/- Parts of a text, cut at places: plain lists. -/
import Derived.Test.YtgmknehioadjhaaR2
namespace Go.Proofs.Ytgmknehioadjhaa
set_option linter.unusedSimpArgs false
set_option linter.unusedVariables false

/-- The parts of a text from a place on, up to each of the given places. -/
def cutsL (l : List UInt8) : Nat → List Nat → List (List UInt8)
  | _, [] => []
  | f, p :: ps => ((l.drop f).take (p - f)) :: cutsL l p ps
theorem cutsL_snoc (l : List UInt8) (p : Nat) : ∀ (ps : List Nat) (f : Nat), cutsL l f (ps ++ [p]) = cutsL l f ps ++ [(l.drop (ps.getLastD f)).take (p - ps.getLastD f)]
  | [], f => rfl
  | q :: ps, f => by
    have e : (q :: ps).getLastD f = ps.getLastD q := by cases ps <;> rfl
    rw [e]
    simp only [List.cons_append, cutsL]
    rw [cutsL_snoc l p ps q]
theorem cutsL_len (l : List UInt8) : ∀ (ps : List Nat) (f : Nat), (cutsL l f ps).length = ps.length
  | [], _ => rfl
  | p :: ps, f => by simp [cutsL, cutsL_len l ps p]
theorem last_take_lt {ps : List Nat} (h : ps.Pairwise (· < ·)) (k : Nat) (hk : k < ps.length) : (ps.take k).getLastD 0 ≤ ps[k] := by
  cases k with
  | zero => simp
  | succ j =>
    have e : (ps.take (j + 1)).getLastD 0 = ps[j] := by
      rw [List.take_succ_eq_append_getElem (by omega), List.getLastD_concat]
    rw [e]
    exact Nat.le_of_lt (List.pairwise_iff_getElem.1 h j (j + 1) (by omega) hk (by omega))
end Go.Proofs.Ytgmknehioadjhaa
