/- The longest run, speakable words: the model's functions. -/
import Derived.Test.YtkdoghopbefjfaaA2
namespace Go.Proofs.Ytkdoghopbefjfaa
open Go.RowKit Go.BigFrame
set_option linter.unusedSimpArgs false
set_option linter.unusedVariables false
set_option maxRecDepth 4000

def longR (rs : List (UInt8 × Nat)) : Nat := rs.foldl (fun a p => max a p.2) 0
def longL (l : List UInt8) : Nat := longR (runsL l)
def speakL (l : List UInt8) : Bool := goodL l && decide (longL l ≤ 9)
theorem longR_snoc (rs : List (UInt8 × Nat)) (p : UInt8 × Nat) : longR (rs ++ [p]) = max (longR rs) p.2 := by simp [longR]
theorem longR_le (rs : List (UInt8 × Nat)) : longR rs ≤ (rs.map (·.2)).sum := by
  induction h : rs.length generalizing rs with
  | zero => have : rs = [] := List.eq_nil_of_length_eq_zero h; subst this; simp [longR]
  | succ n ih =>
    have hne : rs ≠ [] := by intro e; simp [e] at h
    have hd := List.dropLast_concat_getLast hne
    rw [← hd, longR_snoc, List.map_append, List.sum_append]
    have := ih rs.dropLast (by simp [h])
    simp only [List.map_cons, List.map_nil, List.sum_cons, List.sum_nil]; omega
theorem longL_le (l : List UInt8) : longL l ≤ l.length := by
  have := longR_le (runsL l); rw [runsL_sum] at this; exact this
theorem goodL_parts {s : ByteArray} (h : goodL s.data.toList = true) : 1 ≤ s.size ∧ s.size ≤ 400 ∧ s.data.toList.all digB = true := by
  rw [goodL_of s (by simp)] at h
  simp only [Bool.and_eq_true, decide_eq_true_eq] at h
  exact ⟨h.1.1, h.1.2, h.2⟩

theorem longR_take_succ (rs : List (UInt8 × Nat)) (k : Nat) (h : k < rs.length) : longR (rs.take (k + 1)) = max (longR (rs.take k)) rs[k].2 := by
  rw [List.take_succ_eq_append_getElem h, longR_snoc]
theorem runsL_ne {l : List UInt8} (h : 1 ≤ l.length) : runsL l ≠ [] := by
  have hne : l ≠ [] := by intro e; simp [e] at h
  have hd := List.dropLast_concat_getLast hne
  rw [← hd, runsL_snoc]
  exact stepRun_ne _ _

end Go.Proofs.Ytkdoghopbefjfaa
