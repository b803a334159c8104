/- The law TellList. -/
import Derived.Test.YtkdoghopbefjfaaU4
namespace Go.Proofs.Ytkdoghopbefjfaa
open Go.RowKit Go.BigFrame
set_option linter.unusedSimpArgs false
set_option linter.unusedVariables false
set_option maxRecDepth 4000

theorem slice_ne {g k n c : Nat} (h : g ≠ k) : (Value.slice (some ⟨g, 0, none⟩) n c).ownBlock ≠ some k := by
  intro e
  simp [Value.ownBlock] at e
  exact h e
theorem tellO_len (xs : List Int) : ((tellO xs).getD []).length ≤ 9 := by
  unfold tellO
  split
  · rename_i h
    unfold tolL at h
    simp only [Bool.and_eq_true, decide_eq_true_eq] at h
    simp [ti_len, tel_len]; omega
  · simp

end Go.Proofs.Ytkdoghopbefjfaa
