/- What is heard: the model's woHear and HearWord. -/
import Derived.Test.YtmlghonidheidaaI11
namespace Go.Proofs.Ytmlghonidheidaa
open Go.RowKit Go.BigFrame
set_option linter.unusedSimpArgs false
set_option linter.unusedVariables false
set_option maxRecDepth 4000

theorem rowsH_runs {s : ByteArray} (hd : s.data.toList.all digB = true) (he : s.size % 2 = 0) : ∀ r ∈ rowsH s.data.toList, isRunB r = true := by
  intro r hr
  obtain ⟨k, hk, rfl⟩ := List.getElem_of_mem hr
  have hk2 := hk
  rw [rowsH_len] at hk2
  have hl : s.data.toList.length = s.size := by simp
  have h1 := dig_at s hd (2 * k + 1) (by omega)
  have h2 := dig_at s hd (2 * k) (by omega)
  rw [rowsH_get _ _ hk]
  have e1 : s.data.toList.getD (2 * k + 1) 0 = s[2 * k + 1]'(by omega) := by rw [List.getD_eq_getElem?_getD, List.getElem?_eq_getElem (by omega)]; rfl
  have e2 : s.data.toList.getD (2 * k) 0 = s[2 * k]'(by omega) := by rw [List.getD_eq_getElem?_getD, List.getElem?_eq_getElem (by omega)]; rfl
  rw [e1, e2]
  obtain ⟨a1, a2⟩ := h1
  obtain ⟨b1, b2⟩ := h2
  generalize s[2 * k + 1]'(by omega) = x at a1 a2 ⊢
  generalize s[2 * k]'(by omega) = y at b1 b2 ⊢
  unfold isRunB
  refine decide_eq_true ⟨rfl, ?_, ?_, ?_⟩
  · show (1 : Int) ≤ (x.toNat : Int) - 48; omega
  · show (x.toNat : Int) - 48 ≤ 9; omega
  · show (1 : Int) ≤ (y.toNat : Int) - 48; omega
theorem rowsH_at (s : ByteArray) (j : Nat) (k : Nat) (hj : j = 2 * k) (h : j + 1 < s.size) : (rowsH s.data.toList)[k]'(by rw [rowsH_len]; simp; omega) = [((s[j + 1]).toNat : Int) - 48, ((s[j]).toNat : Int) - 48] := by
  subst hj
  have hl : s.data.toList.length = s.size := by simp
  rw [rowsH_get]
  have e1 : s.data.toList.getD (2 * k + 1) 0 = s[2 * k + 1]'(by omega) := by rw [List.getD_eq_getElem?_getD, List.getElem?_eq_getElem (by omega)]; rfl
  have e2 : s.data.toList.getD (2 * k) 0 = s[2 * k]'(by omega) := by rw [List.getD_eq_getElem?_getD, List.getElem?_eq_getElem (by omega)]; rfl
  rw [e1, e2]

end Go.Proofs.Ytmlghonidheidaa
