/- Hearing again and again: the model's and the program's HearTimes (beside the ways of wayFrom). -/
import Derived.Test.YtmlghonidheidaaI13
import Derived.Test.YtmlghonidheidaaT12
namespace Go.Proofs.Ytmlghonidheidaa
open Go.RowKit Go.BigFrame
set_option linter.unusedSimpArgs false
set_option linter.unusedVariables false
set_option maxRecDepth 4000

/-- What is heard at last, at most so many times, and how often that is. -/
def htGo : Nat → List UInt8 → List UInt8 × Nat
  | 0, l => (l, 0)
  | n + 1, l => match hearO l with
    | none => (l, 0)
    | some t => ((htGo n t).1, (htGo n t).2 + 1)
theorem htGo_none (n : Nat) (l : List UInt8) (h : hearO l = none) : htGo n l = (l, 0) := by
  cases n with
  | zero => rfl
  | succ m => unfold htGo; rw [h]
theorem htGo_some (n : Nat) (l t : List UInt8) (h : hearO l = some t) : htGo (n + 1) l = ((htGo n t).1, (htGo n t).2 + 1) := by
  conv => lhs; unfold htGo
  rw [h]
theorem hearO_good {l t : List UInt8} (h : hearO l = some t) : goodL t = true := by
  unfold hearO at h
  split at h
  · unfold wordO at h
    split at h
    · split at h
      · rename_i hg; cases h; exact hg
      · cases h
    · cases h
  · cases h
theorem good_size {l : List UInt8} (h : goodL l = true) : (bs l).size ≤ 400 := by
  rw [bs_size]; unfold goodL at h; simp at h; omega
def htV (l : List UInt8) : Value := if goodL l = true then .tuple #[.string (bs (htGo 20 l).1), .int .i64 ((htGo 20 l).2 : Int), .bool true] else .tuple #[.string ⟨#[]⟩, .int .i64 0, .bool false]
/-- Where hearing stands: so many times are heard. -/
def HtAt (l0 : List UInt8) (k : Nat) (l : List UInt8) : Prop := k ≤ 20 ∧ goodL l = true ∧ (htGo (20 - k) l).1 = (htGo 20 l0).1 ∧ (htGo (20 - k) l).2 + k = (htGo 20 l0).2
theorem htAt_next {l0 l t : List UInt8} {k : Nat} (h : HtAt l0 k l) (hk : k < 20) (ht : hearO l = some t) : HtAt l0 (k + 1) t := by
  obtain ⟨h1, h2, h3, h4⟩ := h
  obtain ⟨m, hm⟩ : ∃ m, 20 - k = m + 1 := ⟨19 - k, by omega⟩
  rw [hm, htGo_some m l t ht] at h3 h4
  have e : 20 - (k + 1) = m := by omega
  refine ⟨by omega, hearO_good ht, by rw [e]; exact h3, ?_⟩
  rw [e]; simp only at h4; omega
theorem htAt_stop {l0 l : List UInt8} {k : Nat} (h : HtAt l0 k l) (hs : k = 20 ∨ hearO l = none) : (htGo 20 l0).1 = l ∧ (htGo 20 l0).2 = k := by
  obtain ⟨h1, h2, h3, h4⟩ := h
  have e : htGo (20 - k) l = (l, 0) := by
    rcases hs with rfl | hn
    · rfl
    · exact htGo_none _ _ hn
  rw [e] at h3 h4
  exact ⟨h3.symm, by simp only at h4; omega⟩

end Go.Proofs.Ytmlghonidheidaa
