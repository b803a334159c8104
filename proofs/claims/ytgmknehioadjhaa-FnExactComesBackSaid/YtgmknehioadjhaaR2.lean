/- The longest run of a part of a text: plain lists. -/
import Derived.Test.YtgmknehioadjhaaR1
namespace Go.Proofs.Ytgmknehioadjhaa
set_option linter.unusedSimpArgs false
set_option linter.unusedVariables false

theorem longR_step (S : List (UInt8 × Nat)) (c : UInt8) : longR S ≤ longR (stepRun S c) ∧ ∃ pre n, stepRun S c = pre ++ [(c, n)] ∧ 1 ≤ n ∧ n ≤ longR (stepRun S c) := by
  rcases list_cases_snoc S with rfl | ⟨pre, ⟨d, n⟩, rfl⟩
  · refine ⟨Nat.zero_le _, [], 1, rfl, by omega, ?_⟩
    have : stepRun [] c = [] ++ [(c, 1)] := rfl
    rw [this, longR_snoc]; simp; omega
  · by_cases e : d = c
    · subst e; rw [stepRun_same, longR_snoc, longR_snoc]
      exact ⟨by simp only; omega, pre, n + 1, rfl, by omega, by simp only; omega⟩
    · rw [stepRun_other _ _ _ _ e, longR_snoc (pre ++ [(d, n)])]
      exact ⟨by omega, pre ++ [(d, n)], 1, rfl, by omega, by simp only; omega⟩
theorem long_suffix (acc : List (UInt8 × Nat)) (b : List UInt8) : longR (runsL b) ≤ longR (b.foldl stepRun acc) ∧
    ∀ pre d n, runsL b = pre ++ [(d, n)] → ∃ pre' n', b.foldl stepRun acc = pre' ++ [(d, n')] ∧ n ≤ n' := by
  refine snoc_rec (P := fun b => longR (runsL b) ≤ longR (b.foldl stepRun acc) ∧ ∀ pre d n, runsL b = pre ++ [(d, n)] → ∃ pre' n', b.foldl stepRun acc = pre' ++ [(d, n')] ∧ n ≤ n') ?_ (fun b c ih => ?_) b
  · exact ⟨Nat.zero_le _, fun pre d n h => by simp [runsL] at h⟩
  · obtain ⟨i1, i2⟩ := ih
    rw [runsL_snoc, List.foldl_append]
    simp only [List.foldl_cons, List.foldl_nil]
    generalize b.foldl stepRun acc = S at *
    generalize runsL b = R at *
    obtain ⟨s1, pS, nS, s2, s3, s4⟩ := longR_step S c
    rcases list_cases_snoc R with rfl | ⟨pre, ⟨d, n⟩, rfl⟩
    · have e1 : stepRun [] c = [] ++ [(c, 1)] := rfl
      rw [e1]
      refine ⟨by have h0 : longR [] = 0 := rfl
                 rw [longR_snoc, h0]; simp only; omega, fun p d n h => ?_⟩
      have := List.append_inj' h rfl
      simp at this
      obtain ⟨rfl, rfl, rfl⟩ := this
      exact ⟨pS, nS, s2, s3⟩
    · obtain ⟨pre', n', hS, hn⟩ := i2 pre d n rfl
      subst hS
      by_cases e : d = c
      · subst e
        rw [stepRun_same, stepRun_same]
        rw [longR_snoc, longR_snoc] at i1
        refine ⟨by rw [longR_snoc, longR_snoc]; simp only at *; omega, fun p d2 n2 h => ?_⟩
        have := List.append_inj' h rfl
        simp at this
        obtain ⟨rfl, rfl, rfl⟩ := this
        exact ⟨pre', n' + 1, rfl, by omega⟩
      · rw [stepRun_other _ _ _ _ e, stepRun_other _ _ _ _ e]
        refine ⟨by rw [longR_snoc (pre ++ [(d, n)]), longR_snoc (pre' ++ [(d, n')])]; simp only; omega, fun p d2 n2 h => ?_⟩
        have := List.append_inj' h rfl
        simp at this
        obtain ⟨rfl, rfl, rfl⟩ := this
        exact ⟨_, 1, rfl, by omega⟩
theorem longL_drop (l : List UInt8) (p : Nat) : longL (l.drop p) ≤ longL l := by
  have h := (long_suffix (runsL (l.take p)) (l.drop p)).1
  have e : (l.drop p).foldl stepRun (runsL (l.take p)) = runsL l := by
    conv => rhs; rw [← List.take_append_drop p l]
    unfold runsL; rw [List.foldl_append]
  rw [e] at h
  exact h
theorem longL_take (l : List UInt8) (p : Nat) : longL (l.take p) ≤ longL l := by
  have e : (l.drop p).foldl stepRun (runsL (l.take p)) = runsL l := by
    conv => rhs; rw [← List.take_append_drop p l]
    unfold runsL; rw [List.foldl_append]
  unfold longL
  rw [← e]
  generalize runsL (l.take p) = S
  generalize l.drop p = b
  induction b generalizing S with
  | nil => exact Nat.le_refl _
  | cons c r ih => exact Nat.le_trans (longR_step S c).1 (ih _)
end Go.Proofs.Ytgmknehioadjhaa
