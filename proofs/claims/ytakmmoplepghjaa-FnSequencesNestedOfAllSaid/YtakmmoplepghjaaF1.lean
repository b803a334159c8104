/- Figures and steps: each step is the next number that is no figure so far. -/
import Derived.Test.YtakmmoplepghjaaA1
namespace Go.Proofs.Ytakmmoplepghjaa
set_option linter.unusedSimpArgs false
set_option linter.unusedVariables false

/-- Figure and step after k steps, with the figures so far. -/
def figS : Nat → Nat × Nat × List Nat
  | 0 => (1, 0, [1])
  | k + 1 =>
    let p := figS k
    let s := if (p.2.1 + 1) ∈ p.2.2 then p.2.1 + 2 else p.2.1 + 1
    (p.1 + s, s, p.2.2 ++ [p.1 + s])
def fig (k : Nat) : Nat := (figS k).1
def stp (k : Nat) : Nat := (figS k).2.1
def figL (k : Nat) : List Nat := (figS k).2.2
theorem fig_zero : fig 0 = 1 := rfl
theorem stp_zero : stp 0 = 0 := rfl
theorem stp_succ (k : Nat) : stp (k + 1) = if (stp k + 1) ∈ figL k then stp k + 2 else stp k + 1 := rfl
theorem fig_succ (k : Nat) : fig (k + 1) = fig k + stp (k + 1) := rfl
theorem figL_succ (k : Nat) : figL (k + 1) = figL k ++ [fig (k + 1)] := rfl
theorem figL_is : ∀ k : Nat, figL k = (List.range (k + 1)).map fig
  | 0 => rfl
  | k + 1 => by rw [figL_succ, figL_is k, List.range_succ (n := k + 1), List.map_append]; rfl
theorem mem_figL {k x : Nat} : x ∈ figL k ↔ ∃ j, j ≤ k ∧ fig j = x := by
  rw [figL_is]; simp only [List.mem_map, List.mem_range]
  constructor
  · rintro ⟨j, h, e⟩; exact ⟨j, by omega, e⟩
  · rintro ⟨j, h, e⟩; exact ⟨j, by omega, e⟩
theorem stp_one : stp 1 = 2 := by rw [stp_succ, stp_zero, if_pos (by rw [mem_figL]; exact ⟨0, by omega, rfl⟩)]
theorem stp_up (k : Nat) : stp k + 1 ≤ stp (k + 1) ∧ stp (k + 1) ≤ stp k + 2 := by
  rw [stp_succ]; split <;> omega
theorem stp_ge (k : Nat) : k + 1 ≤ stp (k + 1) ∧ stp k ≤ 2 * k ∧ (1 ≤ k → k + 1 ≤ stp k) := by
  induction k with
  | zero => rw [stp_one, stp_zero]; omega
  | succ k ih =>
    have h1 := stp_up k; have h2 := stp_up (k + 1)
    by_cases hk : 1 ≤ k
    · have := ih.2.2 hk; omega
    · obtain rfl : k = 0 := by omega
      rw [stp_one] at *; omega
theorem stp_two (k : Nat) : 2 ≤ stp (k + 1) := by
  by_cases hk : k = 0
  · subst hk; rw [stp_one]; omega
  · have := (stp_ge k).1; omega
theorem fig_up (i d : Nat) : fig i + 2 * d ≤ fig (i + d) := by
  induction d with
  | zero => simp
  | succ d ih =>
    have := stp_two (i + d)
    rw [show i + (d + 1) = i + d + 1 by omega, fig_succ]; omega
theorem fig_inj {i j : Nat} (h : fig i + 1 = fig j) : False := by
  by_cases hij : i < j
  · have := fig_up i (j - i); rw [show i + (j - i) = j by omega] at this; omega
  · have := fig_up j (i - j); rw [show j + (i - j) = i by omega] at this; omega
theorem fig_lt {i j : Nat} (h : i < j) : fig i < fig j := by
  have := fig_up i (j - i); rw [show i + (j - i) = j by omega] at this; omega
theorem fig_big (k : Nat) : k * (k + 3) ≤ 2 * fig k := by
  induction k with
  | zero => simp
  | succ k ih =>
    have h1 := (stp_ge (k + 1)).2.2 (by omega)
    rw [fig_succ]
    have : (k + 1) * (k + 1 + 3) = k * (k + 3) + 2 * k + 4 := by
      simp only [Nat.add_mul, Nat.mul_add]; omega
    omega
theorem fig_le (k : Nat) : fig k ≤ 1 + k * (k + 1) := by
  induction k with
  | zero => simp [fig_zero]
  | succ k ih =>
    have h1 := (stp_ge (k + 1)).2.1
    rw [fig_succ]
    have : (k + 1) * (k + 1 + 1) = k * (k + 1) + 2 * k + 2 := by
      simp only [Nat.add_mul, Nat.mul_add]; omega
    omega
theorem fig_le6 {k : Nat} (h : k ≤ 1001) : fig k ≤ 1100000 := by
  have h1 := fig_le k
  have : k * (k + 1) ≤ 1001 * 1002 := Nat.mul_le_mul h (by omega)
  omega
theorem stp_lt_fig (k : Nat) : stp k < fig k := by
  cases k with
  | zero => rw [stp_zero, fig_zero]; omega
  | succ k => rw [fig_succ]; have := fig_up 0 k; rw [Nat.zero_add, fig_zero] at this; omega

/-- The figures ahead of the step, after k steps. -/
def ahd (k x : Nat) : Prop := stp k < x ∧ ∃ j, j ≤ k ∧ fig j = x
theorem ahd_zero (x : Nat) : ahd 0 x ↔ x = 1 := by
  unfold ahd
  rw [stp_zero]
  constructor
  · rintro ⟨h, j, hj, e⟩
    obtain rfl : j = 0 := by omega
    rw [fig_zero] at e; omega
  · rintro rfl; exact ⟨by omega, 0, by omega, rfl⟩
/-- Where the next number is a figure, the one behind it is none and is the next step. -/
theorem ahd_hit {k : Nat} (h : ahd k (stp k + 1)) : stp (k + 1) = stp k + 2 ∧ ¬ ahd k (stp k + 2) := by
  obtain ⟨_, j, hj, e⟩ := h
  refine ⟨by rw [stp_succ, if_pos (mem_figL.2 ⟨j, hj, e⟩)], ?_⟩
  rintro ⟨_, i, hi, e2⟩
  exact fig_inj (i := j) (j := i) (by omega)
theorem ahd_miss {k : Nat} (h : ¬ ahd k (stp k + 1)) : stp (k + 1) = stp k + 1 := by
  rw [stp_succ, if_neg (fun hm => h ⟨by omega, mem_figL.1 hm⟩)]
theorem ahd_next {k x : Nat} : ahd (k + 1) x ↔ (x = fig (k + 1) ∨ (ahd k x ∧ stp (k + 1) < x)) := by
  unfold ahd
  constructor
  · rintro ⟨h, j, hj, e⟩
    by_cases hjk : j = k + 1
    · subst hjk; exact .inl e.symm
    · have := stp_up k; exact .inr ⟨⟨by omega, j, by omega, e⟩, h⟩
  · rintro (rfl | ⟨⟨h1, j, hj, e⟩, h2⟩)
    · exact ⟨stp_lt_fig _, k + 1, by omega, rfl⟩
    · exact ⟨h2, j, by omega, e⟩
end Go.Proofs.Ytakmmoplepghjaa
