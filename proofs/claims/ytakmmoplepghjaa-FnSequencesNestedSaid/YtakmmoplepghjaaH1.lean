/- The halved sequence: its numbers in pairs, by halves; the model's pairs by recursion; the rank of a pair by subtraction. -/
import Derived.Test.YtakmmoplepghjaaA1
namespace Go.Proofs.Ytakmmoplepghjaa
open Go.RowKit Go.BigFrame
set_option linter.unusedSimpArgs false
set_option linter.unusedVariables false
set_option maxRecDepth 4000

def halv (n : Nat) : Nat × Nat :=
  if h : n = 0 then (0, 1) else
  let p := halv (n / 2)
  if n % 2 = 0 then (p.1, p.1 + p.2) else (p.1 + p.2, p.2)
termination_by n
decreasing_by omega
theorem halv_zero : halv 0 = (0, 1) := by rw [halv]; simp
theorem halv_even (m : Nat) (h : 2 * m ≠ 0) : halv (2 * m) = ((halv m).1, (halv m).1 + (halv m).2) := by
  rw [halv, dif_neg h]
  simp
theorem halv_odd (m : Nat) : halv (2 * m + 1) = ((halv m).1 + (halv m).2, (halv m).2) := by
  rw [halv, dif_neg (by omega)]
  have : (2 * m + 1) / 2 = m := by omega
  simp [this]
theorem halv_step (n : Nat) : halv n = if n % 2 = 0 then ((halv (n / 2)).1, (halv (n / 2)).1 + (halv (n / 2)).2) else ((halv (n / 2)).1 + (halv (n / 2)).2, (halv (n / 2)).2) := by
  by_cases h0 : n = 0
  · subst h0; simp [halv_zero]
  · rw [halv, dif_neg h0]
theorem halv_le : ∀ n : Nat, (halv n).1 ≤ n ∧ (halv n).2 ≤ n + 1 := by
  intro n
  induction n using Nat.strongRecOn with
  | _ n ih =>
    by_cases h0 : n = 0
    · subst h0; rw [halv_zero]; simp
    · obtain ⟨h1, h2⟩ := ih (n / 2) (by omega)
      rw [halv_step]
      split
      · exact ⟨by simp only; omega, by simp only; omega⟩
      · exact ⟨by simp only; omega, by simp only; omega⟩

set_option maxHeartbeats 1000000 in
theorem seHalved_is : ∀ (n : Nat), n ≤ 1000000000 → ∀ (w : World), Calls Try.prog 81 #[.int .i64 n] w fun e w' => e = .returned (.tuple #[.int .i64 ((halv n).1 : Nat), .int .i64 ((halv n).2 : Nat)]) ∧ w = w' := by
  intro n
  induction n using Nat.strongRecOn with
  | _ n ih =>
    intro hn w
    by_cases h0 : n = 0
    · subst h0
      clear ih
      go_enter Try.func81, Try.ntmps81
      go_wp2
      go_ret2
      exact ⟨by rw [halv_zero]; rfl, rfl⟩
    · have hI := ih (n / 2) (by omega) (by omega)
      have hle := halv_le (n / 2)
      have hst := halv_step n
      obtain ⟨m, hm⟩ : ∃ m, m = n / 2 := ⟨_, rfl⟩
      have ed : Int.tdiv (n : Int) 2 = (m : Int) := by rw [hm, Int.tdiv_eq_ediv_of_nonneg (by omega)]; omega
      have em : Int.tmod (n : Int) 2 = ((n % 2 : Nat) : Int) := by rw [Int.tmod_eq_emod_of_nonneg (by omega)]; omega
      have hmn : m ≤ n := by omega
      rw [← hm] at hI hle hst
      obtain ⟨a, ha⟩ : ∃ a, a = (halv m).1 := ⟨_, rfl⟩
      obtain ⟨b, hb⟩ : ∃ b, b = (halv m).2 := ⟨_, rfl⟩
      rw [← ha, ← hb] at hI hle hst
      have HI := Lib.hid hI; have HST := Lib.hid hst
      clear hI hst ih hm ha hb
      by_cases hp : n % 2 = 0
      · rw [hp] at em
        go_enter Try.func81, Try.ntmps81
        go_wp2_with fail
        refine (HI.out _).mono ?_
        rintro e w2 ⟨rfl, rfl⟩
        go_wp2_with fail
        go_ret2
        exact ⟨by rw [HST.out, if_pos hp]; simp, rfl⟩
      · have hp1 : n % 2 = 1 := by omega
        rw [hp1] at em
        go_enter Try.func81, Try.ntmps81
        go_wp2_with fail
        refine (HI.out _).mono ?_
        rintro e w2 ⟨rfl, rfl⟩
        go_wp2_with fail
        go_ret2
        exact ⟨by rw [HST.out, if_neg hp]; simp, rfl⟩
end Go.Proofs.Ytakmmoplepghjaa
