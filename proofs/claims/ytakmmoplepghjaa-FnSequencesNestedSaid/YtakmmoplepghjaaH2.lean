/- The program's pair of the halved sequence, by the base-two digits of n. -/
import Derived.Test.YtakmmoplepghjaaH1
import Derived.Test.YtakmmoplepghjaaS
namespace Go.Proofs.Ytakmmoplepghjaa
open Go.RowKit Go.BigFrame
set_option linter.unusedSimpArgs false
set_option linter.unusedVariables false
set_option maxRecDepth 4000

theorem bitLenAux_div : ∀ (f n : Nat), n < 2 ^ f → n / 2 ^ (Lib.bitLenAux f n) = 0 ∧ Lib.bitLenAux f n ≤ f
  | 0, n, h => by simp [Lib.bitLenAux]; omega
  | f + 1, n, h => by
    rw [Lib.bitLenAux]
    split
    · rename_i h0; subst h0; simp
    · have := bitLenAux_div f (n / 2) (by rw [Nat.pow_succ] at h; omega)
      refine ⟨?_, by omega⟩
      rw [Nat.add_comm 1, Nat.pow_succ, Nat.mul_comm, ← Nat.div_div_eq_div_mul]
      exact this.1
theorem bitLen_div (n : Nat) (h : n ≤ 1000000000) : n / 2 ^ (Lib.bitLen n) = 0 ∧ Lib.bitLen n ≤ 64 := bitLenAux_div 64 n (by omega)

theorem and_one (n i : Nat) (h : n ≤ 1000000000) : bits .and .i64 ((n : Int) / 2 ^ i) 1 = ((n / 2 ^ i % 2 : Nat) : Int) := by
  have hle : n / 2 ^ i ≤ n := Nat.div_le_self _ _
  have e : (n : Int) / 2 ^ i = ((n / 2 ^ i : Nat) : Int) := by simp
  rw [e]
  generalize n / 2 ^ i = x at *
  have := bits_mask .i64 62 (by decide) (fun n h₀ h₁ => by rw [IntKind.wrap_i64]; omega) 1 (by decide) (x : Int) (by omega) (by omega)
  have e1 : ((2 : Int) ^ 1 - 1) = 1 := by decide
  have e2 : ((2 : Int) ^ 1) = 2 := by decide
  rw [e1, e2] at this
  rw [this]; omega

set_option maxHeartbeats 1000000 in
theorem halvedFrom_is (n : Nat) (hn : n ≤ 1000000000) (w : World) : Calls Try.prog 80 #[.int .i64 n] w fun e w' => e = .returned (.tuple #[.int .i64 ((halv n).1 : Nat), .int .i64 ((halv n).2 : Nat)]) ∧ w = w' := by
  have hL := fun W => Try.bits_Len (n : Int) W (by omega) (by omega)
  obtain ⟨h0, h64⟩ := bitLen_div n hn
  rw [show ((n : Int)).toNat = n from by omega] at hL
  obtain ⟨L, hLd⟩ : ∃ L, L = Lib.bitLen n := ⟨_, rfl⟩
  rw [← hLd] at hL h0 h64
  have HL := Lib.hid hL; have H0 := Lib.hid h0
  clear hL h0 hLd
  go_enter Try.func80, Try.ntmps80
  go_wp2_with fail
  refine (HL.out _).mono ?_
  rintro e w2 ⟨rfl, rfl⟩
  go_wp2_with fail
  go_loop [4, 5, 6] (fun a b t => ∃ j : Nat, j ≤ L ∧ t = .int .i64 ((j : Int) - 1) ∧ a = .int .i64 ((halv (n / 2 ^ j)).1 : Nat) ∧ b = .int .i64 ((halv (n / 2 ^ j)).2 : Nat)) (fun _ _ t => (intOf t + 1).toNat)
  case atStart => exact ⟨L, Nat.le_refl _, rfl, by rw [H0.out, halv_zero]; rfl, by rw [H0.out, halv_zero]; rfl⟩
  case round =>
    obtain ⟨j, hj, rfl, rfl, rfl⟩ := hrel
    by_cases hj0 : j = 0
    · subst hj0
      go_wp2
      go_ret2
      exact ⟨by simp, rfl⟩
    · obtain ⟨i, rfl⟩ : ∃ i, j = i + 1 := ⟨j - 1, by omega⟩
      have hle := halv_le (n / 2 ^ (i + 1))
      have hdl : n / 2 ^ (i + 1) ≤ n := Nat.div_le_self _ _
      have hst := halv_step (n / 2 ^ i)
      rw [Nat.div_div_eq_div_mul, ← Nat.pow_succ] at hst
      obtain ⟨a, ha⟩ : ∃ a, a = (halv (n / 2 ^ (i + 1))).1 := ⟨_, rfl⟩
      obtain ⟨b, hb⟩ : ∃ b, b = (halv (n / 2 ^ (i + 1))).2 := ⟨_, rfl⟩
      rw [← ha, ← hb] at hle hst ⊢
      obtain ⟨d, hd⟩ : ∃ d, d = n / 2 ^ (i + 1) := ⟨_, rfl⟩
      rw [← hd] at hle hdl
      have HST := Lib.hid hst
      have hand := and_one n i hn
      clear hst ha hb hd
      by_cases hp : n / 2 ^ i % 2 = 0
      · rw [hp] at hand
        have H := HST.out
        rw [if_pos hp] at H
        have HP := Lib.hid H
        clear hp H
        go_wp2_with fail
        go_round
        case rel => exact ⟨i, by omega, rfl, by rw [HP.out], by rw [HP.out]; simp; omega⟩
        case measure => simp [intOf]
      · rw [show n / 2 ^ i % 2 = 1 by omega] at hand
        have H := HST.out
        rw [if_neg hp] at H
        have HP := Lib.hid H
        clear hp H
        go_wp2_with fail
        go_round
        case rel => exact ⟨i, by omega, rfl, by rw [HP.out]; simp, by rw [HP.out]⟩
        case measure => simp [intOf]
end Go.Proofs.Ytakmmoplepghjaa
