/- Golomb's sequence and the back sequence keep the rules that they tell (pure). -/
import Derived.Test.YtakmmoplepghjaaG12
import Derived.Test.YtakmmoplepghjaaG10
namespace Go.Proofs.Ytakmmoplepghjaa
open Go.RowKit Go.BigFrame
set_option linter.unusedSimpArgs false
set_option linter.unusedVariables false
set_option maxRecDepth 4000

/-- The sum of the first N numbers of Golomb's sequence. -/
abbrev gsum (N : Nat) : Nat := allS' 1 N gol
theorem gsum_zero : gsum 0 = 0 := rfl
theorem gsum_succ (N : Nat) : gsum (N + 1) = gsum N + gol (N + 1) := by
  have := allS'_succ 1 N gol
  rw [Nat.add_comm 1 N] at this; exact this
theorem gsum_mono (a : Nat) : ∀ d : Nat, gsum a ≤ gsum (a + d)
  | 0 => Nat.le_refl _
  | d + 1 => by have := gsum_mono a d; have h := gsum_succ (a + d); rw [show a + (d + 1) = a + d + 1 from rfl, h]; omega
theorem gsum_le (N : Nat) (h : N ≤ 3000) : gsum N ≤ 9000000 := by
  have h2 : gsum N ≤ 3000 * N := allS'_le 1 gol 3000 N (fun i hi => Nat.le_trans (gol_le (1 + i) (by omega)) (by omega))
  omega
theorem gsum_ge : ∀ N : Nat, N ≤ 3000 → N ≤ gsum N
  | 0, _ => Nat.zero_le _
  | N + 1, h => by have := gsum_ge N (by omega); have h1 := gol_pos (N + 1) (by omega) h; rw [gsum_succ]; omega
theorem gol_firsts : ∀ v : Nat, v ≤ 2999 → gsum v + 1 ≤ 3000 → golFirst (v + 1) (gsum v + 1)
  | 0, _, _ => gol_first1
  | v + 1, hv, hs => by
    have h1 : gsum (v + 1) = gsum v + gol (v + 1) := gsum_succ v
    have ih := gol_firsts v (by omega) (by omega)
    have := gol_next ih (by omega)
    rw [h1, show gsum v + gol (v + 1) + 1 = gsum v + 1 + gol (v + 1) from by omega]
    exact this
theorem gol_last (N : Nat) (h1 : 1 ≤ N) (h : gsum N < 3000) : gol (gsum N) = N ∧ gol (gsum N + 1) = N + 1 := by
  have hge : N ≤ 3000 := by
    by_cases h3 : N ≤ 3000
    · exact h3
    · have := gsum_mono 3000 (N - 3000)
      have h4 := gsum_ge 3000 (by omega)
      rw [show 3000 + (N - 3000) = N by omega] at this
      omega
  have hN := gsum_ge N hge
  obtain ⟨v, rfl⟩ : ∃ v, N = v + 1 := ⟨N - 1, by omega⟩
  have hs := gsum_succ v
  have hp := gol_pos (v + 1) (by omega) (by omega)
  have hf := gol_firsts v (by omega) (by omega)
  have hr := gol_run hf (gol (v + 1) - 1) (by omega) (by omega)
  rw [show gsum v + 1 + (gol (v + 1) - 1) = gsum (v + 1) by omega] at hr
  have hn := gol_firsts (v + 1) (by omega) (by omega)
  exact ⟨hr, hn.2.1⟩

/-- What the back sequence keeps: steps of at most one, at least the half, just the half at powers of two. -/
def okC (f : Nat → Nat) (k v : Nat) : Bool :=
  cond (Nat.ble k 2) true (cond (Nat.ble (f (k - 1)) v) (cond (Nat.ble v (f (k - 1) + 1)) (cond (Nat.ble k (2 * v)) (cond (Nat.beq (Nat.land k (k - 1)) 0) (Nat.beq (2 * v) k) true) false) false) false)
theorem okC_out {f : Nat → Nat} {k v : Nat} (h : okC f k v = true) (hk : 2 < k) : f (k - 1) ≤ v ∧ v ≤ f (k - 1) + 1 ∧ k ≤ 2 * v ∧ (Nat.land k (k - 1) = 0 → 2 * v = k) := by
  unfold okC at h
  rw [bleN, bleN, bleN, bleN, beqN, if_neg (by omega)] at h
  split at h
  · split at h
    · split at h
      · refine ⟨by assumption, by assumption, by assumption, fun h0 => ?_⟩
        rw [if_pos h0] at h
        exact Nat.eq_of_beq_eq_true h
      · cases h
    · cases h
  · cases h
theorem bac_okC : chkB bacK okC 3001 3001 0 = true := by decide +kernel
theorem bac_steps (k : Nat) (h2 : 2 < k) (h : k ≤ 3000) : bac (k - 1) ≤ bac k ∧ bac k ≤ bac (k - 1) + 1 ∧ k ≤ 2 * bac k ∧ (Nat.land k (k - 1) = 0 → 2 * bac k = k) := by
  have := okC_out (chkB_all 3001 (by omega) bac_okC k (by omega) (by omega)) h2
  rw [dg_seqB k fun i hi => by have := (bac_in i (by omega)).2.2; unfold bac at this; omega, if_pos (by omega)] at this
  exact this
theorem bac_half (k : Nat) (h0 : 0 < k) (h : k ≤ 3000) : k ≤ 2 * bac k ∧ (1 < k → Nat.land k (k - 1) = 0 → 2 * bac k = k) := by
  by_cases h2 : 2 < k
  · have := bac_steps k h2 h; exact ⟨this.2.2.1, fun _ => this.2.2.2⟩
  · obtain ⟨_, b1, b2⟩ := bac_two
    obtain rfl | rfl : k = 1 ∨ k = 2 := by omega
    · rw [b1]; omega
    · rw [b2]; omega
end Go.Proofs.Ytakmmoplepghjaa
