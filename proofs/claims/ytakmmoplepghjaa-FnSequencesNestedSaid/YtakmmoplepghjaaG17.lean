/- Nested numbers, figures, steps and halved pairs keep the rules that they tell (pure). -/
import Derived.Test.YtakmmoplepghjaaG12
import Derived.Test.YtakmmoplepghjaaG10
import Derived.Test.YtakmmoplepghjaaG7
import Derived.Test.YtakmmoplepghjaaF6
import Derived.Test.YtakmmoplepghjaaH4
namespace Go.Proofs.Ytakmmoplepghjaa
open Go.RowKit Go.BigFrame
set_option linter.unusedSimpArgs false
set_option linter.unusedVariables false
set_option maxRecDepth 4000

/-! nested numbers -/
def okH (f : Nat → Nat) (k v : Nat) : Bool :=
  cond (Nat.ble k 1) true (cond (Nat.ble (f (k - 1)) v) (cond (Nat.ble v (f (k - 1) + 1)) (Nat.ble (f (k - 2) + 1) v) false) false)
theorem okH_out {f : Nat → Nat} {k v : Nat} (h : okH f k v = true) (hk : 1 < k) : f (k - 1) ≤ v ∧ v ≤ f (k - 1) + 1 ∧ f (k - 2) + 1 ≤ v := by
  unfold okH at h
  rw [bleN, bleN, bleN, if_neg (by omega)] at h
  split at h
  · split at h
    · exact ⟨by assumption, by assumption, Nat.le_of_ble_eq_true h⟩
    · cases h
  · cases h
theorem nes_okH : chkB nesK okH 3010 3010 0 = true := by decide +kernel
theorem nes_steps (k : Nat) (h2 : 1 < k) (h : k ≤ 3009) : nes (k - 1) ≤ nes k ∧ nes k ≤ nes (k - 1) + 1 ∧ nes (k - 2) + 1 ≤ nes k := by
  have := okH_out (chkB_all 3010 (by omega) nes_okH k (by omega) (by omega)) h2
  have hd := dg_seqB (R := nesK) k fun i hi => by have := (nes_in i (by omega)).1; unfold nes at this; omega
  rw [hd (k - 1), hd (k - 2), if_pos (by omega), if_pos (by omega)] at this
  exact this
theorem nes_step1 (k : Nat) (h0 : 0 < k) (h : k ≤ 3009) : nes k = nes (k - 1) ∨ nes k = nes (k - 1) + 1 := by
  by_cases h2 : 1 < k
  · have := nes_steps k h2 h; omega
  · obtain ⟨n0, n1⟩ := nes_one
    obtain rfl : k = 1 := by omega
    rw [n1, n0]; omega
theorem nes_cnt (v : Nat) : ∀ k : Nat, k + 1 ≤ 3009 →
    (nes k < v → allS' 0 (k + 1) (ntH v) = 0) ∧ (nes k = v → allS' 0 (k + 1) (ntH v) = if 1 ≤ k ∧ nes (k - 1) = v then 2 else 1) ∧ (v < nes k → allS' 0 (k + 1) (ntH v) = 1 ∨ allS' 0 (k + 1) (ntH v) = 2)
  | 0, _ => by
    have e : allS' 0 (0 + 1) (ntH v) = ntH v 0 := by rw [allS'_succ]; simp [allS']
    rw [e, nes_one.1]
    refine ⟨fun h => ?_, fun h => ?_, fun h => by omega⟩
    · unfold ntH; rw [nes_one.1, if_neg (by omega)]
    · unfold ntH; rw [nes_one.1, if_pos h, if_neg (by omega)]
  | k + 1, hk => by
    obtain ⟨i1, i2, i3⟩ := nes_cnt v k (by omega)
    have hs := nes_step1 (k + 1) (by omega) (by omega)
    rw [show k + 1 - 1 = k from rfl] at hs
    have e : allS' 0 (k + 1 + 1) (ntH v) = allS' 0 (k + 1) (ntH v) + (if nes (k + 1) = v then 1 else 0) := by rw [allS'_succ, Nat.zero_add]; rfl
    rw [e, show k + 1 - 1 = k from rfl]
    refine ⟨fun h => ?_, fun h => ?_, fun h => ?_⟩
    · rw [i1 (by omega), if_neg (by omega)]
    · rw [if_pos h]
      by_cases hp : nes k = v
      · rw [if_pos (show 1 ≤ k + 1 ∧ nes k = v from ⟨by omega, hp⟩)]
        have h2 := i2 hp
        by_cases hk1 : 1 ≤ k ∧ nes (k - 1) = v
        · have := nes_steps (k + 1) (by omega) (by omega)
          rw [show k + 1 - 1 = k from rfl, show k + 1 - 2 = k - 1 from by omega] at this
          omega
        · rw [if_neg hk1] at h2
          omega
      · rw [i1 (by omega), if_neg (fun hh => hp hh.2)]
    · rw [if_neg (show ¬ nes (k + 1) = v by omega), Nat.add_zero]
      by_cases hp : nes k = v
      · rw [i2 hp]
        by_cases hk1 : 1 ≤ k ∧ nes (k - 1) = v
        · rw [if_pos hk1]; exact .inr rfl
        · rw [if_neg hk1]; exact .inl rfl
      · exact i3 (by omega)
theorem nt_one (N : Nat) (hN : N ≤ 1000) : allS' 0 (2 * N + 1) (ntH N) = 1 ∨ allS' 0 (2 * N + 1) (ntH N) = 2 := by
  obtain ⟨_, i2, i3⟩ := nes_cnt N (2 * N) (by omega)
  have h := (nes_in (2 * N) (by omega)).2
  by_cases he : nes (2 * N) = N
  · rw [i2 he]
    by_cases hk1 : 1 ≤ 2 * N ∧ nes (2 * N - 1) = N
    · rw [if_pos hk1]; exact .inr rfl
    · rw [if_neg hk1]; exact .inl rfl
  · exact i3 (by omega)

/-! figures and steps -/
theorem stp_no_fig (k j : Nat) (h : fig j = stp (k + 1)) : False := by
  by_cases hj : j ≤ k
  · rw [stp_succ] at h
    split at h
    · rename_i hm
      obtain ⟨i, _, e⟩ := mem_figL.1 hm
      exact fig_inj (i := i) (j := j) (by omega)
    · rename_i hm
      exact hm (mem_figL.2 ⟨j, hj, h⟩)
  · have h1 := stp_lt_fig (k + 1)
    by_cases he : j = k + 1
    · subst he; omega
    · have := fig_lt (i := k + 1) (j := j) (by omega); omega
theorem fig_in (j : Nat) (h : fig j ≤ 100000) : (figL 449).contains (fig j) = true := by
  simp only [List.contains_eq_mem, decide_eq_true_eq, mem_figL]
  exact ⟨j, fig_small h, rfl⟩
theorem stp_out (k : Nat) : (figL 449).contains (stp (k + 1)) = false := by
  simp only [List.contains_eq_mem, decide_eq_false_iff_not, mem_figL]
  rintro ⟨j, _, e⟩
  exact stp_no_fig k j e
theorem between_in (k x : Nat) (h1 : stp k < x) (h2 : x < stp (k + 1)) (hx : x ≤ 100000) : (figL 449).contains x = true := by
  rw [stp_succ] at h2
  split at h2
  · rename_i hm
    obtain ⟨j, _, e⟩ := mem_figL.1 hm
    obtain rfl : x = fig j := by omega
    exact fig_in j hx
  · omega

/-! halved pairs -/
theorem halv_pos : ∀ n : Nat, 1 ≤ (halv n).2 ∧ (1 ≤ n → 1 ≤ (halv n).1) := by
  intro n
  induction n using Nat.strongRecOn with
  | _ n ih =>
    by_cases h0 : n = 0
    · subst h0; rw [halv_zero]; exact ⟨by decide, fun h => by omega⟩
    · have hm := ih (n / 2) (by omega)
      rw [halv_step]
      by_cases h1 : n / 2 = 0
      · obtain rfl : n = 1 := by omega
        simp only [show 1 / 2 = 0 from rfl, halv_zero]; decide
      · have := hm.2 (by omega)
        split
        · exact ⟨by dsimp only; omega, fun _ => this⟩
        · exact ⟨hm.1, fun _ => by dsimp only; omega⟩
theorem halv_gcd : ∀ n : Nat, Nat.gcd (halv n).1 (halv n).2 = 1 := by
  intro n
  induction n using Nat.strongRecOn with
  | _ n ih =>
    by_cases h0 : n = 0
    · subst h0; rw [halv_zero]; decide
    · have hm := ih (n / 2) (by omega)
      rw [halv_step]
      split
      · dsimp only; rw [Nat.gcd_self_add_right]; exact hm
      · dsimp only; rw [Nat.gcd_add_self_left]; exact hm
theorem halv_side (n : Nat) (h : 1 ≤ n) : (n % 2 = 1 ↔ ((halv n).2 < (halv n).1 ∨ n = 1)) := by
  by_cases h1 : n = 1
  · subst h1; omega
  · have hm := halv_pos (n / 2)
    have := hm.2 (by omega)
    have h2 := hm.1
    rw [halv_step]
    split
    · dsimp only; omega
    · dsimp only; omega
theorem halv_half (n : Nat) (h : n % 2 = 0) : (halv (n / 2)).1 = (halv n).1 := by
  rw [halv_step n, if_pos h]
theorem rk_halv : ∀ (h : Nat), 1 ≤ h → ∀ n w : Nat, 1 ≤ w → w * h ≤ 1000000000 → ∃ n' w', rk (halv h).1 (halv h).2 n w = (1, 1, n', w') ∧ n' + w' = n + w * h := by
  intro h
  induction h using Nat.strongRecOn with
  | _ h ih =>
    intro h1 n w hw hwh
    by_cases he : h = 1
    · subst he
      refine ⟨n, w, ?_, by omega⟩
      rw [show halv 1 = (1, 1) from by rw [halv_step]; simp [halv_zero]]
      exact rk_end (.inl rfl)
    · have hp := halv_pos (h / 2)
      have hp1 := hp.2 (by omega)
      have hwl : w ≤ 1000000000 := Nat.le_trans (Nat.le_mul_of_pos_right w (by omega)) hwh
      have hm2 : 2 * w * (h / 2) ≤ w * h := by
        rw [Nat.mul_comm 2 w, Nat.mul_assoc]; exact Nat.mul_le_mul_left _ (by omega)
      rw [halv_step]
      by_cases hev : h % 2 = 0
      · rw [if_pos hev]
        dsimp only
        rw [rk_lt (by omega) hwl (by omega) (by omega) (by omega), Nat.add_sub_cancel_left]
        obtain ⟨n', w', e, s⟩ := ih (h / 2) (by omega) (by omega) n (2 * w) (by omega) (by omega)
        refine ⟨n', w', e, ?_⟩
        rw [s, Nat.mul_comm 2 w, Nat.mul_assoc, show 2 * (h / 2) = h from by omega]
      · rw [if_neg hev]
        dsimp only
        rw [rk_gt (by omega) hwl (by omega) (by omega) (by omega), Nat.add_sub_cancel]
        obtain ⟨n', w', e, s⟩ := ih (h / 2) (by omega) (by omega) (n + w) (2 * w) (by omega) (by omega)
        refine ⟨n', w', e, ?_⟩
        rw [s, Nat.mul_comm 2 w, Nat.mul_assoc, Nat.add_assoc]
        congr 1
        conv => rhs; rw [show h = 2 * (h / 2) + 1 from by omega]
        rw [Nat.mul_add, Nat.mul_one, Nat.add_comm]
theorem halv_rk : ∀ (s a b n w : Nat), a + b ≤ s → 1 ≤ a → 1 ≤ b → (rk a b n w).1 = 1 → (rk a b n w).2.1 = 1 → ∃ h, 1 ≤ h ∧ (rk a b n w).2.2.1 + (rk a b n w).2.2.2 = n + w * h ∧ halv h = (a, b)
  | 0, a, b, n, w, hs, ha, hb, _, _ => by omega
  | s + 1, a, b, n, w, hs, ha, hb, e1, e2 => by
    by_cases hend : a = b ∨ 1000000000 < w
    · rw [rk_end hend] at e1 e2 ⊢
      dsimp only at e1 e2 ⊢
      subst e1 e2
      exact ⟨1, by omega, by omega, by rw [halv_step]; simp [halv_zero]⟩
    · by_cases hab : b < a
      · rw [rk_gt (by omega) (by omega) ha hb hab] at e1 e2 ⊢
        obtain ⟨h, h1, h2, h3⟩ := halv_rk s (a - b) b (n + w) (2 * w) (by omega) (by omega) hb e1 e2
        refine ⟨2 * h + 1, by omega, ?_, ?_⟩
        · rw [h2, Nat.mul_add, Nat.mul_one, Nat.mul_comm 2 w, Nat.mul_assoc]; omega
        · rw [halv_odd, h3]; dsimp only; rw [Nat.sub_add_cancel (by omega)]
      · rw [rk_lt (by omega) (by omega) ha hb hab] at e1 e2 ⊢
        obtain ⟨h, h1, h2, h3⟩ := halv_rk s a (b - a) n (2 * w) (by omega) ha (by omega) e1 e2
        refine ⟨2 * h, by omega, ?_, ?_⟩
        · rw [h2, Nat.mul_comm 2 w, Nat.mul_assoc]
        · rw [halv_even h (by omega), h3]; dsimp only; rw [Nat.add_sub_of_le (by omega)]

theorem hp_ok (H : Nat) (h1 : 1 ≤ H) (h9 : H ≤ 1000000000) : hpB (H : Int) = true ∧ hpV (H : Int) = (((halv H).1 : Nat) : Int) ∧ hpU (H : Int) = (((halv H).2 : Nat) : Int) := by
  have h : hpB (H : Int) = true := by unfold hpB; simp; omega
  refine ⟨h, ?_, ?_⟩
  · unfold hpV; rw [h, if_pos rfl]; rfl
  · unfold hpU; rw [h, if_pos rfl]; rfl
theorem hv_ok (H : Nat) (h9 : H ≤ 1000000000) : hvB (H : Int) = true ∧ hvV (H : Int) = (((halv H).1 : Nat) : Int) := by
  have h : hvB (H : Int) = true := by unfold hvB; simp; omega
  refine ⟨h, ?_⟩
  unfold hvV; rw [h, if_pos rfl]; rfl
theorem hp_open {h : Int} (hb : hpB h = true) : ∃ H : Nat, h = H ∧ 1 ≤ H ∧ H ≤ 1000000000 := by
  have : 1 ≤ h ∧ h ≤ 1000000000 := by unfold hpB at hb; simpa using hb
  exact ⟨h.toNat, by omega, by omega, by omega⟩
theorem hr_halv (H : Nat) (h1 : 1 ≤ H) (h9 : H ≤ 1000000000) (hA : (halv H).1 ≤ 1000) (hB : (halv H).2 ≤ 1000) :
    hrB (((halv H).1 : Nat) : Int) (((halv H).2 : Nat) : Int) = true ∧ hrV (((halv H).1 : Nat) : Int) (((halv H).2 : Nat) : Int) = (H : Int) := by
  have hp := halv_pos H
  have hp1 := hp.2 h1
  obtain ⟨n', w', e, s⟩ := rk_halv H h1 0 1 (by omega) (by omega)
  have hi : hrI (((halv H).1 : Nat) : Int) (((halv H).2 : Nat) : Int) = true := by unfold hrI; simp; omega
  have hk : rkB (rk (halv H).1 (halv H).2 0 1) = true := by unfold rkB; rw [e]; simp; omega
  refine ⟨?_, ?_⟩
  · unfold hrB; rw [hi, Int.toNat_natCast, Int.toNat_natCast, hk]; rfl
  · unfold hrV; rw [hi, if_pos rfl, Int.toNat_natCast, Int.toNat_natCast]; unfold rkV; rw [hk, if_pos rfl, e]; show ((n' + w' : Nat) : Int) = _; omega
theorem hr_back (p q : Int) (h : hrB p q = true) : ∃ R P Q : Nat, p = P ∧ q = Q ∧ hrV p q = R ∧ hpB (R : Int) = true ∧ hpV (R : Int) = P ∧ hpU (R : Int) = Q := by
  unfold hrB at h
  have h2 := (Bool.and_eq_true _ _).mp h
  have hi := h2.1
  have hk := h2.2
  have hk2 := hk
  unfold hrI at hi
  simp only [Bool.and_eq_true, decide_eq_true_eq] at hi
  unfold rkB at hk
  simp only [decide_eq_true_eq] at hk
  obtain ⟨h', g1, g2, g3⟩ := halv_rk _ p.toNat q.toNat 0 1 (Nat.le_refl _) (by omega) (by omega) hk.1 hk.2.1
  have hR : h' ≤ 1000000000 := by omega
  have ho := hp_ok h' g1 hR
  refine ⟨h', p.toNat, q.toNat, by omega, by omega, ?_, ho.1, ?_, ?_⟩
  · unfold hrV
    rw [if_pos (by unfold hrI; simp; omega)]
    unfold rkV
    rw [hk2, if_pos rfl, g2]; omega
  · rw [ho.2.1, g3]
  · rw [ho.2.2, g3]
end Go.Proofs.Ytakmmoplepghjaa
