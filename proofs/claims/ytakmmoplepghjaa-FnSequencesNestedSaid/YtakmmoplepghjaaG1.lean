/- Sequences that tell their numbers from those before: as digits of one great number, so that the kernel reckons them. -/
import Derived.Test.YtakmmoplepghjaaA1
namespace Go.Proofs.Ytakmmoplepghjaa
set_option linter.unusedSimpArgs false
set_option linter.unusedVariables false

def dg (b i : Nat) : Nat := b / 4096 ^ i % 4096
def seqB (R : (Nat → Nat) → Nat → Nat) : Nat → Nat
  | 0 => 0
  | k + 1 => seqB R k + R (dg (seqB R k)) k * 4096 ^ k
def sqN (R : (Nat → Nat) → Nat → Nat) (k : Nat) : Nat := R (dg (seqB R k)) k

def forceB (b : Nat) (F : Nat → Bool) : Bool := Nat.casesOn (motive := fun _ => Bool) b (F 0) (fun n => F (Nat.succ n))
theorem forceB_eq (b : Nat) (F : Nat → Bool) : forceB b F = F b := by cases b <;> rfl
def chkB (R : (Nat → Nat) → Nat → Nat) (P : (Nat → Nat) → Nat → Nat → Bool) (N : Nat) : Nat → Nat → Bool
  | 0, _ => true
  | f + 1, b => forceB (R (dg b) (N - Nat.succ f)) fun v => cond (P (dg b) (N - Nat.succ f) v) (forceB (b + v * 4096 ^ (N - Nat.succ f)) (fun b' => chkB R P N f b')) false

theorem chkB_all {R : (Nat → Nat) → Nat → Nat} {P : (Nat → Nat) → Nat → Nat → Bool} {N : Nat} : ∀ (f : Nat), f ≤ N → chkB R P N f (seqB R (N - f)) = true → ∀ k, N - f ≤ k → k < N → P (dg (seqB R k)) k (sqN R k) = true
  | 0, _, _, k, h1, h2 => by omega
  | f + 1, hf, h, k, h1, h2 => by
    rw [chkB, forceB_eq] at h
    obtain ⟨j, hj⟩ : ∃ j, j = N - Nat.succ f := ⟨_, rfl⟩
    rw [show N - (f + 1) = j from by omega] at h h1
    cases hP : P (dg (seqB R j)) j (R (dg (seqB R j)) j) with
    | false => rw [hP] at h; cases h
    | true =>
      rw [hP] at h
      simp only [cond_true, forceB_eq] at h
      by_cases hk : k = j
      · subst hk; exact hP
      · refine chkB_all f (by omega) ?_ k (by omega) h2
        rw [show N - f = j + 1 from by omega]
        exact h

theorem seqB_lt {R : (Nat → Nat) → Nat → Nat} : ∀ k : Nat, (∀ i, i < k → sqN R i < 4096) → seqB R k < 4096 ^ k
  | 0, _ => by simp [seqB]
  | k + 1, h => by
    have h1 := seqB_lt k fun i hi => h i (by omega)
    have h2 := h k (by omega)
    unfold sqN at h2
    rw [seqB, Nat.pow_succ]
    have : R (dg (seqB R k)) k * 4096 ^ k ≤ 4095 * 4096 ^ k := Nat.mul_le_mul_right _ (by omega)
    omega

theorem dg_seqB {R : (Nat → Nat) → Nat → Nat} : ∀ k : Nat, (∀ i, i < k → sqN R i < 4096) → ∀ i, dg (seqB R k) i = if i < k then sqN R i else 0
  | 0, _, i => by simp [dg, seqB]
  | k + 1, h, i => by
    have hlt := seqB_lt k fun i hi => h i (by omega)
    have ih := dg_seqB k (fun i hi => h i (by omega)) i
    have hk := h k (by omega)
    have hpos : 0 < 4096 ^ k := Nat.pow_pos (by omega)
    by_cases h1 : i < k
    · rw [if_pos h1] at ih
      rw [if_pos (by omega), ← ih]
      obtain ⟨d, rfl⟩ : ∃ d, k = i + (d + 1) := ⟨k - i - 1, by omega⟩
      rw [dg, dg, seqB]
      have e : R (dg (seqB R (i + (d + 1)))) (i + (d + 1)) * 4096 ^ (i + (d + 1)) = 4096 ^ i * (4096 * (R (dg (seqB R (i + (d + 1)))) (i + (d + 1)) * 4096 ^ d)) := by
        rw [Nat.pow_add, Nat.pow_succ, Nat.mul_comm (4096 ^ d), Nat.mul_left_comm, Nat.mul_left_comm _ 4096]
      rw [e, Nat.add_mul_div_left _ _ (Nat.pow_pos (by omega)), Nat.add_mul_mod_self_left]
    · by_cases h2 : i = k
      · subst h2
        rw [if_pos (by omega), dg, seqB, Nat.add_mul_div_right _ _ hpos, Nat.div_eq_of_lt hlt, Nat.zero_add]
        exact Nat.mod_eq_of_lt hk
      · rw [if_neg (by omega), dg]
        have hl2 := seqB_lt (k + 1) h
        rw [Nat.div_eq_of_lt (Nat.lt_of_lt_of_le hl2 (Nat.pow_le_pow_right (by omega) (by omega)))]

theorem sqN_eq {R : (Nat → Nat) → Nat → Nat} (k : Nat) (h : ∀ i, i < k → sqN R i < 4096) : sqN R k = R (fun i => if i < k then sqN R i else 0) k := by
  have : dg (seqB R k) = fun i => if i < k then sqN R i else 0 := funext fun i => dg_seqB k h i
  rw [sqN, this]

/-! the four rules, with comparisons that the kernel reckons at once -/
def golK (f : Nat → Nat) (n : Nat) : Nat := cond (Nat.ble n 1) n (f (n - f (f (n - 1))) + 1)
def bacK (f : Nat → Nat) (n : Nat) : Nat := cond (Nat.ble n 2) (cond (Nat.beq n 0) 0 1) (f (f (n - 1)) + f (n - f (n - 1)))
def nesK (f : Nat → Nat) (n : Nat) : Nat := n - f (f (n - 1))
def wilK (f : Nat → Nat) (n : Nat) : Nat := cond (Nat.ble n 2) (cond (Nat.beq n 0) 0 1) (f (n - f (n - 1)) + f (n - f (n - 2)))
theorem beq0 (n a b : Nat) : cond (Nat.beq n 0) a b = if n = 0 then a else b := by
  cases n <;> rfl
theorem beqN (n m : Nat) {α : Type} (a b : α) : cond (Nat.beq n m) a b = if n = m then a else b := by
  by_cases h : n = m
  · rw [if_pos h, h, show Nat.beq m m = true from Nat.beq_refl m]; rfl
  · rw [if_neg h, show Nat.beq n m = false from (by cases hb : Nat.beq n m with | false => rfl | true => exact absurd (Nat.eq_of_beq_eq_true hb) h)]; rfl
theorem bleN (n m : Nat) {α : Type} (a b : α) : cond (Nat.ble n m) a b = if n ≤ m then a else b := by
  by_cases h : n ≤ m
  · rw [if_pos h, Nat.ble_eq_true_of_le h]; rfl
  · rw [if_neg h, show Nat.ble n m = false from (by cases hb : Nat.ble n m with | false => rfl | true => exact absurd (Nat.le_of_ble_eq_true hb) h)]; rfl
theorem golK_eq (f : Nat → Nat) (n : Nat) : golK f n = if n ≤ 1 then n else f (n - f (f (n - 1))) + 1 := by rw [golK, bleN]
theorem bacK_eq (f : Nat → Nat) (n : Nat) : bacK f n = if n ≤ 2 then (if n = 0 then 0 else 1) else f (f (n - 1)) + f (n - f (n - 1)) := by rw [bacK, bleN, beqN]
theorem wilK_eq (f : Nat → Nat) (n : Nat) : wilK f n = if n ≤ 2 then (if n = 0 then 0 else 1) else f (n - f (n - 1)) + f (n - f (n - 2)) := by rw [wilK, bleN, beqN]

def okP (f : Nat → Nat) (k v : Nat) : Bool := cond (Nat.beq k 0) (Nat.beq v 0) (cond (Nat.ble 1 v) (Nat.ble v k) false)
def okN (f : Nat → Nat) (k v : Nat) : Bool := cond (Nat.ble v k) (Nat.ble k (2 * v)) false
def okG (f : Nat → Nat) (k v : Nat) : Bool := cond (Nat.ble k 2) (Nat.beq v k) (cond (Nat.ble (v + 1) k) (cond (Nat.ble (f (k - 1)) v) (Nat.ble v (f (k - 1) + 1)) false) false)
theorem wil_ok : chkB wilK okP 3001 3001 0 = true := by decide +kernel
theorem bac_ok : chkB bacK okP 3001 3001 0 = true := by decide +kernel
theorem nes_ok : chkB nesK okN 3010 3010 0 = true := by decide +kernel
theorem gol_ok : chkB golK okG 3001 3001 0 = true := by decide +kernel

theorem okP_out {f : Nat → Nat} {k v : Nat} (h : okP f k v = true) : (k = 0 → v = 0) ∧ (0 < k → 1 ≤ v) ∧ v ≤ k := by
  unfold okP at h
  rw [beqN, bleN] at h
  split at h
  · have := Nat.eq_of_beq_eq_true h; omega
  · split at h
    · have := Nat.le_of_ble_eq_true h; omega
    · cases h
theorem okN_out {f : Nat → Nat} {k v : Nat} (h : okN f k v = true) : v ≤ k ∧ k ≤ 2 * v := by
  unfold okN at h
  rw [bleN] at h
  split at h
  · have := Nat.le_of_ble_eq_true h; omega
  · cases h
theorem okG_out {f : Nat → Nat} {k v : Nat} (h : okG f k v = true) : (k ≤ 2 → v = k) ∧ (2 < k → v + 1 ≤ k ∧ f (k - 1) ≤ v ∧ v ≤ f (k - 1) + 1) := by
  unfold okG at h
  rw [bleN, bleN, bleN] at h
  split at h
  · have := Nat.eq_of_beq_eq_true h; omega
  · split at h
    · split at h
      · have := Nat.le_of_ble_eq_true h; omega
      · cases h
    · cases h
def wil : Nat → Nat := sqN wilK
def bac : Nat → Nat := sqN bacK
def nes : Nat → Nat := sqN nesK
def gol : Nat → Nat := sqN golK
theorem wil_in (k : Nat) (h : k ≤ 3000) : (k = 0 → wil k = 0) ∧ (0 < k → 1 ≤ wil k) ∧ wil k ≤ k := okP_out (chkB_all 3001 (by omega) wil_ok k (by omega) (by omega))
theorem bac_in (k : Nat) (h : k ≤ 3000) : (k = 0 → bac k = 0) ∧ (0 < k → 1 ≤ bac k) ∧ bac k ≤ k := okP_out (chkB_all 3001 (by omega) bac_ok k (by omega) (by omega))
theorem nes_in (k : Nat) (h : k ≤ 3009) : nes k ≤ k ∧ k ≤ 2 * nes k := okN_out (chkB_all 3010 (by omega) nes_ok k (by omega) (by omega))
theorem gol_le (k : Nat) (h : k ≤ 3000) : gol k ≤ k := by
  have := okG_out (chkB_all 3001 (by omega) gol_ok k (by omega) (by omega))
  have h2 : gol k = sqN golK k := rfl
  omega
theorem wil_eq (k : Nat) (h : k ≤ 3000) : wil k = wilK (fun i => if i < k then wil i else 0) k := sqN_eq k fun i hi => by have := (wil_in i (by omega)).2.2; unfold wil at this; omega
theorem bac_eq (k : Nat) (h : k ≤ 3000) : bac k = bacK (fun i => if i < k then bac i else 0) k := sqN_eq k fun i hi => by have := (bac_in i (by omega)).2.2; unfold bac at this; omega
theorem nes_eq (k : Nat) (h : k ≤ 3009) : nes k = nesK (fun i => if i < k then nes i else 0) k := sqN_eq k fun i hi => by have := (nes_in i (by omega)).1; unfold nes at this; omega
theorem gol_eq (k : Nat) (h : k ≤ 3000) : gol k = golK (fun i => if i < k then gol i else 0) k := sqN_eq k fun i hi => by have := gol_le i (by omega); unfold gol at this; omega
theorem gol_in (k : Nat) (h : k ≤ 3000) : (k ≤ 2 → gol k = k) ∧ (2 < k → gol k + 1 ≤ k ∧ gol (k - 1) ≤ gol k ∧ gol k ≤ gol (k - 1) + 1) := by
  have := okG_out (chkB_all 3001 (by omega) gol_ok k (by omega) (by omega))
  rw [dg_seqB k fun i hi => by have := gol_le i (by omega); unfold gol at this; omega] at this
  refine ⟨this.1, fun h2 => ?_⟩
  have h3 := this.2 h2
  rw [if_pos (by omega)] at h3
  exact h3

/-! each by its own numbers before -/
theorem wil_rec (k : Nat) (h2 : 2 < k) (h : k ≤ 3000) : wil k = wil (k - wil (k - 1)) + wil (k - wil (k - 2)) := by
  have h1 := wil_in (k - 1) (by omega)
  have h3 := wil_in (k - 2) (by omega)
  have := wil_eq k h
  rw [wilK_eq, if_neg (by omega)] at this
  simp only [if_pos (show k - 1 < k by omega), if_pos (show k - 2 < k by omega), if_pos (show k - wil (k - 1) < k by omega), if_pos (show k - wil (k - 2) < k by omega)] at this
  exact this
theorem wil_two : wil 0 = 0 ∧ wil 1 = 1 ∧ wil 2 = 1 := by decide +kernel
theorem bac_two : bac 0 = 0 ∧ bac 1 = 1 ∧ bac 2 = 1 := by decide +kernel
theorem nes_one : nes 0 = 0 ∧ nes 1 = 1 := by decide +kernel
theorem gol_two : gol 0 = 0 ∧ gol 1 = 1 ∧ gol 2 = 2 := by decide +kernel
theorem bac_rec (k : Nat) (h2 : 2 < k) (h : k ≤ 3000) : bac k = bac (bac (k - 1)) + bac (k - bac (k - 1)) := by
  have h1 := bac_in (k - 1) (by omega)
  have := bac_eq k h
  rw [bacK_eq, if_neg (by omega)] at this
  simp only [if_pos (show k - 1 < k by omega), if_pos (show k - bac (k - 1) < k by omega), if_pos (show bac (k - 1) < k by omega)] at this
  exact this
theorem nes_rec (k : Nat) (h2 : 0 < k) (h : k ≤ 3009) : nes k = k - nes (nes (k - 1)) := by
  have h1 := nes_in (k - 1) (by omega)
  have := nes_eq k h
  rw [nesK] at this
  simp only [if_pos (show k - 1 < k by omega), if_pos (show nes (k - 1) < k by omega)] at this
  exact this
theorem gol_pos (k : Nat) (h0 : 0 < k) (h : k ≤ 3000) : 1 ≤ gol k := by
  by_cases h2 : 2 < k
  · have ih := gol_pos (k - 1) (by omega) (by omega)
    have := (gol_in k h).2 h2
    omega
  · have := (gol_in k h).1 (by omega)
    omega
theorem gol_rec (k : Nat) (h2 : 1 < k) (h : k ≤ 3000) : gol k = gol (k - gol (gol (k - 1))) + 1 := by
  have h1 := gol_le (k - 1) (by omega)
  have h1p := gol_pos (k - 1) (by omega) (by omega)
  have h3p := gol_pos (gol (k - 1)) (by omega) (by omega)
  have := gol_eq k h
  rw [golK_eq, if_neg (by omega)] at this
  simp only [if_pos (show k - 1 < k by omega), if_pos (show gol (k - 1) < k by omega), if_pos (show k - gol (gol (k - 1)) < k by omega)] at this
  exact this
theorem gol_mono (i : Nat) : ∀ d : Nat, i + d ≤ 3000 → gol i ≤ gol (i + d)
  | 0, _ => Nat.le_refl _
  | d + 1, h => by
    have ih := gol_mono i d (by omega)
    have h1 := gol_in (i + (d + 1)) h
    by_cases h2 : 2 < i + (d + 1)
    · have h3 := (h1.2 h2).2.1
      rw [show i + (d + 1) - 1 = i + d from by omega] at h3
      omega
    · have e1 := h1.1 (by omega)
      have e2 := (gol_in (i + d) (by omega)).1 (by omega)
      omega
/-- p is the first place of v. -/
def golFirst (v p : Nat) : Prop := 0 < p ∧ gol p = v ∧ gol (p - 1) + 1 = v
theorem gol_run {v p : Nat} (hf : golFirst v p) : ∀ j : Nat, j < gol v → p + j ≤ 3000 → gol (p + j) = v
  | 0, _, _ => hf.2.1
  | j + 1, hj, hp => by
    obtain ⟨h0, h1, h2⟩ := hf
    have ih := gol_run ⟨h0, h1, h2⟩ j (by omega) (by omega)
    have hr := gol_rec (p + (j + 1)) (by omega) hp
    rw [show p + (j + 1) - 1 = p + j from by omega, ih] at hr
    have hs := gol_in (p + (j + 1)) hp
    have hm := gol_mono (p + (j + 1) - gol v) (p - 1 - (p + (j + 1) - gol v)) (by omega)
    rw [show p + (j + 1) - gol v + (p - 1 - (p + (j + 1) - gol v)) = p - 1 from by omega] at hm
    by_cases h2' : 2 < p + (j + 1)
    · have h3 := hs.2 h2'
      rw [show p + (j + 1) - 1 = p + j from by omega, ih] at h3
      omega
    · have e0 := hs.1 (by omega)
      have e1 := (gol_in (p + j) (by omega)).1 (by omega)
      omega
theorem gol_next {v p : Nat} (hf : golFirst v p) (hp : p + gol v ≤ 3000) : golFirst (v + 1) (p + gol v) := by
  have h0 := hf.1
  have hle := gol_le p (by omega)
  have hv : v = gol p := hf.2.1.symm
  have hpos := gol_pos v (by have := gol_pos p h0 (by omega); omega) (by omega)
  have h1 := gol_run hf (gol v - 1) (by omega) (by omega)
  have e : p + gol v - 1 = p + (gol v - 1) := by omega
  have hr := gol_rec (p + gol v) (by omega) hp
  rw [e, h1, Nat.add_sub_cancel] at hr
  refine ⟨by omega, ?_, by rw [e, h1]⟩
  rw [hr, hf.2.1]
theorem gol_first1 : golFirst 1 1 := ⟨by omega, gol_two.2.1, by rw [gol_two.1]⟩
theorem gol_first_le {v p : Nat} (hf : golFirst v p) (hp : p ≤ 3000) (hv : 2 < v) : v < p := by
  have h1 := gol_in p hp
  have h2 := hf.2.1
  by_cases h : 2 < p
  · have := (h1.2 h).1; omega
  · have := h1.1 (by omega); omega
end Go.Proofs.Ytakmmoplepghjaa
