/- Distances back and ahead belong together; forms keep distances and are told by them; new numbers are at the first places (pure: for the laws FnDistancesTold). -/
import Derived.Test.YtpglkgpaaflikaaYA
import Derived.Test.YtpglkgpaaflikaaYB
import Derived.Test.YtpglkgpaaflikaaY7
import Derived.Test.YtpglkgpaaflikaaY5
namespace Go.Proofs.Ytpglkgpaaflikaa
set_option linter.unusedSimpArgs false
set_option linter.unusedVariables false
set_option maxRecDepth 4000

theorem lst_zero (s : Nat → Int) (x : Int) : ∀ k, lst s x k = 0 → ∀ i, i < k → s i ≠ x
  | 0, _, i, hi => by omega
  | k + 1, h, i, hi => by
    unfold lst at h
    split at h
    · omega
    · rename_i hne
      by_cases e : i = k
      · subst e; exact hne
      · exact lst_zero s x k h i (by omega)
theorem lst_some (s : Nat → Int) (x : Int) : ∀ k, lst s x k ≠ 0 → lst s x k - 1 < k ∧ s (lst s x k - 1) = x ∧ ∀ i, lst s x k - 1 < i → i < k → s i ≠ x
  | 0, h => by simp [lst] at h
  | k + 1, h => by
    unfold lst at h ⊢
    split
    · rename_i he
      refine ⟨by omega, by rw [Nat.add_sub_cancel]; exact he, fun i h1 h2 => by omega⟩
    · rename_i hne
      rw [if_neg hne] at h
      obtain ⟨h1, h2, h3⟩ := lst_some s x k h
      refine ⟨by omega, h2, fun i h4 h5 => ?_⟩
      by_cases e : i = k
      · subst e; exact hne
      · exact h3 i h4 (by omega)
theorem bk_zero {s : Nat → Int} {i : Nat} (h : bk s i = 0) : ∀ j, j < i → s j ≠ s i := by
  unfold bk at h
  split at h
  · rename_i h0; exact lst_zero s (s i) i h0
  · rename_i h0
    have := lst_some s (s i) i h0
    omega
theorem bk_pos {s : Nat → Int} {i : Nat} (h : 0 < bk s i) : s (i - bk s i) = s i ∧ ∀ j, i - bk s i < j → j < i → s j ≠ s i := by
  unfold bk at h ⊢
  split
  · rename_i h0; rw [if_pos h0] at h; omega
  · rename_i h0
    obtain ⟨h1, h2, h3⟩ := lst_some s (s i) i h0
    have e : i - (i + 1 - lst s (s i) i) = lst s (s i) i - 1 := by omega
    rw [e]
    exact ⟨h2, h3⟩
theorem bk_new {s : Nat → Int} {i : Nat} (h : ∀ j, j < i → s j ≠ s i) : bk s i = 0 := by
  by_cases h0 : bk s i = 0
  · exact h0
  · have h1 := bk_pos (s := s) (i := i) (by omega)
    have h2 := bk_le s i
    exact absurd h1.1 (h _ (by omega))
/-- What is equal alike is as far back. -/
theorem lst_pattern {f s : Nat → Int} {n : Nat} (h : ∀ j, j < n → (f j = f n ↔ s j = s n)) : ∀ k, k ≤ n → lst f (f n) k = lst s (s n) k
  | 0, _ => rfl
  | k + 1, hk => by
    unfold lst
    rw [lst_pattern h k (by omega)]
    by_cases e : s k = s n
    · rw [if_pos e, if_pos ((h k (by omega)).2 e)]
    · rw [if_neg e, if_neg (fun e2 => e ((h k (by omega)).1 e2))]
theorem bk_pattern {f s : Nat → Int} {n : Nat} (h : ∀ j, j < n → (f j = f n ↔ s j = s n)) : bk f n = bk s n := by
  unfold bk
  rw [lst_pattern h n (Nat.le_refl _)]

/-! forms -/
/-- A number of a form. -/
def vF (d : Nat → Int) (i : Nat) : Int := if d i > 0 then (fmS d i).1.getD (i - (d i).toNat) 0 else ((fmS d i).2 : Int) + 1
theorem fmS_succ (d : Nat → Int) (k : Nat) : (fmS d (k + 1)).1 = (fmS d k).1 ++ [vF d k] := by
  conv => lhs; unfold fmS
  unfold vF
  split <;> rfl
theorem fm_at (d : Nat → Int) : ∀ (k i : Nat), i < k → (fmS d k).1.getD i 0 = vF d i
  | 0, i, h => by omega
  | k + 1, i, h => by
    rw [fmS_succ, List.getD_eq_getElem?_getD]
    by_cases e : i = k
    · subst e
      rw [List.getElem?_append_right (by rw [fmS_len]; exact Nat.le_refl _), fmS_len, Nat.sub_self]; rfl
    · rw [List.getElem?_append_left (by rw [fmS_len]; omega), ← List.getD_eq_getElem?_getD]
      exact fm_at d k i (by omega)
theorem vF_back {d : Nat → Int} {i : Nat} (h : 0 < d i) (h2 : d i ≤ (i : Int)) : vF d i = vF d (i - (d i).toNat) := by
  conv => lhs; unfold vF
  rw [if_pos h, fm_at d i _ (by omega)]
theorem vF_new {d : Nat → Int} {i : Nat} (h : ¬ 0 < d i) : vF d i = ((fmS d i).2 : Int) + 1 := by unfold vF; rw [if_neg h]
theorem most_new {d : Nat → Int} {i : Nat} (h : ¬ 0 < d i) : (fmS d (i + 1)).2 = (fmS d i).2 + 1 := by
  conv => lhs; unfold fmS
  rw [if_neg h]
theorem most_old {d : Nat → Int} {i : Nat} (h : 0 < d i) : (fmS d (i + 1)).2 = (fmS d i).2 := by
  conv => lhs; unfold fmS
  rw [if_pos h]
theorem vF_le {d : Nat → Int} : ∀ (k : Nat), okD d k → ∀ i, i < k → vF d i ≤ ((fmS d k).2 : Int)
  | 0, _, i, hi => by omega
  | k + 1, hok, i, hi => by
    have hk := hok k (by omega)
    have ih := vF_le k (fun j hj => hok j (by omega))
    have hm : (fmS d k).2 ≤ (fmS d (k + 1)).2 := by
      by_cases e : 0 < d k
      · rw [most_old e]; exact Nat.le_refl _
      · rw [most_new e]; omega
    by_cases e : i = k
    · subst e
      by_cases e2 : 0 < d i
      · rw [vF_back e2 hk.2]
        have := ih (i - (d i).toNat) (by omega)
        omega
      · rw [vF_new e2, most_new e2]; omega
    · have := ih i (by omega); omega
/-- A form tells which numbers are equal. -/
theorem vF_same (xs : List Int) (s : Nat → Int) (d : Nat → Int) (hd : ∀ i, d i = ((bk s i : Nat) : Int)) : ∀ n i, i < n → ∀ j, j < i → (vF d j = vF d i ↔ s j = s i) := by
  have hok : ∀ k, okD d k := fun k i hi => by rw [hd]; have := bk_le s i; omega
  intro n
  induction n with
  | zero => intro i hi; omega
  | succ n ih =>
    intro i hi j hj
    by_cases hlt : i < n
    · exact ih i hlt j hj
    · obtain rfl : i = n := by omega
      by_cases h0 : bk s i = 0
      · have h1 : ¬ 0 < d i := by rw [hd, h0]; omega
        have h2 := vF_le i (hok i) j hj
        rw [vF_new h1]
        constructor
        · intro e; omega
        · intro e; exact absurd e (bk_zero h0 j hj)
      · have hle := bk_le s i
        have h1 : 0 < d i := by rw [hd]; omega
        have hb : vF d i = vF d (i - bk s i) := by
          have := vF_back h1 (hok (i + 1) i (by omega)).2
          rw [this, hd, Int.toNat_natCast]
        have hs := (bk_pos (s := s) (i := i) (by omega)).1
        rw [hb, ← hs]
        obtain ⟨k, hk⟩ : ∃ k, k = i - bk s i := ⟨_, rfl⟩
        rw [← hk]
        by_cases e : j = k
        · subst e; exact ⟨fun _ => rfl, fun _ => rfl⟩
        · by_cases hjk : j < k
          · exact ih k (by omega) j hjk
          · have := ih j hj k (by omega)
            exact ⟨fun e => (this.1 e.symm).symm, fun e => (this.2 e.symm).symm⟩
theorem sq_bkL {xs : List Int} {i : Nat} (h : i < xs.length) : sq (bkL xs) i = bkS xs i := sq_upL h
theorem fmS_congr {d e : Nat → Int} : ∀ k, (∀ i, i < k → d i = e i) → fmS d k = fmS e k
  | 0, _ => rfl
  | k + 1, h => by
    unfold fmS
    rw [fmS_congr k (fun i hi => h i (by omega)), h k (by omega)]
theorem fmL_back (xs : List Int) : fmL (bkL xs) = (fmS (bkS xs) xs.length).1 := by
  unfold fmL
  rw [bkL_len, fmS_congr xs.length (fun i hi => sq_bkL hi)]
theorem sq_form {xs : List Int} {i : Nat} (h : i < xs.length) : sq (fmL (bkL xs)) i = vF (bkS xs) i := by
  unfold sq
  rw [fmL_back, fm_at _ _ _ h]
/-- Forms keep distances. -/
theorem form_keeps (xs : List Int) : bkL (fmL (bkL xs)) = bkL xs := by
  have hl : (fmL (bkL xs)).length = xs.length := by rw [fmL_len, bkL_len]
  unfold bkL
  rw [show (fmL (upL (bkS xs) xs.length)).length = xs.length from hl]
  refine upL_congr fun i hi => ?_
  show ((bk (sq (fmL (bkL xs))) i : Nat) : Int) = ((bk (sq xs) i : Nat) : Int)
  congr 1
  refine bk_pattern fun j hj => ?_
  rw [sq_form (by omega : j < xs.length), sq_form hi]
  exact vF_same xs (sq xs) (bkS xs) (fun _ => rfl) (i + 1) i (by omega) j hj
theorem form_dist {xs : List Int} (h : plL xs = true) : areB (bkL xs) = true ∧ plL (fmL (bkL xs)) = true ∧ plL (bkL xs) = true := by
  obtain ⟨h1, h60, _⟩ := plL_open h
  refine ⟨?_, ?_, bkL_pl h⟩
  · unfold areB
    rw [okB_of (okD_bkL xs), form_keeps, Bool.true_and]
    exact decide_eq_true rfl
  · exact fmL_pl (by rw [bkL_len]; exact h1) (by rw [bkL_len]; exact h60) (okD_bkL xs)
theorem form_is {xs : List Int} (h : plL xs = true) : isF (fmL (bkL xs)) = true := by
  unfold isF
  rw [(form_dist h).2.1, form_keeps, Bool.true_and]
  exact decide_eq_true rfl

/-! places -/
theorem pls_has (s : Nat → Int) (y : Int) : ∀ (k : Nat) (i : Nat), ((i : Int) + 1) ∈ pls s y k ↔ i < k ∧ s i = y
  | 0, i => by simp [pls]
  | k + 1, i => by
    unfold pls
    rw [List.mem_append, pls_has s y k i]
    constructor
    · rintro (h | h)
      · exact ⟨by omega, h.2⟩
      · split at h
        · rename_i e
          rw [List.mem_singleton] at h
          have : i = k := by omega
          subst this
          exact ⟨by omega, e⟩
        · cases h
    · rintro ⟨h1, h2⟩
      by_cases e : i = k
      · subst e
        right; rw [if_pos h2]; simp
      · exact .inl ⟨by omega, h2⟩
theorem pls_none (s : Nat → Int) (y : Int) : ∀ k, (∀ j, j < k → s j ≠ y) → pls s y k = []
  | 0, _ => rfl
  | k + 1, h => by
    unfold pls
    rw [pls_none s y k (fun j hj => h j (by omega)), if_neg (h k (by omega))]; rfl
theorem pls_first (s : Nat → Int) (y : Int) (i : Nat) (hy : s i = y) (hn : ∀ j, j < i → s j ≠ y) : ∀ k, i < k → (pls s y k)[0]? = some ((i : Int) + 1)
  | 0, h => by omega
  | k + 1, h => by
    unfold pls
    by_cases e : i = k
    · subst e
      rw [pls_none s y i hn, if_pos hy]; rfl
    · have ih := pls_first s y i hy hn k (by omega)
      rw [List.getElem?_append_left (by
        cases hp : pls s y k with
        | nil => rw [hp] at ih; cases ih
        | cons a t => simp)]
      exact ih

/-! distances ahead -/
theorem bk_apart {s : Nat → Int} {i k : Nat} (hik : i < k) (hi : bk s i ≠ 0) (hk : bk s k ≠ 0) : i - bk s i ≠ k - bk s k := by
  intro e
  have h1 := bk_pos (s := s) (i := i) (by omega)
  have h2 := bk_pos (s := s) (i := k) (by omega)
  have h3 := bk_le s i
  have h4 : s i = s k := by rw [← h1.1, e, h2.1]
  exact h2.2 i (by omega) hik h4
/-- What the first k places tell of a place. -/
theorem ah_at (s : Nat → Int) (N : Nat) : ∀ (k : Nat), k ≤ N → (∀ i, i < k → bk s i ≠ 0 → (ah (bk s) N k)[i - bk s i]? = some ((bk s i : Nat) : Int)) ∧ (∀ j, j < N → (∀ i, i < k → bk s i ≠ 0 → i - bk s i ≠ j) → (ah (bk s) N k)[j]? = some 0)
  | 0, _ => ⟨fun i hi => by omega, fun j hj _ => by unfold ah; rw [List.getElem?_replicate, if_pos hj]⟩
  | k + 1, hk => by
    obtain ⟨a1, a2⟩ := ah_at s N k (by omega)
    have hlk := bk_le s k
    unfold ah
    by_cases h0 : bk s k = 0
    · rw [if_pos h0]
      refine ⟨fun i hi hb => ?_, fun j hj hn => a2 j hj (fun i hi hb => hn i (by omega) hb)⟩
      by_cases e : i = k
      · subst e; exact absurd h0 hb
      · exact a1 i (by omega) hb
    · rw [if_neg h0]
      refine ⟨fun i hi hb => ?_, fun j hj hn => ?_⟩
      · by_cases e : i = k
        · subst e
          rw [List.getElem?_set_self (by rw [ah_len]; omega)]
        · rw [List.getElem?_set_ne (fun e2 => bk_apart (by omega : i < k) hb h0 e2.symm)]
          exact a1 i (by omega) hb
      · rw [List.getElem?_set_ne (fun e => hn k (by omega) h0 e)]
        exact a2 j hj (fun i hi hb => hn i (by omega) hb)
theorem ahL_told {xs : List Int} {i : Nat} (h : i < xs.length) (hb : bk (sq xs) i ≠ 0) : (ahL xs)[i - bk (sq xs) i]? = some ((bk (sq xs) i : Nat) : Int) :=
  (ah_at (sq xs) xs.length xs.length (Nat.le_refl _)).1 i h hb
theorem sum_setZ : ∀ (l : List Int) (j : Nat) (x : Int), l[j]? = some 0 → (l.set j x).sum = l.sum + x
  | [], j, x, h => by simp at h
  | a :: t, 0, x, h => by
    simp only [List.getElem?_cons_zero, Option.some.injEq] at h
    subst h
    simp only [List.set_cons_zero, List.sum_cons]; omega
  | a :: t, j + 1, x, h => by
    simp only [List.getElem?_cons_succ] at h
    simp only [List.set_cons_succ, List.sum_cons]
    rw [sum_setZ t j x h]; omega
theorem ah_sum (s : Nat → Int) (N : Nat) : ∀ k, k ≤ N → (ah (bk s) N k).sum = (upL (fun i => ((bk s i : Nat) : Int)) k).sum
  | 0, _ => by
    unfold ah upL
    simp
  | k + 1, hk => by
    have ih := ah_sum s N k (by omega)
    have hlk := bk_le s k
    rw [upL_succ, List.sum_append]
    unfold ah
    by_cases h0 : bk s k = 0
    · rw [if_pos h0, ih, h0]; simp
    · rw [if_neg h0, sum_setZ _ _ _ ((ah_at s N k (by omega)).2 (k - bk s k) (by omega) (fun i hi hb e => bk_apart hi hb h0 e)), ih]
      simp
/-- Distances back and ahead have one sum. -/
theorem back_ahead_sum (xs : List Int) : (bkL xs).sum = (ahL xs).sum := (ah_sum (sq xs) xs.length xs.length (Nat.le_refl _)).symm
end Go.Proofs.Ytpglkgpaaflikaa
