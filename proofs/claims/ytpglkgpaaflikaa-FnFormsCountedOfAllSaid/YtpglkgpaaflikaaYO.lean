/- Pure facts for the law FnFormsCounted: all forms in order with their ranks, ranks are less than the count of forms, Eck sequences go on by distances back. -/
import Derived.Test.YtpglkgpaaflikaaYG
import Derived.Test.YtpglkgpaaflikaaYF
import Derived.Test.YtpglkgpaaflikaaY8
import Derived.Test.YtpglkgpaaflikaaZA
import Derived.Test.YtpglkgpaaflikaaZ4
namespace Go.Proofs.Ytpglkgpaaflikaa
open Go.RowKit Go.BigFrame Go.Maps
set_option linter.unusedSimpArgs false
set_option linter.unusedVariables false
set_option maxRecDepth 4000

/-! ### Forms -/
def lesL : List Int → List Int → Bool
  | [], [] => false
  | [], _ :: _ => true
  | _ :: _, [] => false
  | a :: s, b :: t => if a = b then lesL s t else decide (a < b)
theorem endN_tab (k : Nat) (h : k ≤ 21) : endN k 0 = (endTab k).getD 0 0 := ((endTab_is k h).2 0 (by omega)).symm
/-- The forms of n numbers, one behind the other: each is one, has n numbers and its place as its rank, and comes behind the one before. -/
def chkF (n : Nat) : Nat → List Int → List (List Int) → Bool
  | _, _, [] => true
  | i, p, x :: t => isF x && decide (x.length = n) && decide (rkN x n = i) && (decide (i = 0) || lesL p x) && chkF n (i + 1) x t
theorem chkF_at (n : Nat) : ∀ (l : List (List Int)) (i : Nat) (p : List Int), chkF n i p l = true → ∀ j (h : j < l.length), isF l[j] = true ∧ l[j].length = n ∧ rkN l[j] n = i + j ∧ (∀ hj : 0 < j, lesL (l[j - 1]'(by omega)) l[j] = true) ∧ (j = 0 → 0 < i → lesL p l[j] = true)
  | [], _, _, _, j, h => absurd h (Nat.not_lt_zero _)
  | x :: t, i, p, hc, j, h => by
    unfold chkF at hc
    simp only [Bool.and_eq_true, decide_eq_true_eq, Bool.or_eq_true] at hc
    obtain ⟨⟨⟨⟨h1, h2⟩, h3⟩, h4⟩, h5⟩ := hc
    cases j with
    | zero => exact ⟨h1, h2, h3, fun hj => absurd hj (by omega), fun _ hi => by rcases h4 with e | e; (· omega); (· exact e)⟩
    | succ k =>
      obtain ⟨q1, q2, q3, q4, q5⟩ := chkF_at n t (i + 1) x h5 k (by simpa using h)
      refine ⟨q1, q2, by show rkN (t[k]'(by simpa using h)) n = _; omega, fun _ => ?_, fun e => by omega⟩
      cases k with
      | zero => exact q5 rfl (by omega)
      | succ m => exact q4 (by omega)
theorem chk_1 : chkF 1 0 [] (allF 1) = true := by decide +kernel
theorem chk_2 : chkF 2 0 [] (allF 2) = true := by decide +kernel
theorem chk_3 : chkF 3 0 [] (allF 3) = true := by decide +kernel
theorem chk_4 : chkF 4 0 [] (allF 4) = true := by decide +kernel
theorem chk_5 : chkF 5 0 [] (allF 5) = true := by decide +kernel
theorem chk_6 : chkF 6 0 [] (allF 6) = true := by decide +kernel
theorem chk_7 : chkF 7 0 [] (allF 7) = true := by decide +kernel
theorem allF_cnt (n : Nat) (h : n ≤ 7) : (allF n).length = endN n 0 := by
  have : ∀ m : Fin 8, (allF m).length = endN m 0 := by decide +kernel
  exact this ⟨n, by omega⟩
theorem allF_facts (n : Nat) (h1 : 1 ≤ n) (h7 : n ≤ 7) (j : Nat) (h : j < (allF n).length) : isF (allF n)[j] = true ∧ (allF n)[j].length = n ∧ rkV (allF n)[j] = (j : Int) ∧ rkB (allF n)[j] = true ∧ plL (allF n)[j] = true ∧ (∀ hj : 0 < j, lesL ((allF n)[j - 1]'(by omega)) (allF n)[j] = true) := by
  have hc : chkF n 0 [] (allF n) = true := by
    have e : n = 1 ∨ n = 2 ∨ n = 3 ∨ n = 4 ∨ n = 5 ∨ n = 6 ∨ n = 7 := by omega
    rcases e with rfl | rfl | rfl | rfl | rfl | rfl | rfl
    · exact chk_1
    · exact chk_2
    · exact chk_3
    · exact chk_4
    · exact chk_5
    · exact chk_6
    · exact chk_7
  obtain ⟨q1, q2, q3, q4, _⟩ := chkF_at n (allF n) 0 [] hc j h
  have hb : rkB (allF n)[j] = true := by unfold rkB; rw [q1, q2, decide_eq_true (by omega)]; rfl
  refine ⟨q1, q2, ?_, hb, ?_, q4⟩
  · unfold rkV; rw [if_pos hb, q2, q3, Nat.zero_add]
  · unfold isF at q1; rw [Bool.and_eq_true] at q1; exact q1.1

/-! ### A rank is less than the count of forms -/
theorem rkM_is {xs : List Int} (hf : isF xs = true) : ∀ k, k ≤ xs.length → (fmS (bkS xs) k).2 ≤ rkM xs k ∧ ∀ i, i < k → rkX xs i ≤ rkM xs k
  | 0, _ => ⟨Nat.le_refl _, fun i h => absurd h (Nat.not_lt_zero _)⟩
  | k + 1, hk => by
    obtain ⟨h1, h2⟩ := rkM_is hf k (by omega)
    have hk' : k < xs.length := by omega
    have hv : sq xs k = vF (bkS xs) k := by
      have h0 := hf
      unfold isF at h0
      rw [Bool.and_eq_true, decide_eq_true_eq] at h0
      have e := sq_form hk'
      rw [h0.2] at e
      exact e
    obtain ⟨x0, x1, x2⟩ := rk_ix hf k hk'
    have hm : rkM xs (k + 1) = if rkM xs k > rkX xs k then rkM xs k else rkX xs k := rfl
    refine ⟨?_, fun i hi => ?_⟩
    · by_cases h0 : 0 < bkS xs k
      · rw [most_old h0, hm]; split <;> omega
      · rw [most_new h0, hm]
        rw [vF_new h0] at hv
        split <;> omega
    · by_cases e : i = k
      · subst e; rw [hm]; split <;> omega
      · have := h2 i (by omega); rw [hm]; split <;> omega
theorem rkX_new {xs : List Int} (hf : isF xs = true) (k : Nat) (hk : k < xs.length) : rkX xs k ≤ rkM xs k + 1 := by
  obtain ⟨h1, h2⟩ := rkM_is hf k (by omega)
  have hv : ∀ i, i < xs.length → sq xs i = vF (bkS xs) i := fun i hi => by
    have h0 := hf
    unfold isF at h0
    rw [Bool.and_eq_true, decide_eq_true_eq] at h0
    have e := sq_form hi
    rw [h0.2] at e
    exact e
  obtain ⟨x0, x1, x2⟩ := rk_ix hf k hk
  by_cases h0 : 0 < bkS xs k
  · have hb : bkS xs k ≤ (k : Int) := by have := bk_le (sq xs) k; unfold bkS; omega
    have e := vF_back h0 hb
    have hlt : k - (bkS xs k).toNat < k := by omega
    rw [← hv k hk, ← hv _ (by omega)] at e
    have h3 := h2 _ hlt
    have h4 := (rk_ix hf (k - (bkS xs k).toNat) (by omega)).1
    omega
  · have e := hv k hk
    rw [vF_new h0] at e
    omega
theorem rk_less {xs : List Int} (hf : isF xs = true) : ∀ k, k ≤ xs.length → rkN xs k + endN (xs.length - k) (rkM xs k) ≤ endN xs.length 0
  | 0, _ => by show 0 + endN (xs.length - 0) 0 ≤ _; rw [Nat.sub_zero]; omega
  | k + 1, hk => by
    have ih := rk_less hf k (by omega)
    have hx := rkX_new hf k (by omega)
    obtain ⟨x0, x1, x2⟩ := rk_ix hf k (by omega)
    have e : xs.length - k = (xs.length - (k + 1)) + 1 := by omega
    rw [e] at ih
    have hE : endN (xs.length - (k + 1) + 1) (rkM xs k) = rkM xs k * endN (xs.length - (k + 1)) (rkM xs k) + endN (xs.length - (k + 1)) (rkM xs k + 1) := rfl
    rw [hE] at ih
    show rkN xs k + (rkX xs k - 1) * endN (xs.length - (k + 1)) (rkM xs k) + endN (xs.length - (k + 1)) (if rkM xs k > rkX xs k then rkM xs k else rkX xs k) ≤ _
    by_cases hle : rkX xs k ≤ rkM xs k
    · have e2 : (if rkM xs k > rkX xs k then rkM xs k else rkX xs k) = rkM xs k := by split <;> omega
      rw [e2]
      generalize endN (xs.length - (k + 1)) (rkM xs k) = a at ih ⊢
      obtain ⟨y, hy⟩ : ∃ y, rkX xs k = y + 1 := ⟨rkX xs k - 1, by omega⟩
      have h3 := Nat.mul_le_mul_right a hle
      rw [hy, Nat.succ_mul] at h3
      rw [hy, Nat.add_sub_cancel]
      omega
    · have e2 : (if rkM xs k > rkX xs k then rkM xs k else rkX xs k) = rkM xs k + 1 := by split <;> omega
      have e3 : rkX xs k - 1 = rkM xs k := by omega
      rw [e2, e3]
      omega
theorem rk_range {xs : List Int} (h : rkB xs = true) : 0 ≤ rkV xs ∧ rkV xs < ((endN xs.length 0 : Nat) : Int) := by
  have h0 := h
  unfold rkB at h0
  rw [Bool.and_eq_true] at h0
  have h1 := rk_less h0.1 xs.length (Nat.le_refl _)
  rw [Nat.sub_self] at h1
  have h2 : endN 0 (rkM xs xs.length) = 1 := rfl
  rw [h2] at h1
  unfold rkV
  rw [if_pos h]
  omega

/-! ### Eck -/
theorem eck_goes {ns : List Int} {K s : Nat} (hp : plL ns = true) (hs : s = if ns.length > K then K else ns.length) (h : ieB (upL (eckS ns) K) (s : Int) = true) : ieV (upL (eckS ns) K) (s : Int) = true := by
  obtain ⟨h1, _, _⟩ := plL_open hp
  unfold ieV
  rw [if_pos h]
  unfold ieB at h
  rw [Bool.and_eq_true, decide_eq_true_eq, upL_len] at h
  unfold ieE
  rw [decide_eq_true_eq]
  refine (ie_iff _ _ (by rw [upL_len]; omega)).2 fun j hj1 hj2 => ?_
  rw [upL_len] at hj2
  rw [upL_at hj2, eckS_out h1 (by split at hs <;> omega), nx_succ]
  unfold bkS
  congr 1
  exact (bk_congr j (fun i hi => by rw [sq_upL (by omega)])).symm
theorem eck_zeros (ns : List Int) (n : Int) (h1 : 1 < n) (h : ebB ns n 5000 = true) : ebB ns (n - 1) 5000 = true ∧ ezV ns n = ezV ns (n - 1) + (if enV ns n = 0 then 1 else 0) := by
  have h0 := h
  unfold ebB at h0
  rw [Bool.and_eq_true, decide_eq_true_eq] at h0
  have h2 : ebB ns (n - 1) 5000 = true := by unfold ebB; rw [h0.1, decide_eq_true (by omega)]; rfl
  refine ⟨h2, ?_⟩
  unfold ezV enV
  rw [if_pos h, if_pos h2, if_pos h]
  obtain ⟨m, hm⟩ : ∃ m : Nat, n = (m : Int) + 1 := ⟨(n - 1).toNat, by omega⟩
  subst hm
  rw [show ((m : Int) + 1).toNat = m + 1 by omega, show ((m : Int) + 1 - 1).toNat = m by omega, Nat.add_sub_cancel]
  show (((pls (eckS ns) 0 m ++ if eckS ns m = 0 then [((m : Int) + 1)] else []).length : Nat) : Int) = _
  by_cases e : eckS ns m = 0
  · rw [if_pos e, if_pos e]; simp
  · rw [if_neg e, if_neg e]; simp
theorem fstE_some (s : Nat → Int) (y : Int) : ∀ d i j, fstE s y i d = some j → s j = y ∧ i ≤ j ∧ j < i + d
  | 0, i, j, h => by cases h
  | d + 1, i, j, h => by
    unfold fstE at h
    split at h
    · rename_i e
      cases h
      exact ⟨e, Nat.le_refl _, by omega⟩
    · obtain ⟨q1, q2, q3⟩ := fstE_some s y d (i + 1) j h
      exact ⟨q1, by omega, by omega⟩
theorem eck_first {ns : List Int} {y : Int} {j : Nat} (h : efO ns y = some j) : ebB ns (efV (some j)) 5000 = true ∧ enV ns (efV (some j)) = y := by
  unfold efO at h
  split at h
  · rename_i h0
    rw [Bool.and_eq_true] at h0
    obtain ⟨q1, _, q3⟩ := fstE_some _ _ _ _ _ h
    have hb : ebB ns (efV (some j)) 5000 = true := by unfold ebB efV; rw [h0.1]; simp; omega
    refine ⟨hb, ?_⟩
    unfold enV
    rw [if_pos hb]
    show eckS ns (((j : Int) + 1).toNat - 1) = y
    rw [show ((j : Int) + 1).toNat - 1 = j by omega, q1]
  · cases h
theorem eck_last {ns : List Int} {K : Nat} (hp : plL ns = true) (h1 : 1 ≤ K) (h9 : K ≤ 5000) : ebB ns (K : Int) 5000 = true ∧ enV ns (K : Int) = eckS ns (K - 1) := by
  have hb : ebB ns (K : Int) 5000 = true := by unfold ebB; rw [hp, decide_eq_true (by omega)]; rfl
  exact ⟨hb, by unfold enV; rw [if_pos hb]; congr 1⟩
end Go.Proofs.Ytpglkgpaaflikaa
