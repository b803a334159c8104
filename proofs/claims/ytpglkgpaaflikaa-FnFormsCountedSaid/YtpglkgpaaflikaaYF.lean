/- Chapter 6: CountForms and RankOfForm on both sides, and their laws. -/
import Derived.Test.YtpglkgpaaflikaaYC
import Derived.Test.YtpglkgpaaflikaaYE
namespace Go.Proofs.Ytpglkgpaaflikaa
open Go.RowKit Go.BigFrame Go.Maps
set_option linter.unusedSimpArgs false
set_option linter.unusedVariables false
set_option maxRecDepth 4000

def cfB (n : Int) : Bool := decide (0 ≤ n ∧ n ≤ 20)
def cfV (n : Int) : Int := if cfB n = true then ((endN n.toNat 0 : Nat) : Int) else 0

set_option maxHeartbeats 1000000 in
theorem specCountForms_any (n : Int) (w : World) :
    Calls Try.prog 33 #[.int .i64 n] w fun e w' => e = .returned (.tuple #[.int .i64 (cfV n), .bool (cfB n)]) ∧ Below w.heap.size w w' := by
  cases hd : cfB n with
  | false =>
    rw [show cfV n = 0 by unfold cfV; rw [hd]; rfl]
    have HD := Lib.hid hd; clear hd
    go_enter Try.func33, Try.ntmps33
    go_wp2_with fail
    refine (l1In_is false _ _ _ _ HD.out).mono ?_
    rintro e w1 ⟨rfl, rfl⟩
    go_wp2_with fail
    go_ret2
    exact ⟨rfl, Below.refl _ _⟩
  | true =>
    rw [show cfV n = ((endN n.toNat 0 : Nat) : Int) by unfold cfV; rw [hd]; rfl]
    have hn := of_decide_eq_true hd
    obtain ⟨K, rfl⟩ := Int.eq_ofNat_of_zero_le hn.1
    rw [Int.toNat_natCast]
    have hG := plGo_any w 0 K (by omega)
    have HD := Lib.hid hd; have HG := Lib.hid hG; clear hd hG hn
    go_enter Try.func33, Try.ntmps33
    go_wp2_with fail
    refine (l1In_is true _ _ _ _ HD.out).mono ?_
    rintro e w1 ⟨rfl, rfl⟩
    go_wp2_with fail
    refine HG.out.mono ?_
    rintro e w1 ⟨rfl, hb⟩
    have HB := Lib.hid hb; clear hb
    go_wp2_with fail
    go_ret2
    exact ⟨rfl, HB.out⟩

set_option maxHeartbeats 1000000 in
theorem implCountForms_any (n : Int) (w : World) :
    Calls Try.prog 32 #[.int .i64 n] w fun e w' => e = .returned (.tuple #[.int .i64 (cfV n), .bool (cfB n)]) ∧ Below w.heap.size w w' := by
  cases hd : cfB n with
  | false =>
    rw [show cfV n = 0 by unfold cfV; rw [hd]; rfl]
    have HD := Lib.hid hd; clear hd
    go_enter Try.func32, Try.ntmps32
    go_wp2_with fail
    refine (isWithin_is false _ _ _ _ HD.out).mono ?_
    rintro e w1 ⟨rfl, rfl⟩
    go_wp2_with fail
    go_ret2
    exact ⟨rfl, Below.refl _ _⟩
  | true =>
    rw [show cfV n = ((endN n.toNat 0 : Nat) : Int) by unfold cfV; rw [hd]; rfl]
    have hn := of_decide_eq_true hd
    obtain ⟨K, rfl⟩ := Int.eq_ofNat_of_zero_le hn.1
    rw [Int.toNat_natCast]
    have hG := countEndings_any w K 0 (by omega)
    have HD := Lib.hid hd; have HG := Lib.hid hG; clear hd hG hn
    go_enter Try.func32, Try.ntmps32
    go_wp2_with fail
    refine (isWithin_is true _ _ _ _ HD.out).mono ?_
    rintro e w1 ⟨rfl, rfl⟩
    go_wp2_with fail
    refine HG.out.mono ?_
    rintro e w1 ⟨rfl, hb⟩
    have HB := Lib.hid hb; clear hb
    go_wp2_with fail
    go_ret2
    exact ⟨rfl, HB.out⟩

/-! ### Ranks -/
theorem fmS_ix {d : Nat → Int} : ∀ k, okD d k → ∀ i, i < k → 1 ≤ (fmS d k).1.getD i 0 ∧ (fmS d k).1.getD i 0 ≤ (i : Int) + 1
  | 0, _ => fun i h => by omega
  | k + 1, h => by
    have ih := fmS_ix k (fun i hi => h i (Nat.lt_succ_of_lt hi))
    have hk := h k (Nat.lt_succ_self k)
    have hm := fmS_most d k
    have hl := fmS_len d k
    intro i hi
    have snoc : ∀ y : Int, ((fmS d k).1 ++ [y]).getD i 0 = if i = k then y else (fmS d k).1.getD i 0 := fun y => by
      rw [List.getD_eq_getElem?_getD, List.getD_eq_getElem?_getD]
      by_cases e : i = k
      · subst e; rw [if_pos rfl, List.getElem?_append_right (by omega), hl]; simp
      · rw [if_neg e, List.getElem?_append_left (by omega)]
    unfold fmS
    split
    · rename_i h0
      show 1 ≤ ((fmS d k).1 ++ [_]).getD i 0 ∧ ((fmS d k).1 ++ [_]).getD i 0 ≤ (i : Int) + 1
      rw [snoc]
      split
      · rename_i e
        have := ih (k - (d k).toNat) (by omega)
        omega
      · exact ih i (by omega)
    · show 1 ≤ ((fmS d k).1 ++ [_]).getD i 0 ∧ ((fmS d k).1 ++ [_]).getD i 0 ≤ (i : Int) + 1
      rw [snoc]
      split
      · omega
      · exact ih i (by omega)
def rkB (xs : List Int) : Bool := isF xs && decide (xs.length ≤ 20)
def rkX (xs : List Int) (k : Nat) : Nat := (sq xs k).toNat
def rkM (xs : List Int) : Nat → Nat
  | 0 => 0
  | k + 1 => if rkM xs k > rkX xs k then rkM xs k else rkX xs k
def rkN (xs : List Int) : Nat → Nat
  | 0 => 0
  | k + 1 => rkN xs k + (rkX xs k - 1) * endN (xs.length - (k + 1)) (rkM xs k)
def rkV (xs : List Int) : Int := if rkB xs = true then ((rkN xs xs.length : Nat) : Int) else 0
theorem rk_ix {xs : List Int} (h : isF xs = true) (k : Nat) (hk : k < xs.length) : sq xs k = (rkX xs k : Nat) ∧ 1 ≤ rkX xs k ∧ rkX xs k ≤ k + 1 := by
  unfold isF at h
  rw [Bool.and_eq_true, decide_eq_true_eq] at h
  have h1 := fmS_ix (d := sq (bkL xs)) xs.length (okD_bk xs) k hk
  have h2 : sq xs k = (fmS (sq (bkL xs)) xs.length).1.getD k 0 := by
    have := congrArg (fun l => l.getD k 0) h.2
    unfold fmL at this
    rw [bkL_len] at this
    exact this.symm
  rw [← h2] at h1
  unfold rkX
  omega
theorem rkM_le {xs : List Int} (h : isF xs = true) : ∀ k, k ≤ xs.length → rkM xs k ≤ k
  | 0, _ => Nat.le_refl _
  | k + 1, hk => by
    have := rkM_le h k (by omega)
    have h2 := rk_ix h k (by omega)
    unfold rkM
    split <;> omega
theorem rkN_step {xs : List Int} (h : isF xs = true) (h20 : xs.length ≤ 20) (k : Nat) (hk : k < xs.length) : (rkX xs k - 1) * endN (xs.length - (k + 1)) (rkM xs k) ≤ 19 * 474869816156751 := by
  have h2 := rk_ix h k hk
  have h3 := rkM_le h k (by omega)
  exact Nat.mul_le_mul (by omega) (endN_le (by omega))
theorem rkN_le {xs : List Int} (h : isF xs = true) (h20 : xs.length ≤ 20) : ∀ k, k ≤ xs.length → rkN xs k ≤ k * (19 * 474869816156751)
  | 0, _ => by simp [rkN]
  | k + 1, hk => by
    have h1 := rkN_le h h20 k (by omega)
    have h2 := rkN_step h h20 k (by omega)
    show rkN xs k + _ ≤ _
    omega

set_option maxHeartbeats 4000000 in
theorem specRank_true (w : World) (B : Nat) (v : Value) (xs : List Int) (ha : IntsA w B v xs) (hf : isF xs = true) (h20 : xs.length ≤ 20) :
    Calls Try.prog 36 #[v] w fun e w' => e = .returned (.tuple #[.int .i64 (rkV xs), .bool (rkB xs)]) ∧ Below w.heap.size w w' := by
  have hB : rkB xs = true := by unfold rkB; rw [hf, decide_eq_true h20]; rfl
  have hV : rkV xs = ((rkN xs xs.length : Nat) : Int) := by unfold rkV; rw [hB]; rfl
  rw [hB, hV]
  have hL := plGood_any w B v xs ha
  have ht : plL xs = true := by unfold isF at hf; rw [Bool.and_eq_true] at hf; exact hf.1
  rw [ht] at hL
  have hI := plIs_any w B v xs ha ht
  rw [hf] at hI
  obtain ⟨h1, h60, _⟩ := plL_open ht
  have hix := fun k hk => rk_ix hf k hk
  have hml := fun k hk => rkM_le hf k hk
  have hns := fun k hk => rkN_step hf h20 k hk
  have hnl := fun k hk => rkN_le hf h20 k hk
  obtain ⟨g, cap, hv, hc1, hc2, _, hg, hce⟩ := intsA_at ha h1
  obtain ⟨N, hN⟩ : ∃ N, N = xs.length := ⟨_, rfl⟩
  have HN := Lib.hid hN
  rw [← hN] at hv h1 h60 hc1 h20 hix hml hns hnl
  subst hv
  have HL := Lib.hid hL; have HI := Lib.hid hI
  have HC := Lib.hid hce; have HIX := Lib.hid hix; have HML := Lib.hid hml; have HNS := Lib.hid hns; have HNL := Lib.hid hnl
  clear ha hce hix hml hns hnl hN hB hV ht hf hL hI
  go_enter Try.func36, Try.ntmps36
  go_wp2_with fail
  refine HL.out.mono ?_
  rintro e w1 ⟨rfl, rfl⟩
  go_wp2_with fail
  refine HI.out.mono ?_
  rintro e w1 ⟨rfl, hb⟩
  have HB := Lib.hid hb; clear hb
  go_wp2_with fail
  go_loopw [4, 5, 23] (fun rv mv iv wr => ∃ (k q m : Nat), k ≤ N ∧ m ≤ k ∧ q ≤ k * (19 * 474869816156751) ∧ iv = .int .i64 k ∧ rv = .int .i64 q ∧ mv = .int .i64 m ∧ Hid (q = rkN xs k ∧ m = rkM xs k) ∧ Hid (Below w.heap.size w wr)) (fun _ _ iv _ => N - (intOf iv).toNat)
  case atStart => exact ⟨0, 0, 0, Nat.zero_le _, Nat.le_refl _, by omega, rfl, rfl, rfl, Lib.hid ⟨rfl, rfl⟩, HB⟩
  case round =>
    obtain ⟨k, q, m, hk, hmk, hq, rfl, rfl, rfl, HX, HW⟩ := hrel
    by_cases hlt : k < N
    · have hk' : k < xs.length := by rw [← HN.out]; exact hlt
      obtain ⟨x0, x1, x2⟩ := HIX.out k hlt
      have h2 : wr.cell? ⟨g, k, none⟩ = some (.int .i64 ((rkX xs k : Nat) : Int)) := by
        rw [← x0, sq_at hk']
        exact (HW.out.cell (p := ⟨g, k, none⟩) hg).trans (HC.out k hk')
      obtain ⟨lf, hlf⟩ : ∃ lf, lf = N - (k + 1) := ⟨_, rfl⟩
      have hsN : rkN xs (k + 1) = q + (rkX xs k - 1) * endN lf m := by rw [hlf, HX.out.1, HX.out.2, HN.out]; rfl
      have hsM : rkM xs (k + 1) = if m > rkX xs k then m else rkX xs k := by rw [HX.out.2]; rfl
      have hst := HNS.out k hlt
      rw [← HX.out.2, ← hlf] at hst
      have hG := fun W => plGo_any W m lf (by omega)
      obtain ⟨X, hX⟩ : ∃ X, X = rkX xs k := ⟨_, rfl⟩
      rw [← hX] at h2 x1 x2 hsN hsM hst
      obtain ⟨y, hy⟩ : ∃ y, y = X - 1 := ⟨_, rfl⟩
      obtain ⟨E, hE⟩ : ∃ E, E = endN lf m := ⟨_, rfl⟩
      rw [← hE] at hG hsN hst
      rw [← hy] at hsN hst
      obtain ⟨t, htt⟩ : ∃ t, t = y * E := ⟨_, rfl⟩
      rw [← htt] at hsN hst
      have ey : (X : Int) - 1 = (y : Int) := by omega
      have hmul : (y : Int) * (E : Int) = (t : Int) := by rw [htt]; simp
      have hq9 : q ≤ 19 * (19 * 474869816156751) := Nat.le_trans hq (Nat.mul_le_mul_right _ (by omega))
      have hqn : q + t ≤ (k + 1) * (19 * 474869816156751) := by rw [Nat.succ_mul]; omega
      have e1 : (N : Int) - 1 = ((N - 1 : Nat) : Int) := by omega
      have e2 : ((N - 1 : Nat) : Int) - (k : Int) = (lf : Int) := by omega
      obtain ⟨N1, hN1⟩ : ∃ N1, N1 = N - 1 := ⟨_, rfl⟩
      rw [← hN1] at e1 e2
      clear hN1
      have HG := Lib.hid hG; have HSN := Lib.hid hsN; have HSM := Lib.hid hsM; have HQN := Lib.hid hqn
      clear x0 hlf hX hE hy htt hG hsN hsM hqn hq
      by_cases hmx : m > X
      · have hsm := HSM.out
        rw [if_pos hmx] at hsm
        have HSM2 := Lib.hid hsm
        clear hsm
        go_wp2_with fail
        refine (HG.out _).mono ?_
        rintro e w2 ⟨rfl, hb2⟩
        have HB2 := Lib.hid (below_trans HW.out hb2); clear hb2
        go_wp2_with fail
        refine (l1Most_any w2 (m : Int) (X : Int)).mono ?_
        rintro e w3 ⟨rfl, rfl⟩
        have HB3 := HB2
        go_wp2_with fail
        go_roundw
        case rel => exact ⟨k + 1, q + t, m, by omega, by omega, HQN.out, by go_num, by go_num, rfl, Lib.hid ⟨HSN.out.symm, HSM2.out.symm⟩, HB3⟩
        case measure => simp [intOf] <;> omega
      · have hsm := HSM.out
        rw [if_neg hmx] at hsm
        have HSM2 := Lib.hid hsm
        clear hsm
        go_wp2_with fail
        refine (HG.out _).mono ?_
        rintro e w2 ⟨rfl, hb2⟩
        have HB2 := Lib.hid (below_trans HW.out hb2); clear hb2
        go_wp2_with fail
        refine (l1Most_any w2 (m : Int) (X : Int)).mono ?_
        rintro e w3 ⟨rfl, rfl⟩
        have HB3 := HB2
        go_wp2_with fail
        go_roundw
        case rel => exact ⟨k + 1, q + t, X, by omega, by omega, HQN.out, by go_num, by go_num, by first | rfl | (congr 1; split <;> omega), Lib.hid ⟨HSN.out.symm, HSM2.out.symm⟩, HB3⟩
        case measure => simp [intOf] <;> omega
    · obtain rfl : k = N := by omega
      go_wp2_with fail
      go_ret2
      exact ⟨by rw [HX.out.1, HN.out]; rfl, HW.out⟩

set_option maxHeartbeats 2000000 in
theorem specRankOfForm_any (w : World) (B : Nat) (v : Value) (xs : List Int) (ha : IntsA w B v xs) :
    Calls Try.prog 36 #[v] w fun e w' => e = .returned (.tuple #[.int .i64 (rkV xs), .bool (rkB xs)]) ∧ Below w.heap.size w w' := by
  have hL := plGood_any w B v xs ha
  cases ht0 : plL xs with
  | false =>
    rw [ht0] at hL
    have hf : isF xs = false := by unfold isF; rw [ht0]; rfl
    have hB : rkB xs = false := by unfold rkB; rw [hf]; rfl
    rw [hB, show rkV xs = 0 by unfold rkV; rw [hB]; rfl]
    obtain ⟨a, cap, rfl, _, _⟩ := intsA_slice ha
    have HL := Lib.hid hL; clear hL ha ht0 hf hB
    go_enter Try.func36, Try.ntmps36
    go_wp2_with fail
    refine HL.out.mono ?_
    rintro e w1 ⟨rfl, rfl⟩
    go_wp2_with fail
    go_ret2
    exact ⟨rfl, Below.refl _ _⟩
  | true =>
    rw [ht0] at hL
    have hI := plIs_any w B v xs ha ht0
    by_cases h20 : xs.length ≤ 20
    · cases hf : isF xs with
      | false =>
        rw [hf] at hI
        have hB : rkB xs = false := by unfold rkB; rw [hf]; rfl
        rw [hB, show rkV xs = 0 by unfold rkV; rw [hB]; rfl]
        obtain ⟨a, cap, hv, _, _⟩ := intsA_slice ha
        obtain ⟨N, hN⟩ : ∃ N, N = xs.length := ⟨_, rfl⟩
        rw [← hN] at hv h20
        subst hv
        have HL := Lib.hid hL; have HI := Lib.hid hI; clear hL ha ht0 hf hB hI hN
        go_enter Try.func36, Try.ntmps36
        go_wp2_with fail
        refine HL.out.mono ?_
        rintro e w1 ⟨rfl, rfl⟩
        go_wp2_with fail
        refine HI.out.mono ?_
        rintro e w1 ⟨rfl, hb⟩
        have HB := Lib.hid hb; clear hb
        go_wp2_with fail
        go_ret2
        exact ⟨rfl, HB.out⟩
      | true => exact specRank_true w B v xs ha hf h20
    · have hB : rkB xs = false := by unfold rkB; rw [decide_eq_false h20, Bool.and_false]
      rw [hB, show rkV xs = 0 by unfold rkV; rw [hB]; rfl]
      obtain ⟨a, cap, hv, _, _⟩ := intsA_slice ha
      obtain ⟨N, hN⟩ : ∃ N, N = xs.length := ⟨_, rfl⟩
      rw [← hN] at hv h20
      subst hv
      have HL := Lib.hid hL; clear hL ha ht0 hB hI hN
      go_enter Try.func36, Try.ntmps36
      go_wp2_with fail
      refine HL.out.mono ?_
      rintro e w1 ⟨rfl, rfl⟩
      go_wp2_with fail
      go_ret2
      exact ⟨rfl, Below.refl _ _⟩

set_option maxHeartbeats 4000000 in
theorem implRank_true (w : World) (B : Nat) (v : Value) (xs : List Int) (ha : IntsA w B v xs) (hf : isF xs = true) (h20 : xs.length ≤ 20) :
    Calls Try.prog 35 #[v] w fun e w' => e = .returned (.tuple #[.int .i64 (rkV xs), .bool (rkB xs)]) ∧ Below w.heap.size w w' := by
  have hB : rkB xs = true := by unfold rkB; rw [hf, decide_eq_true h20]; rfl
  have hV : rkV xs = ((rkN xs xs.length : Nat) : Int) := by unfold rkV; rw [hB]; rfl
  rw [hB, hV]
  have ht : plL xs = true := by unfold isF at hf; rw [Bool.and_eq_true] at hf; exact hf.1
  have hI := implIsForm_any w B v xs ha
  rw [hf, ht] at hI
  obtain ⟨h1, h60, _⟩ := plL_open ht
  have hix := fun k hk => rk_ix hf k hk
  have hml := fun k hk => rkM_le hf k hk
  have hns := fun k hk => rkN_step hf h20 k hk
  have hnl := fun k hk => rkN_le hf h20 k hk
  obtain ⟨g, cap, hv, hc1, hc2, _, hg, hce⟩ := intsA_at ha h1
  obtain ⟨N, hN⟩ : ∃ N, N = xs.length := ⟨_, rfl⟩
  have HN := Lib.hid hN
  rw [← hN] at hv h1 h60 hc1 h20 hix hml hns hnl
  subst hv
  have HI := Lib.hid hI
  have HC := Lib.hid hce; have HIX := Lib.hid hix; have HML := Lib.hid hml; have HNS := Lib.hid hns; have HNL := Lib.hid hnl
  clear ha hce hix hml hns hnl hN hB hV ht hf hI
  go_enter Try.func35, Try.ntmps35
  go_wp2_with fail
  refine HI.out.mono ?_
  rintro e w1 ⟨rfl, hb⟩
  have HB := Lib.hid hb; clear hb
  go_wp2_with fail
  go_loopw [6, 7, 24] (fun rv mv iv wr => ∃ (k q m : Nat), k ≤ N ∧ m ≤ k ∧ q ≤ k * (19 * 474869816156751) ∧ iv = .int .i64 k ∧ rv = .int .i64 q ∧ mv = .int .i64 m ∧ Hid (q = rkN xs k ∧ m = rkM xs k) ∧ Hid (Below w.heap.size w wr)) (fun _ _ iv _ => N - (intOf iv).toNat)
  case atStart => exact ⟨0, 0, 0, Nat.zero_le _, Nat.le_refl _, by omega, rfl, rfl, rfl, Lib.hid ⟨rfl, rfl⟩, HB⟩
  case round =>
    obtain ⟨k, q, m, hk, hmk, hq, rfl, rfl, rfl, HX, HW⟩ := hrel
    by_cases hlt : k < N
    · have hk' : k < xs.length := by rw [← HN.out]; exact hlt
      obtain ⟨x0, x1, x2⟩ := HIX.out k hlt
      have h2 : wr.cell? ⟨g, k, none⟩ = some (.int .i64 ((rkX xs k : Nat) : Int)) := by
        rw [← x0, sq_at hk']
        exact (HW.out.cell (p := ⟨g, k, none⟩) hg).trans (HC.out k hk')
      obtain ⟨lf, hlf⟩ : ∃ lf, lf = N - (k + 1) := ⟨_, rfl⟩
      have hsN : rkN xs (k + 1) = q + (rkX xs k - 1) * endN lf m := by rw [hlf, HX.out.1, HX.out.2, HN.out]; rfl
      have hsM : rkM xs (k + 1) = if m > rkX xs k then m else rkX xs k := by rw [HX.out.2]; rfl
      have hst := HNS.out k hlt
      rw [← HX.out.2, ← hlf] at hst
      have hG := fun W => countEndings_any W lf m (by omega)
      obtain ⟨X, hX⟩ : ∃ X, X = rkX xs k := ⟨_, rfl⟩
      rw [← hX] at h2 x1 x2 hsN hsM hst
      obtain ⟨y, hy⟩ : ∃ y, y = X - 1 := ⟨_, rfl⟩
      obtain ⟨E, hE⟩ : ∃ E, E = endN lf m := ⟨_, rfl⟩
      rw [← hE] at hG hsN hst
      rw [← hy] at hsN hst
      obtain ⟨t, htt⟩ : ∃ t, t = y * E := ⟨_, rfl⟩
      rw [← htt] at hsN hst
      have ey : (X : Int) - 1 = (y : Int) := by omega
      have hmul : (y : Int) * (E : Int) = (t : Int) := by rw [htt]; simp
      have hq9 : q ≤ 19 * (19 * 474869816156751) := Nat.le_trans hq (Nat.mul_le_mul_right _ (by omega))
      have hqn : q + t ≤ (k + 1) * (19 * 474869816156751) := by rw [Nat.succ_mul]; omega
      obtain ⟨u0, hu0⟩ : ∃ u0, u0 = N - k := ⟨_, rfl⟩
      have e1 : (N : Int) - (k : Int) = (u0 : Int) := by omega
      have e2 : (u0 : Int) - 1 = (lf : Int) := by omega
      clear hu0
      have HG := Lib.hid hG; have HSN := Lib.hid hsN; have HSM := Lib.hid hsM; have HQN := Lib.hid hqn
      clear x0 hlf hX hE hy htt hG hsN hsM hqn hq
      by_cases hmx : m > X
      · have hsm := HSM.out
        rw [if_pos hmx] at hsm
        have HSM2 := Lib.hid hsm
        clear hsm
        go_wp2_with fail
        refine (HG.out _).mono ?_
        rintro e w2 ⟨rfl, hb2⟩
        have HB3 := Lib.hid (below_trans HW.out hb2); clear hb2
        go_wp2_with fail
        go_roundw
        case rel => exact ⟨k + 1, q + t, m, by omega, by omega, HQN.out, by go_num, by go_num, rfl, Lib.hid ⟨HSN.out.symm, HSM2.out.symm⟩, HB3⟩
        case measure => simp [intOf] <;> omega
      · have hsm := HSM.out
        rw [if_neg hmx] at hsm
        have HSM2 := Lib.hid hsm
        clear hsm
        go_wp2_with fail
        refine (HG.out _).mono ?_
        rintro e w2 ⟨rfl, hb2⟩
        have HB3 := Lib.hid (below_trans HW.out hb2); clear hb2
        go_wp2_with fail
        go_roundw
        case rel => exact ⟨k + 1, q + t, X, by omega, by omega, HQN.out, by go_num, by go_num, by first | rfl | (congr 1; split <;> omega), Lib.hid ⟨HSN.out.symm, HSM2.out.symm⟩, HB3⟩
        case measure => simp [intOf] <;> omega
    · obtain rfl : k = N := by omega
      go_wp2_with fail
      go_ret2
      exact ⟨by rw [HX.out.1, HN.out]; rfl, HW.out⟩

set_option maxHeartbeats 2000000 in
theorem implRankOfForm_any (w : World) (B : Nat) (v : Value) (xs : List Int) (ha : IntsA w B v xs) :
    Calls Try.prog 35 #[v] w fun e w' => e = .returned (.tuple #[.int .i64 (rkV xs), .bool (rkB xs)]) ∧ Below w.heap.size w w' := by
  have hI := implIsForm_any w B v xs ha
  cases hf : isF xs with
  | false =>
    rw [hf] at hI
    have hB : rkB xs = false := by unfold rkB; rw [hf]; rfl
    rw [hB, show rkV xs = 0 by unfold rkV; rw [hB]; rfl]
    obtain ⟨y, hy⟩ : ∃ y, y = plL xs := ⟨_, rfl⟩
    rw [← hy] at hI
    obtain ⟨a, cap, rfl, _, _⟩ := intsA_slice ha
    have HI := Lib.hid hI; clear ha hf hB hI hy
    go_enter Try.func35, Try.ntmps35
    go_wp2_with fail
    refine HI.out.mono ?_
    rintro e w1 ⟨rfl, hb⟩
    have HB := Lib.hid hb; clear hb
    go_wp2_with fail
    go_ret2
    exact ⟨rfl, HB.out⟩
  | true =>
    rw [hf] at hI
    by_cases h20 : xs.length ≤ 20
    · exact implRank_true w B v xs ha hf h20
    · have hB : rkB xs = false := by unfold rkB; rw [decide_eq_false h20, Bool.and_false]
      rw [hB, show rkV xs = 0 by unfold rkV; rw [hB]; rfl]
      obtain ⟨y, hy⟩ : ∃ y, y = plL xs := ⟨_, rfl⟩
      rw [← hy] at hI
      obtain ⟨a, cap, hv, _, _⟩ := intsA_slice ha
      obtain ⟨N, hN⟩ : ∃ N, N = xs.length := ⟨_, rfl⟩
      rw [← hN] at hv h20
      subst hv
      have HI := Lib.hid hI; clear ha hf hB hI hy hN
      go_enter Try.func35, Try.ntmps35
      go_wp2_with fail
      refine HI.out.mono ?_
      rintro e w1 ⟨rfl, hb⟩
      have HB := Lib.hid hb; clear hb
      go_wp2_with fail
      go_ret2
      exact ⟨rfl, HB.out⟩

end Go.Proofs.Ytpglkgpaaflikaa
