/- Chapter 6: the program's AllForms, and the law. -/
import Derived.Test.YtbjhalhahipjdabZ9
namespace Go.Proofs.Ytbjhalhahipjdab
open Go.RowKit Go.BigFrame Go.Maps
set_option linter.unusedSimpArgs false
set_option linter.unusedVariables false
set_option maxRecDepth 4000

theorem rr_first (w : World) : IntsRR (w.alloc (.cells #[.slice none 0 0] 22)) w.heap.size (.slice (some ⟨w.heap.size, 0, none⟩) 1 1) [.slice none 0 0] (allF 0) := by
  refine ⟨own_lit w w.heap.size 22 [.slice none 0 0] (Nat.le_refl _) (by simp [maxLen]), rfl, ?_, ?_, ?_⟩
  · intro i u xs h1 h2
    cases i with
    | zero => simp [allF] at h1 h2; subst h1; subst h2; exact World.ownsRow_nil _ _ _ _
    | succ i => simp at h1
  · intro i j u u' hij h1 h2
    cases i with
    | zero =>
      cases j with
      | zero => exact absurd rfl hij
      | succ j => simp at h2
    | succ i => simp at h1
  · intro i u h1
    cases i with
    | zero => simp at h1; subst h1; intro g h2 _; cases h2
    | succ i => simp at h1
theorem allF_pos : ∀ k, 1 ≤ (allF k).length
  | 0 => by simp [allF]
  | k + 1 => by
    have h := allF_pos k
    obtain ⟨b, r, hb⟩ : ∃ b r, allF k = b :: r := by
      cases e : allF k with
      | nil => rw [e] at h; simp at h
      | cons b r => exact ⟨b, r, rfl⟩
    show 1 ≤ ((allF k).flatMap exts).length
    rw [hb, List.flatMap_cons, List.length_append, exts_len]
    omega

set_option maxHeartbeats 2000000 in
theorem implAllForms_any (n : Int) (w : World) :
    Calls Try.prog 21 #[.int .i64 n] w fun e w' => RROk (afO n) w w' e := by
  cases hd : afB n with
  | false =>
    rw [show afO n = none by unfold afO; rw [hd]; rfl]
    have HD := Lib.hid hd; clear hd
    go_enter Try.func21, Try.ntmps21
    go_wp2_with fail
    refine (isWithin_is false _ _ _ _ HD.out).mono ?_
    rintro e w1 ⟨rfl, rfl⟩
    go_wp2_with fail
    go_ret2
    exact ⟨_, _, rfl, rr_nil0 _ _, Below.refl _ _⟩
  | true =>
    rw [show afO n = some (allF n.toNat) by unfold afO; rw [hd]; rfl]
    have hn := of_decide_eq_true hd
    obtain ⟨K, rfl⟩ := Int.eq_ofNat_of_zero_le (show 0 ≤ n by omega)
    rw [Int.toNat_natCast]
    have hK7 : K ≤ 7 := by omega
    have hstep := fun (k : Nat) (hk : k < K) (W : World) (v : Value) (vs : List Value) (h : IntsRR W w.heap.size v vs (allF k)) => longerForms_any W w.heap.size v vs (allF k) k h (fun b hb => allF_mx k b hb) (by omega) (allF_pos k) (allF_len k (by omega)) (allF_len (k + 1) (by omega))
    have HD := Lib.hid hd; have HS := Lib.hid hstep; clear hd hstep hn
    go_enter Try.func21, Try.ntmps21
    go_wp2_with fail
    refine (isWithin_is true _ _ _ _ HD.out).mono ?_
    rintro e w1 ⟨rfl, rfl⟩
    go_wp2_with fail
    go_loopw [4, 10] (fun fv iv wr => ∃ (k : Nat) (vs : List Value), k ≤ K ∧ iv = .int .i64 k ∧ Hid (IntsRR wr w.heap.size fv vs (allF k) ∧ Below w.heap.size w wr)) (fun _ iv _ => K - (intOf iv).toNat)
    case atStart => exact ⟨0, _, Nat.zero_le _, rfl, rr_first w, below_alloc _ _⟩
    case round =>
      obtain ⟨k, vs, hk, rfl, HX⟩ := hrel
      by_cases hlt : k < K
      · have hcall := HS.out k hlt wr _ vs HX.out.1
        have HC := Lib.hid hcall; clear hcall
        go_wp2_with fail
        refine HC.out.mono ?_
        rintro e w2 ⟨v2, vs2, rfl, ho, hb⟩
        have HO := Lib.hid (ownsRR_mono ho HX.out.2.size); have HB := Lib.hid (below_trans HX.out.2 hb); clear ho hb
        go_wp2_with fail
        go_roundw
        case rel => exact ⟨k + 1, vs2, by omega, by go_num, HO.out, HB.out⟩
        case measure => simp [intOf] <;> omega
      · obtain rfl : k = K := by omega
        go_wp2_with fail
        go_ret2
        exact ⟨_, vs, rfl, HX.out.1, HX.out.2⟩

set_option maxRecDepth 100000 in
set_option maxHeartbeats 1000000 in
theorem law_AllForms (n : Int) (w : World) : Calls Try.prog 7 #[.int .i64 n] w fun e w' => e = .returned (.bool true) ∧ Below w.heap.size w w' := by
  have hS := fun W => specAllForms_any n W
  have hI := fun W => implAllForms_any n W
  have hlen := afO_total n
  obtain ⟨ns, hns⟩ : ∃ ns, ns = (afO n).getD [] := ⟨_, rfl⟩
  obtain ⟨y, hy⟩ : ∃ y, y = (afO n).isSome := ⟨_, rfl⟩
  unfold RROk at hS hI
  rw [← hns] at hlen
  rw [← hns, ← hy] at hS hI
  obtain ⟨tt, ht⟩ : ∃ tt, tt = 1 + totalSS ns := ⟨_, rfl⟩
  have ht2 : tt ≤ 100001 := by omega
  have ht1 : 1 ≤ tt := by omega
  have e1 : ((tt : Int) != (tt : Int)) = false := by simp
  have e2 : (y != y) = false := by simp
  have ht0 : ¬ ((tt : Int) < 0) := by omega
  have HS := Lib.hid hS; have HI := Lib.hid hI; have HTT := Lib.hid ht; have HLEN := Lib.hid hlen
  clear hS hI ht hlen hns hy
  go_enter Try.func7, Try.ntmps7
  go_wp2_with fail
  refine (HS.out w).mono ?_
  rintro e w1 ⟨v0, vs0, rfl, a1, b1⟩
  have A1 := Lib.hid a1; have B1 := Lib.hid b1; clear a1 b1
  go_wp2_with fail
  refine (HI.out w1).mono ?_
  rintro e w2 ⟨v1, vs1, rfl, a2, b2⟩
  have A2 := Lib.hid a2; have Z2 := Lib.hid (ownsRR_below A1.out b2); have B2 := Lib.hid b2; clear a2 b2
  go_wp2_with fail
  refine (eqIntSS_same w2 _ _ v1 v0 _ _ ns A2.out Z2.out).mono ?_
  rintro e w3 ⟨rfl, b3⟩
  have A3 := Lib.hid (ownsRR_below A2.out b3); have B3 := Lib.hid (B2.out.trans (b3.mono B2.out.size)); clear b3
  go_wp2_with fail
  refine (markIntSS_any w3 _ 1 v1 _ ns A3.out (by have := HLEN.out; omega)).mono ?_
  rintro e w4 ⟨rfl, a4, b4⟩
  rw [← HTT.out]
  have A4 := Lib.hid a4; have B4 := Lib.hid (B3.out.trans b4); clear a4 b4
  go_wp2_with fail
  refine (heldIntSS_any w4 _ 1 v1 _ ns A4.out (by have := HLEN.out; omega)).mono ?_
  rintro e w5 ⟨rfl, b5⟩
  rw [← HTT.out]
  have A5 := Lib.hid (ownsRR_below A4.out b5); have B5 := Lib.hid (B4.out.trans (b5.mono B4.out.size)); clear b5
  go_wp2_with fail
  refine (HI.out w5).mono ?_
  rintro e w6 ⟨v2, vs2, rfl, a6, b6⟩
  have H6 := Lib.hid a6; have A6 := Lib.hid (ownsRR_below A5.out b6); have B6 := Lib.hid (B5.out.trans (b6.mono B5.out.size)); clear a6 b6
  have Z6 := Lib.hid (ownsRR_below A1.out B6.out)
  go_wp2_with fail
  refine (eqIntSS_same w6 _ _ v2 v0 _ _ ns H6.out Z6.out).mono ?_
  rintro e w7 ⟨rfl, b7⟩
  have A7 := Lib.hid (ownsRR_below A6.out b7); have B7 := Lib.hid (B6.out.trans (b7.mono B6.out.size)); clear b7
  go_wp2_with fail
  refine (heldIntSS_any w7 _ 1 v1 _ ns A7.out (by have := HLEN.out; omega)).mono ?_
  rintro e w8 ⟨rfl, b8⟩
  rw [← HTT.out]
  have C8 := Lib.hid (below_trans B1.out (B7.out.trans (b8.mono B7.out.size))); clear b8
  go_wp2_with fail
  go_ret
  exact ⟨rfl, C8.out⟩
end Go.Proofs.Ytbjhalhahipjdab
