/- CountSelfTold: the program's; the laws of AllSelfTold and CountSelfTold. -/
import Derived.Test.YtfkaghiopnaghabQ8
namespace Go.Proofs.Ytfkaghiopnaghab
open Go.RowKit Go.BigFrame
set_option linter.unusedSimpArgs false
set_option linter.unusedVariables false
set_option maxRecDepth 4000

set_option maxHeartbeats 1000000 in
theorem implCountSelfTold_any (w : World) (n : Int) : Calls Try.prog 28 #[.int .i64 n] w fun e w' => e = .returned (.tuple #[.int .i64 (cntO n), .bool (selfO n).isSome]) ∧ Below w.heap.size w w' := by
  have hA := fun W => implAllSelfTold_any W n
  obtain ⟨L, hL⟩ : ∃ L, L = ((selfO n).getD []).length := ⟨_, rfl⟩
  have hc : cntO n = (L : Int) := by unfold cntO; rw [hL]
  obtain ⟨y, hy⟩ : ∃ y, y = (selfO n).isSome := ⟨_, rfl⟩
  rw [hc, ← hy]
  unfold TellOk at hA
  rw [← hy] at hA
  have HA := Lib.hid hA; have HL := Lib.hid hL; clear hA hL hc hy
  go_enter Try.func28, Try.ntmps28
  go_wp2_with fail
  refine (HA.out _).mono ?_
  rintro e w2 ⟨v, vs, rfl, h3, hb, _⟩
  obtain ⟨q, c, hv⟩ := own_slice h3.outer
  rw [← h3.len, ← HL.out] at hv
  subst hv
  have HB := Lib.hid hb; clear h3 hb
  go_wp2_with fail
  go_ret2
  exact ⟨rfl, HB.out⟩

set_option maxHeartbeats 1000000 in
theorem law_CountSelfTold (n : Int) (w : World) : Calls Try.prog 7 #[.int .i64 n] w fun e w' => e = .returned (.bool true) ∧ Below w.heap.size w w' := by
  have hS := fun W => specCountSelfTold_any W n
  have hI := fun W => implCountSelfTold_any W n
  obtain ⟨c, hc⟩ : ∃ c, c = cntO n := ⟨_, rfl⟩
  obtain ⟨y, hy⟩ : ∃ y, y = (selfO n).isSome := ⟨_, rfl⟩
  rw [← hc, ← hy] at hS hI
  have e1 : (c != c) = false := by simp
  have e2 : (y != y) = false := by simp
  have HS := Lib.hid hS; have HI := Lib.hid hI; clear hS hI hc hy
  go_enter Try.func7, Try.ntmps7
  go_wp2_with fail
  refine (HS.out _).mono ?_
  rintro e w1 ⟨rfl, b1⟩
  have B1 := Lib.hid b1; clear b1
  go_wp2_with fail
  refine (HI.out _).mono ?_
  rintro e w2 ⟨rfl, b2⟩
  have B2 := Lib.hid (below_trans B1.out b2); clear b2
  go_wp2_with fail
  go_ret
  exact ⟨rfl, B2.out⟩

set_option maxRecDepth 100000 in
set_option maxHeartbeats 2000000 in
theorem law_AllSelfTold (n : Int) (w : World) : Calls Try.prog 8 #[.int .i64 n] w fun e w' => e = .returned (.bool true) ∧ Below w.heap.size w w' := by
  have hS := fun W => specAllSelfTold_any W n
  have hI := fun W => implAllSelfTold_any W n
  have hlen := (selfO_total n).1
  obtain ⟨ns, hns⟩ : ∃ ns, ns = (selfO n).getD [] := ⟨_, rfl⟩
  obtain ⟨y, hy⟩ : ∃ y, y = (selfO n).isSome := ⟨_, rfl⟩
  unfold TellOk at hS hI
  rw [← hns] at hlen
  rw [← hns, ← hy] at hS hI
  obtain ⟨tt, ht⟩ : ∃ tt, tt = 1 + totalSS ns := ⟨_, rfl⟩
  have ht2 : tt ≤ 450001 := by omega
  have ht1 : 1 ≤ tt := by omega
  have e1 : ((tt : Int) != (tt : Int)) = false := by simp
  have e2 : (y != y) = false := by simp
  have ht0 : ¬ ((tt : Int) < 0) := by omega
  have HS := Lib.hid hS; have HI := Lib.hid hI; have HTT := Lib.hid ht; have HLEN := Lib.hid hlen
  clear hS hI ht hlen hns hy
  go_enter Try.func8, Try.ntmps8
  go_wp2_with fail
  refine (HS.out w).mono ?_
  rintro e w1 ⟨v0, vs0, rfl, a1, b1, _⟩
  have A1 := Lib.hid a1; have B1 := Lib.hid b1; clear a1 b1
  go_wp2_with fail
  refine (HI.out w1).mono ?_
  rintro e w2 ⟨v1, vs1, rfl, a2, b2, _⟩
  have A2 := Lib.hid a2; have Z2 := Lib.hid (intsRA_below A1.out b2); have B2 := Lib.hid b2; clear a2 b2
  go_wp2_with fail
  refine (eqIntSA_same w2 _ _ v1 v0 _ _ ns A2.out Z2.out).mono ?_
  rintro e w3 ⟨rfl, b3⟩
  have A3 := Lib.hid (intsRA_below A2.out b3); have B3 := Lib.hid (B2.out.trans (b3.mono B2.out.size)); clear b3
  go_wp2_with fail
  refine (markIntSA_any w3 _ 1 v1 _ ns A3.out (by have := HLEN.out; omega)).mono ?_
  rintro e w4 ⟨rfl, a4, b4⟩
  rw [← HTT.out]
  have A4 := Lib.hid a4; have B4 := Lib.hid (B3.out.trans b4); clear a4 b4
  go_wp2_with fail
  refine (heldIntSA_any w4 _ 1 v1 _ ns A4.out (by have := HLEN.out; omega)).mono ?_
  rintro e w5 ⟨rfl, b5⟩
  rw [← HTT.out]
  have A5 := Lib.hid (intsRA_below A4.out b5); have B5 := Lib.hid (B4.out.trans (b5.mono B4.out.size)); clear b5
  go_wp2_with fail
  refine (HI.out w5).mono ?_
  rintro e w6 ⟨v2, vs2, rfl, a6, b6, _⟩
  have H6 := Lib.hid a6; have A6 := Lib.hid (intsRA_below A5.out b6); have B6 := Lib.hid (B5.out.trans (b6.mono B5.out.size)); clear a6 b6
  have Z6 := Lib.hid (intsRA_below A1.out B6.out)
  go_wp2_with fail
  refine (eqIntSA_same w6 _ _ v2 v0 _ _ ns H6.out Z6.out).mono ?_
  rintro e w7 ⟨rfl, b7⟩
  have A7 := Lib.hid (intsRA_below A6.out b7); have B7 := Lib.hid (B6.out.trans (b7.mono B6.out.size)); clear b7
  go_wp2_with fail
  refine (heldIntSA_any w7 _ 1 v1 _ ns A7.out (by have := HLEN.out; omega)).mono ?_
  rintro e w8 ⟨rfl, b8⟩
  rw [← HTT.out]
  have C8 := Lib.hid (below_trans B1.out (B7.out.trans (b8.mono B7.out.size))); clear b8
  go_wp2_with fail
  go_ret
  exact ⟨rfl, C8.out⟩
end Go.Proofs.Ytfkaghiopnaghab
