/- Chapter 6: DistancesBack on both sides, and the law. -/
import Derived.Test.YtbjhalhahipjdaaY3
namespace Go.Proofs.Ytbjhalhahipjdaa
open Go.RowKit Go.BigFrame Go.Maps
set_option linter.unusedSimpArgs false
set_option linter.unusedVariables false
set_option maxRecDepth 4000

def dbO (xs : List Int) : Option (List Int) := if plL xs = true then some (bkL xs) else none
theorem dbO_len (xs : List Int) : ((dbO xs).getD []).length ≤ 60 := by
  unfold dbO
  split
  · rename_i h; simp only [Option.getD_some, bkL_len]; exact (plL_open h).2.1
  · simp

set_option maxHeartbeats 1000000 in
theorem specDistancesBack_any (w : World) (B : Nat) (v : Value) (xs : List Int) (ha : IntsA w B v xs) :
    Calls Try.prog 15 #[v] w fun e w' => IntsAOk (dbO xs) w w' e := by
  have hL := plGood_any w B v xs ha
  cases ht : plL xs with
  | false =>
    rw [ht] at hL
    rw [show dbO xs = none by unfold dbO; rw [ht]; rfl]
    obtain ⟨a, cap, rfl, _, _⟩ := intsA_slice ha
    have HL := Lib.hid hL; clear hL ha ht
    go_enter Try.func15, Try.ntmps15
    go_wp2_with fail
    refine HL.out.mono ?_
    rintro e w1 ⟨rfl, rfl⟩
    go_wp2_with fail
    go_ret2
    exact ⟨_, rfl, intsA_nil _ _, Below.refl _ _, fun _ => rfl⟩
  | true =>
    rw [ht] at hL
    rw [show dbO xs = some (bkL xs) by unfold dbO; rw [ht]; rfl]
    obtain ⟨h1, h60, _⟩ := plL_open ht
    have hB := plBacks_any w B v xs ha h1 (by omega)
    obtain ⟨a, cap, rfl, _, _⟩ := intsA_slice ha
    have HL := Lib.hid hL; have HB := Lib.hid hB; clear hL ha ht hB
    go_enter Try.func15, Try.ntmps15
    go_wp2_with fail
    refine HL.out.mono ?_
    rintro e w1 ⟨rfl, rfl⟩
    go_wp2_with fail
    refine HB.out.mono ?_
    rintro e w1 ⟨u, rfl, ho, hb⟩
    go_wp2_with fail
    go_ret2
    exact ⟨_, rfl, intsA_of ho, hb, fun h => by cases h⟩

set_option maxHeartbeats 1000000 in
theorem implDistancesBack_any (w : World) (B : Nat) (v : Value) (xs : List Int) (ha : IntsA w B v xs) :
    Calls Try.prog 17 #[v] w fun e w' => IntsAOk (dbO xs) w w' e := by
  have hL := isPlaceList_any w B v xs ha
  cases ht : plL xs with
  | false =>
    rw [ht] at hL
    rw [show dbO xs = none by unfold dbO; rw [ht]; rfl]
    obtain ⟨a, cap, rfl, _, _⟩ := intsA_slice ha
    have HL := Lib.hid hL; clear hL ha ht
    go_enter Try.func17, Try.ntmps17
    go_wp2_with fail
    refine HL.out.mono ?_
    rintro e w1 ⟨rfl, rfl⟩
    go_wp2_with fail
    go_ret2
    exact ⟨_, rfl, intsA_nil _ _, Below.refl _ _, fun _ => rfl⟩
  | true =>
    rw [ht] at hL
    rw [show dbO xs = some (bkL xs) by unfold dbO; rw [ht]; rfl]
    have hB := distancesBack_any w B v xs ha ht
    obtain ⟨a, cap, rfl, _, _⟩ := intsA_slice ha
    have HL := Lib.hid hL; have HB := Lib.hid hB; clear hL ha ht hB
    go_enter Try.func17, Try.ntmps17
    go_wp2_with fail
    refine HL.out.mono ?_
    rintro e w1 ⟨rfl, rfl⟩
    go_wp2_with fail
    refine HB.out.mono ?_
    rintro e w1 ⟨rfl, ho, hb⟩
    go_wp2_with fail
    go_ret2
    exact ⟨_, rfl, intsA_of ho, hb, fun h => by cases h⟩

set_option maxRecDepth 100000 in
set_option maxHeartbeats 1000000 in
theorem law_DistancesBack (v : Value) (xs : List Int) (w : World) (h : ArgL w v xs) :
    Calls Try.prog 3 #[v] w fun e w' => e = .returned (.bool true) ∧ Below w.heap.size w w' := by
  obtain ⟨A, C, hv, hC1, hC2, hce⟩ := h
  by_cases hb : 1048576 < xs.length
  · obtain ⟨N, hN⟩ : ∃ N, N = xs.length := ⟨_, rfl⟩
    rw [← hN] at hv hb hC1
    subst hv
    clear hce hN
    go_enter Try.func3, Try.ntmps3
    go_wp2_with fail
    go_ret
    exact ⟨rfl, Below.refl _ _⟩
  · have hn : xs.length ≤ 1048576 := by omega
    have h : ArgL w v xs := ⟨A, C, hv, hC1, hC2, hce⟩
    have hto := fun (W : World) (hbW : Below w.heap.size w W) => toIntL_any W v xs (argL_below h hbW) hn
    have hspec := fun (W : World) (B : Nat) (u : Value) (ha : IntsA W B u xs) => specDistancesBack_any W B u xs ha
    have himpl := fun (W : World) (B : Nat) (u : Value) (ha : IntsA W B u xs) => implDistancesBack_any W B u xs ha
    obtain ⟨op, hop⟩ : ∃ op, op = dbO xs := ⟨_, rfl⟩
    rw [← hop] at hspec himpl
    obtain ⟨ns, hns⟩ : ∃ ns, ns = op.getD [] := ⟨_, rfl⟩
    obtain ⟨y, hy⟩ : ∃ y, y = op.isSome := ⟨_, rfl⟩
    have hlen : ns.length ≤ 5000 := by rw [hns, hop]; exact Nat.le_trans (dbO_len xs) (by omega)
    unfold IntsAOk at hspec himpl
    rw [← hns, ← hy] at hspec himpl
    obtain ⟨N, hN⟩ : ∃ N, N = xs.length := ⟨_, rfl⟩
    obtain ⟨tt, ht⟩ : ∃ tt, tt = 1 + ns.length := ⟨_, rfl⟩
    obtain ⟨kk, hk⟩ : ∃ kk, kk = 1 + N := ⟨_, rfl⟩
    rw [← hN] at hv hto hC1
    have ht2 : tt ≤ 5001 := by omega
    have ht1 : 1 ≤ tt := by omega
    have hk1 : 1 ≤ kk := by omega
    have hk2 : kk ≤ 1048577 := by omega
    have hNle : N ≤ 1048576 := by omega
    have hkl : kk = 1 + xs.length := by rw [hk, hN]
    have e1 : ((tt : Int) != (tt : Int)) = false := by simp
    have e2 : (y != y) = false := by simp
    subst hv
    have HS := Lib.hid hspec; have HI := Lib.hid himpl; have HT := Lib.hid hto; have HTT := Lib.hid ht; have HK := Lib.hid hkl; have HLEN := Lib.hid hlen; have HNN := Lib.hid hn
    clear hspec himpl hto ht hkl hlen hop hns hy hN hk h hce hC1 hC2 hb hn
    go_enter Try.func3, Try.ntmps3
    go_wp2_with fail
    refine (HT.out w (Below.refl _ _)).mono ?_
    rintro e w1 ⟨rfl, a1, b1, _⟩
    have A1 := Lib.hid a1; have B1 := Lib.hid b1; clear a1 b1
    go_wp2_with fail
    refine (HS.out w1 _ _ A1.out).mono ?_
    rintro e w2 ⟨v0, rfl, a2, b2, _⟩
    have A2 := Lib.hid a2; have B2 := Lib.hid (below_trans B1.out b2); clear a2 b2
    have S1 := Lib.hid B1.out.size
    go_wp2_with fail
    refine (HT.out w2 B2.out).mono ?_
    rintro e w3 ⟨rfl, a3, b3, s3⟩
    have A3 := Lib.hid a3; have B3 := Lib.hid b3; have C3 := Lib.hid (below_trans B2.out b3); have S3 := Lib.hid s3; clear a3 b3 s3
    go_wp2_with fail
    refine (HI.out w3 _ _ A3.out).mono ?_
    rintro e w4 ⟨v1, rfl, a4, b4, _⟩
    have A4 := Lib.hid a4; have B4 := Lib.hid b4; clear a4 b4
    have Z4 := Lib.hid (intsA_below A2.out (below_trans B3.out B4.out)); have X4 := Lib.hid (intsA_below A3.out B4.out); have C4 := Lib.hid (below_trans C3.out B4.out)
    go_wp2_with fail
    refine (eqIntA_same w4 _ _ v1 v0 ns A4.out Z4.out).mono ?_
    rintro e w5 ⟨rfl, b5⟩
    have B5 := Lib.hid b5; clear b5
    have A5 := Lib.hid (intsA_below A4.out B5.out); have Z5 := Lib.hid (intsA_below Z4.out B5.out); have X5 := Lib.hid (intsA_below X4.out B5.out); have C5 := Lib.hid (below_trans C4.out B5.out)
    go_wp2_with fail
    refine (HT.out w5 C5.out).mono ?_
    rintro e w6 ⟨rfl, a6, b6, _⟩
    have B6 := Lib.hid b6; have T6 := Lib.hid a6; clear a6 b6
    have A6 := Lib.hid (intsA_below A5.out B6.out); have Z6 := Lib.hid (intsA_below Z5.out B6.out); have X6 := Lib.hid (intsA_below X5.out B6.out); have C6 := Lib.hid (below_trans C5.out B6.out)
    go_wp2_with fail
    refine (eqIntA_same w6 _ _ _ _ xs X6.out T6.out).mono ?_
    rintro e w7 ⟨rfl, b7⟩
    have B7 := Lib.hid b7; clear b7
    have A7 := Lib.hid (intsA_below A6.out B7.out); have Z7 := Lib.hid (intsA_below Z6.out B7.out); have X7 := Lib.hid (intsA_below X6.out B7.out); have C7 := Lib.hid (below_trans C6.out B7.out)
    have L7 := Lib.hid (Nat.le_trans (Nat.le_trans (Nat.le_trans B4.out.size B5.out.size) B6.out.size) B7.out.size)
    go_wp2_with fail
    refine (markIntA_any w7 _ 1 _ xs X7.out (by have := HNN.out; omega)).mono ?_
    rintro e w8 ⟨rfl, a8, b8, o8⟩
    rw [← HK.out]
    have hA8 : IntsA w8 w3.heap.size v1 ns := intsA_other A7.out (fun k k1 k2 => o8 k (slice_ne (by have := S3.out; omega)) k2)
    have hZ8 : IntsA w8 w1.heap.size v0 ns := by
      rcases A2.out with hq | ⟨g, cap, E, rest, q1, q2, q3, q4⟩
      · exact .inl hq
      · have hg2 : g < w2.heap.size := (Array.getElem?_eq_some_iff.1 q3).1
        rcases Z7.out with hq | ⟨g', cap', E', rest', r1, r2, r3, r4⟩
        · exact .inl hq
        · rw [q1] at r1
          have hgg : g = g' := by simp only [Value.slice.injEq, Option.some.injEq, Addr.mk.injEq] at r1; exact r1.1.1
          subst hgg
          refine .inr ⟨g, cap', E', rest', by rw [q1]; exact r1, r2, ?_, r4⟩
          rw [o8 g (slice_ne (by omega)) (Array.getElem?_eq_some_iff.1 r3).1]
          exact r3
    have A8 := Lib.hid hA8; have Z8 := Lib.hid hZ8; have C8 : Hid (Below w.heap.size w w8) := C7.out.trans (b8.mono (B2.out.size))
    clear a8 o8 hA8 hZ8 b8
    have hk0 : ¬ ((kk : Int) < 0) := by omega
    go_wp2_with fail
    refine (eqIntA_same w8 _ _ v1 v0 ns A8.out Z8.out).mono ?_
    rintro e w9 ⟨rfl, b9⟩
    have A9 := Lib.hid (intsA_below A8.out b9); have Z9 := Lib.hid (intsA_below Z8.out b9); have C9 := Lib.hid (below_trans C8.out b9); have S9 := Lib.hid b9.size; clear b9
    go_wp2_with fail
    refine (markIntA_any w9 _ 1 v1 ns A9.out (by have := HLEN.out; omega)).mono ?_
    rintro e w10 ⟨rfl, a10, b10, o10⟩
    rw [← HTT.out]
    have Z10 : Hid (IntsA w10 w1.heap.size v0 ns) := by
      rcases A2.out with hq | ⟨g, cap, E, rest, q1, q2, q3, q4⟩
      · exact .inl hq
      · have hg2 : g < w2.heap.size := (Array.getElem?_eq_some_iff.1 q3).1
        rcases Z9.out with hq | ⟨g', cap', E', rest', r1, r2, r3, r4⟩
        · exact .inl hq
        · rw [q1] at r1
          have hgg : g = g' := by simp only [Value.slice.injEq, Option.some.injEq, Addr.mk.injEq] at r1; exact r1.1.1
          subst hgg
          refine .inr ⟨g, cap', E', rest', by rw [q1]; exact r1, r2, ?_, r4⟩
          rw [b10.block g (by have := B3.out.size; omega)]
          exact r3
    have A10 := Lib.hid a10; have C10 : Hid (Below w.heap.size w w10) := C9.out.trans (b10.mono C3.out.size)
    clear a10 b10 o10
    have ht0 : ¬ ((tt : Int) < 0) := by omega
    go_wp2_with fail
    refine (heldIntA_any w10 _ 1 ns.length v1 A10.out (by have := HLEN.out; omega)).mono ?_
    rintro e w11 ⟨rfl, b11⟩
    rw [← HTT.out]
    have A11 := Lib.hid (intsA_below A10.out b11); have Z11 := Lib.hid (intsA_below Z10.out b11); have C11 := Lib.hid (below_trans C10.out b11); clear b11
    go_wp2_with fail
    refine (HT.out w11 C11.out).mono ?_
    rintro e w12 ⟨rfl, a12, b12, _⟩
    have T12 := Lib.hid a12; have A12 := Lib.hid (intsA_below A11.out b12); have Z12 := Lib.hid (intsA_below Z11.out b12); have C12 := Lib.hid (below_trans C11.out b12); clear a12 b12
    go_wp2_with fail
    refine (HI.out w12 _ _ T12.out).mono ?_
    rintro e w13 ⟨v6, rfl, a13, b13, _⟩
    have H13 := Lib.hid a13; have A13 := Lib.hid (intsA_below A12.out b13); have Z13 := Lib.hid (intsA_below Z12.out b13); have C13 := Lib.hid (below_trans C12.out b13); clear a13 b13
    go_wp2_with fail
    refine (eqIntA_same w13 _ _ v6 v0 ns H13.out Z13.out).mono ?_
    rintro e w14 ⟨rfl, b14⟩
    have A14 := Lib.hid (intsA_below A13.out b14); have C14 := Lib.hid (below_trans C13.out b14); clear b14
    go_wp2_with fail
    refine (heldIntA_any w14 _ 1 ns.length v1 A14.out (by have := HLEN.out; omega)).mono ?_
    rintro e w15 ⟨rfl, b15⟩
    rw [← HTT.out]
    have C15 := Lib.hid (below_trans C14.out b15); clear b15
    go_wp2_with fail
    go_ret
    exact ⟨rfl, C15.out⟩
end Go.Proofs.Ytbjhalhahipjdaa
