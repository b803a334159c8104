/- The program's WayOfTelling, and the law. -/
import Derived.Test.YtfkaghiopnaghabU8
namespace Go.Proofs.Ytfkaghiopnaghab
open Go.RowKit Go.BigFrame
set_option linter.unusedSimpArgs false
set_option linter.unusedVariables false
set_option maxRecDepth 4000

set_option maxHeartbeats 2000000 in
theorem implWayOfTelling_any (w : World) (B : Nat) (v : Value) (xs : List Int) (n : Int) (ha : IntsA w B v xs) :
    Calls Try.prog 21 #[v, .int .i64 n] w fun e w' => TellOk (wayTO xs n) w w' e := by
  have hL := tallyList_any w B v xs ha
  cases ht : tolL xs with
  | false =>
    rw [wayTO_none (fun h => by rw [ht] at h; cases h.1)]
    have hP : padO xs = zeros9 := by unfold padO; rw [if_neg (by rw [ht]; simp)]
    rw [ht, hP] at hL
    obtain ⟨a, cap, rfl, _, _⟩ := intsA_slice ha
    have HL := Lib.hid hL; clear hL ha ht hP
    go_enter Try.func21, Try.ntmps21
    go_wp2_with fail
    refine HL.out.mono ?_
    rintro e w1 ⟨rfl, hb⟩
    have HB := Lib.hid hb; clear hb
    go_wp2_with (refine wpList_putT rfl _ _ rfl w1.heap.size rfl zeros9 zeros9 rfl ⟨heap_alloc_new _ _, rfl⟩ rfl ?_; intro w2 hB2 _ hbb _; have HB2 := Lib.hid ((below_alloc w1 _).trans (hbb _ (Nat.le_refl _))); clear hbb)
    go_ret2
    exact ⟨_, _, rfl, intsRA_nil _ _, below_trans HB.out HB2.out, fun _ => rfl⟩
  | true =>
    obtain ⟨ns, rfl, h1, h9, hle⟩ := tolL_nat ht
    rw [ht, padO_ti ht] at hL
    have hp9 := pad_len ns h9
    obtain ⟨ts, hts⟩ : ∃ ts, ts = pad ns := ⟨_, rfl⟩
    rw [← hts] at hL hp9
    by_cases hn : 0 ≤ n ∧ n ≤ 40
    · rw [wayTO_ti ht hn]
      obtain ⟨N, rfl⟩ := Int.eq_ofNat_of_zero_le hn.1
      rw [Int.toNat_natCast]
      have hN : N ≤ 40 := by omega
      have hd : decide ((0 : Int) ≤ (N : Int) ∧ (N : Int) ≤ 40) = true := decide_eq_true hn
      obtain ⟨L, hLL⟩ : ∃ L, L = ns.length := ⟨_, rfl⟩
      have hcl := fun W (hb : Below w.heap.size w W) => cloneI_any W B v (ti ns) (intsA_below ha hb) (by rw [ti_len]; exact h1) (by rw [ti_len]; omega)
      have hwf := fun W B' g c (h : IntsA W B' (.slice (some ⟨g, 0, none⟩) L c) (ti ns)) (hB : B' ≤ W.heap.size) => wayFromTell_any W B' g c ns N L h hB hLL (by omega) (by omega) (by rw [hLL]; exact hle) hN
      rw [ti_len, ← hLL] at hcl
      rw [← hLL]
      obtain ⟨R, hR⟩ : ∃ R, R = rowsW L N ns := ⟨_, rfl⟩
      rw [← hR] at hwf ⊢
      obtain ⟨a, cap, rfl, _, _⟩ := intsA_slice ha
      have HL := Lib.hid hL; have HD := Lib.hid hd; have HCL := Lib.hid hcl; have HWF := Lib.hid hwf
      clear hL ha ht hd hn hcl hwf hR hLL hts hle h1 h9
      go_enter Try.func21, Try.ntmps21
      go_wp2_with fail
      refine HL.out.mono ?_
      rintro e w1 ⟨rfl, hb⟩
      have HB := Lib.hid hb; clear hb
      go_wp2_with (refine wpList_putT rfl _ _ rfl w1.heap.size rfl zeros9 ts rfl ⟨heap_alloc_new _ _, rfl⟩ hp9 ?_; intro w2 hB2 _ hbb _; have HB2 := Lib.hid ((below_alloc w1 _).trans (hbb _ (Nat.le_refl _))); clear hbb)
      refine (isWithin_is true _ _ _ _ HD.out).mono ?_
      rintro e w3 ⟨rfl, rfl⟩
      have HB3 := Lib.hid (below_trans HB.out HB2.out)
      clear hB2
      go_wp2_with fail
      refine (HCL.out w2 HB3.out).mono ?_
      rintro e w3 ⟨g, c, rfl, ho, hb⟩
      have HO := Lib.hid ho; have HB4 := Lib.hid hb; clear ho hb
      go_wp2_with fail
      refine (HWF.out w3 _ g c HO.out HB4.out.size).mono ?_
      rintro e w4 ⟨u, vs, rfl, hr, hb⟩
      have HR := Lib.hid hr; have HB5 := Lib.hid hb; clear hr hb
      go_wp2_with fail
      go_ret2
      exact ⟨u, vs, rfl, intsRA_mono HR.out HB3.out.size, below_trans HB3.out (below_trans HB4.out HB5.out), fun h => by cases h⟩
    · rw [wayTO_none (fun h => hn h.2)]
      have hd : decide ((0 : Int) ≤ n ∧ n ≤ 40) = false := decide_eq_false hn
      obtain ⟨a, cap, rfl, _, _⟩ := intsA_slice ha
      have HL := Lib.hid hL; have HD := Lib.hid hd
      clear hL ha ht hd hn hts hle h1 h9
      go_enter Try.func21, Try.ntmps21
      go_wp2_with fail
      refine HL.out.mono ?_
      rintro e w1 ⟨rfl, hb⟩
      have HB := Lib.hid hb; clear hb
      go_wp2_with (refine wpList_putT rfl _ _ rfl w1.heap.size rfl zeros9 ts rfl ⟨heap_alloc_new _ _, rfl⟩ hp9 ?_; intro w2 hB2 _ hbb _; have HB2 := Lib.hid ((below_alloc w1 _).trans (hbb _ (Nat.le_refl _))); clear hbb)
      refine (isWithin_is false _ _ _ _ HD.out).mono ?_
      rintro e w3 ⟨rfl, rfl⟩
      clear hB2
      go_wp2_with fail
      go_ret2
      exact ⟨_, _, rfl, intsRA_nil _ _, below_trans HB.out HB2.out, fun _ => rfl⟩

theorem totalSS_bound (m : Nat) : ∀ (nss : List (List Int)), (∀ r ∈ nss, r.length ≤ m) → totalSS nss ≤ m * nss.length
  | [], _ => by simp [totalSS]
  | a :: r, h => by
    have h1 := h a List.mem_cons_self
    have h2 := totalSS_bound m r (fun x hx => h x (List.mem_cons_of_mem _ hx))
    simp only [totalSS, List.map_cons, List.sum_cons, List.length_cons, Nat.mul_add] at *
    omega
theorem wayTO_total (xs : List Int) (n : Int) : totalSS ((wayTO xs n).getD []) ≤ 400 := by
  unfold wayTO
  split
  · rename_i h
    obtain ⟨ns, rfl, h1, h9, hle⟩ := tolL_nat h.1
    have e : (ti ns).map Int.toNat = ns := by simp only [ti, List.map_map]; exact List.map_id ns
    rw [e, ti_len, Option.getD_some]
    have := totalSS_bound 9 (rowsW ns.length n.toNat ns) (fun r hr => by
      unfold rowsW at hr
      obtain ⟨m, hm, rfl⟩ := List.mem_map.1 hr
      have := (wayN_mem ns.length n.toNat ns rfl hle m hm).1
      rw [ti_len]; omega)
    rw [rowsW_len] at this
    omega
  · simp [totalSS]

set_option maxRecDepth 100000 in
set_option maxHeartbeats 2000000 in
theorem law_WayOfTelling (v : Value) (xs : List Int) (n : Int) (w : World) (h : ArgL w v xs) :
    Calls Try.prog 5 #[v, .int .i64 n] w fun e w' => e = .returned (.bool true) ∧ Below w.heap.size w w' := by
  obtain ⟨A, C, hv, hC1, hC2, hce⟩ := h
  by_cases hb : 1048576 < xs.length
  · obtain ⟨N, hN⟩ : ∃ N, N = xs.length := ⟨_, rfl⟩
    rw [← hN] at hv hb hC1
    subst hv
    clear hce hN
    go_enter Try.func5, Try.ntmps5
    go_wp2_with fail
    go_ret
    exact ⟨rfl, Below.refl _ _⟩
  · have hn : xs.length ≤ 1048576 := by omega
    have h : ArgL w v xs := ⟨A, C, hv, hC1, hC2, hce⟩
    have hto := fun (W : World) (hbW : Below w.heap.size w W) => toIntL_any W v xs (argL_below h hbW) hn
    obtain ⟨op, hop⟩ : ∃ op, op = wayTO xs n := ⟨_, rfl⟩
    have hspec := fun (W : World) (B : Nat) (u : Value) (ha : IntsA W B u xs) => specWayOfTelling_any W B u xs n ha
    have himpl := fun (W : World) (B : Nat) (u : Value) (ha : IntsA W B u xs) => implWayOfTelling_any W B u xs n ha
    rw [← hop] at hspec himpl
    obtain ⟨ns, hns⟩ : ∃ ns, ns = op.getD [] := ⟨_, rfl⟩
    obtain ⟨y, hy⟩ : ∃ y, y = op.isSome := ⟨_, rfl⟩
    have hlen : totalSS ns ≤ 400 := by rw [hns, hop]; exact wayTO_total xs n
    unfold TellOk at hspec himpl
    rw [← hns, ← hy] at hspec himpl
    obtain ⟨N, hN⟩ : ∃ N, N = xs.length := ⟨_, rfl⟩
    obtain ⟨tt, ht⟩ : ∃ tt, tt = 1 + totalSS ns := ⟨_, rfl⟩
    obtain ⟨kk, hk⟩ : ∃ kk, kk = 1 + N := ⟨_, rfl⟩
    rw [← hN] at hv hto hC1
    have ht2 : tt ≤ 401 := by omega
    have ht1 : 1 ≤ tt := by omega
    have hk1 : 1 ≤ kk := by omega
    have hk2 : kk ≤ 1048577 := by omega
    have hNle : N ≤ 1048576 := by omega
    have hkl : kk = 1 + xs.length := by rw [hk, hN]
    have e1 : ((tt : Int) != (tt : Int)) = false := by simp
    have e2 : (y != y) = false := by simp
    subst hv
    have HS := Lib.hid hspec; have HI := Lib.hid himpl; have HT := Lib.hid hto; have HTT := Lib.hid ht; have HK := Lib.hid hkl; have HLEN := Lib.hid hlen; have HNN := Lib.hid hn
    clear hspec himpl hto ht hkl hlen hop hns hy hN hk h hce hC1 hC2 hb hn
    go_enter Try.func5, Try.ntmps5
    go_wp2_with fail
    refine (HT.out w (Below.refl _ _)).mono ?_
    rintro e w1 ⟨rfl, a1, b1, _⟩
    have A1 := Lib.hid a1; have B1 := Lib.hid b1; clear a1 b1
    go_wp2_with fail
    refine (HS.out w1 _ _ A1.out).mono ?_
    rintro e w2 ⟨v0, vs0, rfl, a2, b2, _⟩
    have A2 := Lib.hid a2; have B2 := Lib.hid (below_trans B1.out b2); clear a2 b2
    have S1 := Lib.hid B1.out.size
    go_wp2_with fail
    refine (HT.out w2 B2.out).mono ?_
    rintro e w3 ⟨rfl, a3, b3, s3⟩
    have A3 := Lib.hid a3; have B3 := Lib.hid b3; have C3 := Lib.hid (below_trans B2.out b3); have S3 := Lib.hid s3; clear a3 b3 s3
    go_wp2_with fail
    refine (HI.out w3 _ _ A3.out).mono ?_
    rintro e w4 ⟨v1, vs1, rfl, a4, b4, _⟩
    have A4 := Lib.hid a4; have B4 := Lib.hid b4; clear a4 b4
    have Z4 := Lib.hid (intsRA_below A2.out (below_trans B3.out B4.out)); have X4 := Lib.hid (intsA_below A3.out B4.out); have C4 := Lib.hid (below_trans C3.out B4.out)
    go_wp2_with fail
    refine (eqIntSA_same w4 _ _ v1 v0 _ _ ns A4.out Z4.out).mono ?_
    rintro e w5 ⟨rfl, b5⟩
    have B5 := Lib.hid b5; clear b5
    have A5 := Lib.hid (intsRA_below A4.out B5.out); have X5 := Lib.hid (intsA_below X4.out B5.out); have C5 := Lib.hid (below_trans C4.out B5.out)
    go_wp2_with fail
    refine (HT.out w5 C5.out).mono ?_
    rintro e w6 ⟨rfl, a6, b6, _⟩
    have B6 := Lib.hid b6; have T6 := Lib.hid a6; clear a6 b6
    have A6 := Lib.hid (intsRA_below A5.out B6.out); have X6 := Lib.hid (intsA_below X5.out B6.out); have C6 := Lib.hid (below_trans C5.out B6.out)
    go_wp2_with fail
    refine (eqIntA_same w6 _ _ _ _ xs X6.out T6.out).mono ?_
    rintro e w7 ⟨rfl, b7⟩
    have B7 := Lib.hid b7; clear b7
    have A7 := Lib.hid (intsRA_below A6.out B7.out); have X7 := Lib.hid (intsA_below X6.out B7.out); have C7 := Lib.hid (below_trans C6.out B7.out)
    have L7 := Lib.hid (Nat.le_trans (Nat.le_trans (Nat.le_trans B4.out.size B5.out.size) B6.out.size) B7.out.size)
    go_wp2_with fail
    refine (markIntA_any w7 _ 1 _ xs X7.out (by have := HNN.out; omega)).mono ?_
    rintro e w8 ⟨rfl, a8, b8, o8⟩
    rw [← HK.out]
    have hA8 : IntsRA w8 w3.heap.size v1 vs1 ns := intsRA_other A7.out (fun k k1 k2 => o8 k (slice_ne (by have := S3.out; omega)) k2)
    have hB28 : Below w2.heap.size w2 w8 := (below_trans B3.out (below_trans B4.out (below_trans B5.out (below_trans B6.out B7.out)))).trans b8
    have hZ8 : IntsRA w8 w1.heap.size v0 vs0 ns := intsRA_below A2.out hB28
    have B28 := Lib.hid hB28
    have A8 := Lib.hid hA8; have Z8 := Lib.hid hZ8; have C8 : Hid (Below w.heap.size w w8) := C7.out.trans (b8.mono (B2.out.size))
    clear a8 o8 hA8 hZ8 b8 hB28
    have hk0 : ¬ ((kk : Int) < 0) := by omega
    go_wp2_with fail
    refine (eqIntSA_same w8 _ _ v1 v0 _ _ ns A8.out Z8.out).mono ?_
    rintro e w9 ⟨rfl, b9⟩
    have B29 := Lib.hid (B28.out.trans (b9.mono B28.out.size)); have A9 := Lib.hid (intsRA_below A8.out b9); have Z9 := Lib.hid (intsRA_below Z8.out b9); have C9 := Lib.hid (below_trans C8.out b9); have S9 := Lib.hid b9.size; clear b9
    go_wp2_with fail
    refine (markIntSA_any w9 _ 1 v1 _ ns A9.out (by have := HLEN.out; omega)).mono ?_
    rintro e w10 ⟨rfl, a10, b10⟩
    rw [← HTT.out]
    have Z10 : Hid (IntsRA w10 w1.heap.size v0 vs0 ns) := intsRA_below A2.out (B29.out.trans (b10.mono (by have := S3.out; omega)))
    have A10 := Lib.hid a10; have C10 : Hid (Below w.heap.size w w10) := C9.out.trans (b10.mono C3.out.size)
    clear a10 b10
    have ht0 : ¬ ((tt : Int) < 0) := by omega
    go_wp2_with fail
    refine (heldIntSA_any w10 _ 1 v1 _ ns A10.out (by have := HLEN.out; omega)).mono ?_
    rintro e w11 ⟨rfl, b11⟩
    rw [← HTT.out]
    have A11 := Lib.hid (intsRA_below A10.out b11); have Z11 := Lib.hid (intsRA_below Z10.out b11); have C11 := Lib.hid (below_trans C10.out b11); clear b11
    go_wp2_with fail
    refine (HT.out w11 C11.out).mono ?_
    rintro e w12 ⟨rfl, a12, b12, _⟩
    have T12 := Lib.hid a12; have A12 := Lib.hid (intsRA_below A11.out b12); have Z12 := Lib.hid (intsRA_below Z11.out b12); have C12 := Lib.hid (below_trans C11.out b12); clear a12 b12
    go_wp2_with fail
    refine (HI.out w12 _ _ T12.out).mono ?_
    rintro e w13 ⟨v6, vs6, rfl, a13, b13, _⟩
    have H13 := Lib.hid a13; have A13 := Lib.hid (intsRA_below A12.out b13); have Z13 := Lib.hid (intsRA_below Z12.out b13); have C13 := Lib.hid (below_trans C12.out b13); clear a13 b13
    go_wp2_with fail
    refine (eqIntSA_same w13 _ _ v6 v0 _ _ ns H13.out Z13.out).mono ?_
    rintro e w14 ⟨rfl, b14⟩
    have A14 := Lib.hid (intsRA_below A13.out b14); have C14 := Lib.hid (below_trans C13.out b14); clear b14
    go_wp2_with fail
    refine (heldIntSA_any w14 _ 1 v1 _ ns A14.out (by have := HLEN.out; omega)).mono ?_
    rintro e w15 ⟨rfl, b15⟩
    rw [← HTT.out]
    have C15 := Lib.hid (below_trans C14.out b15); clear b15
    go_wp2_with fail
    go_ret
    exact ⟨rfl, C15.out⟩
end Go.Proofs.Ytfkaghiopnaghab
