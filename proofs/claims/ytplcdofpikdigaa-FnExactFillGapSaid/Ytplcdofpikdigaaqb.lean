/- Chapter 9: the model's OpenPlace, OpenSaid, FillGap; the laws of the three. -/
import Derived.Test.Ytplcdofpikdigaaq8
namespace Go.Proofs.Ytplcdofpikdigaa
open Go.RowKit Go.BigFrame Go.Deep
set_option linter.unusedSimpArgs false
set_option linter.unusedVariables false
set_option maxRecDepth 4000

theorem numL_sgn (dg : Int) (h1 : 1 ≤ dg) (h4 : dg ≤ 4) : numL dg.toNat = [sgnU dg] := by
  obtain ⟨n, rfl⟩ := Int.eq_ofNat_of_zero_le (show 0 ≤ dg by omega)
  rw [Int.toNat_natCast, numL_one n (by omega)]
  have : n = 1 ∨ n = 2 ∨ n = 3 ∨ n = 4 := by omega
  rcases this with rfl | rfl | rfl | rfl <;> rfl
theorem sgn_not (dg : Int) (h1 : 1 ≤ dg) (h4 : dg ≤ 4) : decide ((sgnU dg).toNat = 46) = false := by
  apply decide_eq_false
  have := sgnU_toNat dg
  omega
set_option maxHeartbeats 4000000 in
theorem specFillGap_any (W S : List UInt8) (D at' : Int) (dg : Int) (w : World) (hW : W.length ≤ 1048576) (hS : S.length ≤ 1048576) :
    Calls Try.prog 19 #[pzV W S D, .int .i64 at', .int .i64 dg] w fun e w' => e = .returned (.tuple #[pzV (rWFillGap W S D at' dg) (rSFillGap W S D at' dg) (rDFillGap W S D at' dg), .bool (rBFillGap W S D at' dg)]) ∧ Below w.heap.size w w' := by
  show Calls Try.prog 19 #[pzV W S D, .int .i64 at', .int .i64 dg] w fun e w' => e = .returned (.tuple #[pzIf (rBFillGap W S D at' dg) (W.set at'.toNat (sgnU dg)) S D, .bool (rBFillGap W S D at' dg)]) ∧ Below w.heap.size w w'
  have hG := fun (W0 : World) => pzGood_any W S D W0 (by unfold maxLen; omega) (by unfold maxLen; omega)
  obtain ⟨G, hGG⟩ : ∃ G, G = rBFillGap W S D at' dg := ⟨_, rfl⟩
  rw [← hGG]
  unfold rBFillGap layB at hGG
  obtain ⟨v1, hv1⟩ : ∃ b, b = pzB W S D := ⟨_, rfl⟩
  rw [← hv1] at hGG; simp only [← hv1] at hG
  have hD4 : v1 = true → D ≤ 4 := fun h => (pzS_parts (pzB_parts (hv1.symm.trans h)).1).2.1
  clear hv1
  obtain ⟨n, hn⟩ : ∃ n, n = W.length := ⟨_, rfl⟩
  have hnn : n ≤ 1048576 := by omega
  unfold pzV at hG ⊢
  cases v1 with
  | false =>
    obtain rfl : G = false := by rw [hGG]; simp
    rw [pzIf_false]
    generalize bs W = t at *
    generalize bs S = u at *
    have HG := Lib.hid hG
    have HT := Lib.hid (twoP_new w (.string t) (.string u) (.int .i64 D))
    clear hG hGG hD4 hW hS hn
    go_enter Try.func19, Try.ntmps19
    go_wp2_with fail
    refine (HG.out _).mono ?_
    rintro e w1 ⟨rfl, hb⟩
    have ht := HT.out.later hb
    obtain ⟨c0, c1, c2, f0, f1, f2⟩ := ht.res.cells
    have HB := Lib.hid ht.below
    clear hb ht
    go_wp2_with fail
    refine bodyPost_ret (v := .tuple #[.agg #[.string ⟨#[]⟩, .string ⟨#[]⟩, .int .i64 0], .bool false]) ?_ rfl ⟨rfl, three_below HB.out (by omega) _ _ _⟩
    simp [results, Try.results19, go_sem, c0, c1, c2]
  | true =>
    have hD := hD4 rfl
    obtain ⟨v2, hv2⟩ : ∃ b, b = decide ((0 : Int) ≤ at' ∧ at' ≤ (W.length : Int) - 1) := ⟨_, rfl⟩
    have HI := Lib.hid (fun (W0 : World) => l1In_is v2 at' 0 ((n : Int) - 1) W0 (by rw [hv2, hn]))
    rw [← hv2] at hGG
    have hsz : (bs W).size = n := by rw [bs_size, hn]
    cases v2 with
    | false =>
      obtain rfl : G = false := by rw [hGG]; simp
      rw [pzIf_false]
      generalize bs W = t at *
      generalize bs S = u at *
      have HG := Lib.hid hG
      have HT := Lib.hid (twoP_new w (.string t) (.string u) (.int .i64 D))
      clear hG hGG hD4 hW hS hn hv2
      go_enter Try.func19, Try.ntmps19
      go_wp2_with fail
      refine (HG.out _).mono ?_
      rintro e w1 ⟨rfl, hb⟩
      have ht := HT.out.later hb
      obtain ⟨d0, d1, d2, _, _, _⟩ := ht.arg.cells
      obtain ⟨c0, c1, c2, f0, f1, f2⟩ := ht.res.cells
      have HB := Lib.hid ht.below
      clear hb ht
      go_wp2_with fail
      refine (HI.out _).mono ?_
      rintro e w2 ⟨rfl, rfl⟩
      go_wp2_with fail
      refine bodyPost_ret (v := .tuple #[.agg #[.string ⟨#[]⟩, .string ⟨#[]⟩, .int .i64 0], .bool false]) ?_ rfl ⟨rfl, three_below HB.out (by omega) _ _ _⟩
      simp [results, Try.results19, go_sem, c0, c1, c2]
    | true =>
      have h1 : (0 : Int) ≤ at' ∧ at' ≤ (W.length : Int) - 1 := of_decide_eq_true hv2.symm
      obtain ⟨k, rfl⟩ := Int.eq_ofNat_of_zero_le h1.1
      have hk : k < W.length := by omega
      rw [Int.toNat_natCast] at hGG ⊢
      have hkn : k < n := by omega
      have hP := fun (W0 : World) => pzPut_any W k (sgnU dg) W0 hk (by omega)
      obtain ⟨t, ht⟩ : ∃ t, t = bs W := ⟨_, rfl⟩
      obtain ⟨u, hu⟩ : ∃ u, u = bs S := ⟨_, rfl⟩
      have hk' : k < t.size := by rw [ht, bs_size]; exact hk
      have hgd : W.getD k 0 = t[k] := by
        have : t[k] = W[k] := by subst t; exact getQ _ k _ _
        rw [this]; simp [List.getD, hk]
      rw [hgd] at hGG
      obtain ⟨gx, hgx⟩ : ∃ gx, gx = decide (t[k].toNat = 46) := ⟨_, rfl⟩
      have hx2 : ((t[k].toNat : Int) == 46) = gx := by
        rw [hgx, Bool.eq_iff_iff]; simp; omega
      have hx3 : ((t[k].toNat : Int) != 46) = !gx := by
        rw [bne, hx2]
      rw [← hgx] at hGG
      obtain ⟨v4, hv4⟩ : ∃ b, b = decide ((1 : Int) ≤ dg ∧ dg ≤ D) := ⟨_, rfl⟩
      have HI4 := Lib.hid (fun (W0 : World) => l1In_is v4 dg 1 D W0 hv4.symm)
      rw [← hv4] at hGG
      have hdd : v4 = true → 1 ≤ dg ∧ dg ≤ 4 := fun h => by
        have := of_decide_eq_true (hv4.symm.trans h); omega
      have hN := fun (h : v4 = true) (W0 : World) => l1Num_any dg.toNat dg W0 (Nat.le_refl _) (by have := hdd h; omega) (by have := hdd h; omega)
      have hN2 : v4 = true → numL dg.toNat = [sgnU dg] := fun h => numL_sgn dg (hdd h).1 (hdd h).2
      have hSN : v4 = true → decide ((sgnU dg).toNat = 46) = false := fun h => sgn_not dg (hdd h).1 (hdd h).2
      simp only [← ht, ← hu] at hG ⊢
      simp only [← ht] at hP
      have HSZ : t.size = n := by rw [ht]; exact hsz
      revert hx2 hx3
      revert hGG
      cases gx <;> intro hGG hx2 hx3
      case false =>
        obtain rfl : G = false := by
          rw [hGG]
          cases hq : v4
          · rfl
          · rw [hSN hq]; rfl
        rw [pzIf_false]
        have HG := Lib.hid hG
        have HT := Lib.hid (twoP_new w (.string t) (.string u) (.int .i64 D))
        clear hG hGG hD4 hW hS hn hv2 h1 hgd hgx ht hu hsz hdd hN hN2 hSN hv4 hP
        go_enter Try.func19, Try.ntmps19
        go_wp2_with fail
        refine (HG.out _).mono ?_
        rintro e w1 ⟨rfl, hb⟩
        have ht := HT.out.later hb
        obtain ⟨d0, d1, d2, _, _, _⟩ := ht.arg.cells
        obtain ⟨c0, c1, c2, f0, f1, f2⟩ := ht.res.cells
        have HT1 := Lib.hid ht
        have HB := Lib.hid ht.below
        clear hb ht
        go_wp2_with fail
        refine (HI.out _).mono ?_
        rintro e w2 ⟨rfl, rfl⟩
        go_wp2_with fail
        refine bodyPost_ret (v := .tuple #[.agg #[.string ⟨#[]⟩, .string ⟨#[]⟩, .int .i64 0], .bool false]) ?_ rfl ⟨rfl, three_below HB.out (by omega) _ _ _⟩
        simp [results, Try.results19, go_sem, c0, c1, c2]
      case true =>
        cases v4 with
        | false =>
          obtain rfl : G = false := by rw [hGG]; simp
          rw [pzIf_false]
          have HG := Lib.hid hG
          have HT := Lib.hid (twoP_new w (.string t) (.string u) (.int .i64 D))
          clear hG hGG hD4 hW hS hn hv2 h1 hgd hgx ht hu hsz hdd hN hN2 hSN hv4 hP
          go_enter Try.func19, Try.ntmps19
          go_wp2_with fail
          refine (HG.out _).mono ?_
          rintro e w1 ⟨rfl, hb⟩
          have ht := HT.out.later hb
          obtain ⟨d0, d1, d2, _, _, _⟩ := ht.arg.cells
          obtain ⟨c0, c1, c2, f0, f1, f2⟩ := ht.res.cells
          have HT1 := Lib.hid ht
          have HB := Lib.hid ht.below
          clear hb ht
          go_wp2_with fail
          refine (HI.out _).mono ?_
          rintro e w2 ⟨rfl, rfl⟩
          go_wp2_with fail
          refine (HI4.out _).mono ?_
          rintro e w3 ⟨rfl, rfl⟩
          go_wp2_with fail
          refine bodyPost_ret (v := .tuple #[.agg #[.string ⟨#[]⟩, .string ⟨#[]⟩, .int .i64 0], .bool false]) ?_ rfl ⟨rfl, three_below HB.out (by omega) _ _ _⟩
          simp [results, Try.results19, go_sem, c0, c1, c2]
        | true =>
          have hsn := hSN rfl
          have hnn2 := hN rfl
          rw [hN2 rfl] at hnn2
          obtain rfl : G = true := by rw [hGG, hsn]; rfl
          rw [show pzIf true (W.set k (sgnU dg)) S D = .agg #[.string (bs (W.set k (sgnU dg))), .string (bs S), .int .i64 D] from rfl, ← hu]
          generalize bs (W.set k (sgnU dg)) = R at *
          generalize bs [sgnU dg] = sg at *
          have HG := Lib.hid hG; have HP := Lib.hid hP; have HNM := Lib.hid hnn2
          have HT := Lib.hid (twoP_new w (.string t) (.string u) (.int .i64 D))
          clear hG hGG hD4 hW hS hn hv2 h1 hgd hgx ht hu hsz hdd hN hN2 hSN hv4 hP hnn2 hsn
          go_enter Try.func19, Try.ntmps19
          go_wp2_with fail
          refine (HG.out _).mono ?_
          rintro e w1 ⟨rfl, hb⟩
          have ht := HT.out.later hb
          obtain ⟨d0, d1, d2, _, _, _⟩ := ht.arg.cells
          obtain ⟨c0, c1, c2, f0, f1, f2⟩ := ht.res.cells
          have HT1 := Lib.hid ht
          have HB := Lib.hid ht.below
          clear hb ht
          go_wp2_with fail
          refine (HI.out _).mono ?_
          rintro e w2 ⟨rfl, rfl⟩
          go_wp2_with fail
          refine (HI4.out _).mono ?_
          rintro e w3 ⟨rfl, rfl⟩
          go_wp2_with fail
          go_region_with (first
            | (go_at_call 41; refine (HNM.out _).mono ?_; rintro e w4 ⟨rfl, hb⟩; have ht4 := HT1.out.drew.later hb; obtain ⟨g0, g1, g2, _, _, _⟩ := ht4.arg.cells; have HT4 := Lib.hid ht4; clear hb ht4)
            | (go_at_call 40; refine (HP.out _).mono ?_; rintro e w5 ⟨rfl, m5, hm5⟩; have hb5 := hm5 ▸ belowN w4.heap.size w4 m5; have ht5 := HT4.out.later hb5; obtain ⟨j0, j1, j2, _, _, _⟩ := ht5.arg.cells; obtain ⟨k0, k1, k2, _, _, _⟩ := ht5.res.cells; have HB5 := Lib.hid ht5.below; clear hb5 ht5 hm5))
          all_goals
            go_wp2_with fail
            refine bodyPost_ret (v := .tuple #[.agg #[.string R, .string u, .int .i64 D], .bool true]) ?_ rfl ⟨rfl, three_below HB5.out (by omega) _ _ _⟩
            simp [results, Try.results19, go_sem, k0, k1, k2]
end Go.Proofs.Ytplcdofpikdigaa
