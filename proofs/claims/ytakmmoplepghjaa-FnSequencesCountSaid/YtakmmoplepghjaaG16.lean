/- Law FnSequencesCount: as FnSequencesCountOfAll's, its numbers drawn on the way. (By tools/gen16.py.) -/
import Derived.Test.YtakmmoplepghjaaG18
import Derived.Deep.DeepCutAuto
import Derived.Test.Ytakmmoplepghjaau3
namespace Go.Proofs.Ytakmmoplepghjaa
open Go.RowKit Go.BigFrame Go.Deep
set_option linter.unusedSimpArgs false
set_option linter.unusedVariables false
set_option maxRecDepth 4000

set_option maxRecDepth 100000 in
set_option maxHeartbeats 16000000 in
theorem law_FnSequencesCount (code : Value) (cs : List Int) (more : Value) (ms0 : List Int) (w : World) (hcs : ArgY w code cs) (hms : ArgY w more ms0) :
    Calls Try.prog 3 #[code, more] w fun e w' => e = .returned (.bool true) ∧ Below w.heap.size w w' := by
  have HMS0 := Lib.hid hms
  have HBIG := Lib.hid (big_any w code more cs ms0 hcs hms)
  have HD0 := Lib.hid (drawGolombList_c w code cs hcs)
  clear hcs hms
  go_enter Try.func3, Try.ntmps3
  go_wp2_with fail
  refine HBIG.out.mono ?_
  rintro e wb ⟨b, rfl, rfl⟩
  clear HBIG
  cases b
  case true => (go_wp2_with fail; go_ret; exact ⟨rfl, Below.refl _ _⟩)
  go_wp2_with fail
  refine HD0.out.mono ?_
  rintro e wd ⟨n, rfl, hwn, hbd⟩
  have BD := Lib.hid hbd
  clear hbd HD0
  obtain ⟨y, hy⟩ : ∃ y, y = gN n := ⟨_, rfl⟩
  obtain ⟨ns, hns⟩ : ∃ ns, ns = if y = true then slF gol n else [] := ⟨_, rfl⟩
  obtain ⟨a, ha⟩ : ∃ a, a = sV gol n := ⟨_, rfl⟩
  obtain ⟨s, hs⟩ : ∃ s, s = gsV n := ⟨_, rfl⟩
  have h0 := fun W => implGolombList_any n W
  have h1 := fun W => specGolombList_any n W
  have h2 := fun W => implGolombOf_any n W hwn
  have h3 := fun W => specGolombOf_any n W
  have h4 := fun W => implGolombSum_any n W hwn
  have h5 := fun W => specGolombSum_any n W
  have h6 := fun W => implGolombTimes_any n W hwn
  have h7 := fun W => specGolombTimes_any n W
  have h8 := fun W => implGolombLast_any n W hwn
  have h9 := fun W => specGolombLast_any n W
  simp only [← hy, ← hns, ← ha, ← hs] at h0 h1 h2 h3 h4 h5 h6 h7 h8 h9
  have H0 := Lib.hid h0; have H1 := Lib.hid h1; have H2 := Lib.hid h2; have H3 := Lib.hid h3; have H4 := Lib.hid h4; have H5 := Lib.hid h5; have H6 := Lib.hid h6; have H7 := Lib.hid h7; have H8 := Lib.hid h8; have H9 := Lib.hid h9
  have HY := Lib.hid hy; have HNS := Lib.hid hns; have HA := Lib.hid ha; have HS := Lib.hid hs; have HWN := Lib.hid hwn
  have ey : (y != y) = false := by simp
  have ea : (a != a) = false := by simp
  have es : (s != s) = false := by simp
  clear h0 h1 h2 h3 h4 h5 h6 h7 h8 h9 hy hns ha hs hwn
  go_wp2_with fail
  refine (H0.out _).mono ?_
  rintro e w1 ⟨v0, rfl, hi, hb⟩
  have I0 := Lib.hid hi; have B0 := Lib.hid (below_trans BD.out hb); clear hi hb BD
  go_wp2_with fail
  refine (H1.out _).mono ?_
  rintro e w2 ⟨v1, rfl, hi, hb⟩
  have I1 := Lib.hid hi; have J0 := Lib.hid (own_below I0.out hb); have B1 := Lib.hid (below_trans B0.out hb); clear hi hb I0 B0
  go_wp2_with fail
  refine (H2.out _).mono ?_
  rintro e w3 ⟨rfl, hb⟩
  have BB2 := Lib.hid hb; clear hb
  go_wp2_with fail
  refine (H3.out _).mono ?_
  rintro e w4 ⟨rfl, hb⟩
  have BB3 := Lib.hid (below_trans BB2.out hb); clear hb BB2
  go_wp2_with fail
  refine (H4.out _).mono ?_
  rintro e w5 ⟨rfl, hb⟩
  have BB4 := Lib.hid (below_trans BB3.out hb); clear hb BB3
  go_wp2_with fail
  refine (H5.out _).mono ?_
  rintro e w6 ⟨rfl, hb⟩
  have BB5 := Lib.hid (below_trans BB4.out hb); clear hb BB4
  go_wp2_with fail
  refine (H6.out _).mono ?_
  rintro e w7 ⟨rfl, hb⟩
  have BB6 := Lib.hid (below_trans BB5.out hb); clear hb BB5
  go_wp2_with fail
  refine (H7.out _).mono ?_
  rintro e w8 ⟨rfl, hb⟩
  have BB7 := Lib.hid (below_trans BB6.out hb); clear hb BB6
  go_wp2_with fail
  refine (H8.out _).mono ?_
  rintro e w9 ⟨rfl, hb⟩
  have BB8 := Lib.hid (below_trans BB7.out hb); clear hb BB7
  go_wp2_with fail
  refine (H9.out _).mono ?_
  rintro e w10 ⟨rfl, hb⟩
  have BB9 := Lib.hid (below_trans BB8.out hb); clear hb BB8
  have I2 := Lib.hid (own_below J0.out BB9.out)
  have I3 := Lib.hid (own_below I1.out BB9.out)
  have B2 := Lib.hid (below_trans B1.out BB9.out)
  clear H0 H1 H2 H3 H4 H5 H6 H7 H8 H9 I1 J0 B1 BB9
  go_wp2_with fail
  refine (fSame_same _ _ _ v0 v1 ns I2.out I3.out).mono ?_
  rintro e w11 ⟨rfl, hb⟩
  have B3 := Lib.hid (below_trans B2.out hb); have I4 := Lib.hid (own_below I2.out hb); clear hb B2 I2 I3
  go_upto_if 172 with fail
  go_cut [] from 172 to 172 (fun wx => Hid (Below w.heap.size w wx))
  case first => as_aux_lemma =>
    cases y with
    | false =>
      go_wp2_with fail
      go_meet
      case rel => exact Lib.hid B3.out
    | true =>
      obtain ⟨N, rfl, hN1, hN9⟩ := gN_open HY.out.symm
      have e1 : ns = seqL (fun i => gol (i + 1)) N := by rw [HNS.out, if_pos rfl, slF]; rfl
      have e2 : a = ((gol N : Nat) : Int) := by rw [HA.out, sV_ok HY.out.symm]
      have e3 : s = ((gsum N : Nat) : Int) := by rw [HS.out, gsV_ok HY.out.symm]
      have hrow : SeqRow w11 wd.heap.size v0 N (fun i => gol (i + 1)) := by have := I4.out; rw [e1, seqL_len] at this; exact this
      have hsum := fun W (hb : Below w11.heap.size w11 W) => fSum_any W wd.heap.size v0 ns (own_below I4.out hb) (by rw [e1]; exact seqL_in gol N (fun i h1 h2 => Nat.le_trans (gol_le i (by omega)) (by omega))) (by rw [e1, seqL_len]; omega)
      rw [e1, seqL_sum] at hsum
      obtain ⟨g, c, rfl, hgB, hgw, hmc, hc9, hce⟩ := seqRow_cells hrow (by omega)
      have HSUM := Lib.hid hsum
      have hgs := gsum_le N hN9
      have hlast : gsum N < 3000 → gol (gsum N) = N ∧ gol (gsum N + 1) = N + 1 := gol_last N hN1
      have hL0 := fun W => implGolombOf_any (gsum N : Nat) W (WalkArith.wf_i64 (by omega))
      have hL1 := fun W => implGolombOf_any ((gsum N : Nat) + 1 : Int) W (WalkArith.wf_i64 (by omega))
      have HCE := Lib.hid hce
      obtain ⟨A, hA⟩ : ∃ A, A = gol N := ⟨_, rfl⟩
      obtain ⟨S, hS⟩ : ∃ S, S = gsum N := ⟨_, rfl⟩
      have hS1 : allS' 1 N gol = S := hS.symm
      have hgN : gN (S : Int) = decide (1 ≤ S ∧ S ≤ 3000) := by unfold gN; rw [decide_eq_decide]; omega
      have hge : 1 ≤ S := by have := gsum_ge N hN9; omega
      rw [← hA] at e2; rw [← hS] at e3 hgs hlast hL0 hL1
      rw [hS1] at hsum
      subst e2 e3
      have HSUM := Lib.hid hsum
      have HLAST := Lib.hid hlast; have HL0 := Lib.hid hL0; have HL1 := Lib.hid hL1
      have cN : w11.cell? ⟨g, N - 1, none⟩ = some (.int .i64 (A : Int)) := by rw [hce (N - 1) (by omega), Nat.sub_add_cancel hN1, hA]
      have cZ : w11.cell? ⟨g, 0, none⟩ = some (.int .i64 1) := by rw [hce 0 (by omega), Nat.zero_add, gol_two.2.1]; rfl
      obtain ⟨M, hM⟩ : ∃ M, M = N - 1 := ⟨_, rfl⟩
      have hMN : (N : Int) - 1 = (M : Int) := by omega
      have hML : M < N := by omega
      rw [← hM] at cN
      clear hce hrow hsum hlast hL0 hL1 e1 hA hS hS1 hM I4 HNS HA HS
      go_wp2_with fail
      refine (HSUM.out _ (Below.refl _ _)).mono ?_
      rintro e w12 ⟨rfl, rfl⟩
      go_wp2_with fail
      have eN : ((N : Int) != (N : Int)) = false := by simp
      have eN1 : ((N : Int) + 1 != (N : Int) + 1) = false := by simp
      go_loopw [26] (fun iv wr => ∃ i : Nat, 1 ≤ i ∧ i ≤ N ∧ iv = .int .i64 (i : Int) ∧ Hid (Below w11.heap.size w11 wr)) (fun iv _ => N - (intOf iv).toNat)
      case atStart => exact ⟨1, by omega, hN1, rfl, Lib.hid (Below.refl _ _)⟩
      case round => as_aux_lemma =>
        obtain ⟨i, hi1, hiN, rfl, HW⟩ := hrel
        by_cases hlt : i < N
        · obtain ⟨j, hj⟩ : ∃ j, j = i - 1 := ⟨_, rfl⟩
          have hij : (i : Int) - 1 = (j : Int) := by omega
          have hjN : j < N := by omega
          have hin := gol_in (i + 1) (by omega)
          have hstep : gol (i + 1) = gol i ∨ gol (i + 1) = gol i + 1 := by
            by_cases h2 : 2 < i + 1
            · have := hin.2 h2; rw [Nat.add_sub_cancel] at this; omega
            · obtain rfl : i = 1 := by omega
              rw [gol_two.2.1, gol_two.2.2]; exact .inr rfl
          have hrec := gol_rec (i + 1) (by omega) (by omega)
          rw [Nat.add_sub_cancel] at hrec
          have hYp := gol_pos i (by omega) (by omega)
          have hYl := gol_le i (by omega)
          have hzl := gol_le (gol i) (by omega)
          have hzp := gol_pos (gol i) (by omega) (by omega)
          obtain ⟨P, hP⟩ : ∃ P, P = gol i - 1 := ⟨_, rfl⟩
          obtain ⟨q, hq⟩ : ∃ q, q = i - gol (gol i) := ⟨_, rfl⟩
          have hq1 : i + 1 - gol (gol i) = q + 1 := by omega
          rw [hq1] at hrec
          have hT9 := gol_le (q + 1) (by omega)
          have c1 : wr.cell? ⟨g, i, none⟩ = some (.int .i64 (gol (i + 1) : Nat)) := (HW.out.cell (p := ⟨g, i, none⟩) hgw).trans (HCE.out i hlt)
          have c0 : wr.cell? ⟨g, j, none⟩ = some (.int .i64 (gol i : Nat)) := by
            have := (HW.out.cell (p := ⟨g, j, none⟩) hgw).trans (HCE.out j hjN)
            rwa [hj, Nat.sub_add_cancel hi1, ← hj] at this
          have cP : wr.cell? ⟨g, P, none⟩ = some (.int .i64 (gol (gol i) : Nat)) := by
            have := (HW.out.cell (p := ⟨g, P, none⟩) hgw).trans (HCE.out P (by omega))
            rwa [hP, Nat.sub_add_cancel hYp, ← hP] at this
          have cq : wr.cell? ⟨g, q, none⟩ = some (.int .i64 (gol (q + 1) : Nat)) := (HW.out.cell (p := ⟨g, q, none⟩) hgw).trans (HCE.out q (by omega))
          have hPN : P < N := by omega
          have hqN : q < N := by omega
          obtain ⟨z, hz⟩ : ∃ z, z = gol (gol i) := ⟨_, rfl⟩
          rw [← hz] at cP hq hzl hzp
          obtain ⟨Y, hY⟩ : ∃ Y, Y = gol i := ⟨_, rfl⟩
          rw [← hY] at c0 hP hstep hYp hYl hzl
          obtain ⟨T, hT⟩ : ∃ T, T = gol (q + 1) := ⟨_, rfl⟩
          rw [← hT] at cq hrec hT9
          obtain ⟨X, hX⟩ : ∃ X, X = gol (i + 1) := ⟨_, rfl⟩
          rw [← hX] at c1 hrec hstep
          have hYP : (Y : Int) - 1 = (P : Int) := by omega
          have hiz : (i : Int) - (z : Int) = (q : Int) := by omega
          have b3 : ((X : Int) != 1 + (T : Int)) = false := by rw [bne_eq_false_iff_eq]; omega
          have p1 : (P : Int) < (N : Int) := by omega
          have p2 : (q : Int) < (N : Int) := by omega
          have p3 : (j : Int) < (N : Int) := by omega
          have p4 : (i : Int) < (N : Int) := by omega
          have p5 : Y ≤ 3000 := by omega
          have p6 : T ≤ 3000 := by omega
          have hge1 : decide ((1 : Int) ≤ (i : Int)) = true := by simp; omega
          clear hj hz hY hT hX hP hq hq1 hin hzl hzp hYl hYp
          by_cases hXY : X = Y
          · have b1 : ((X : Int) != (Y : Int)) = false := by rw [bne_eq_false_iff_eq]; omega
            clear hXY hstep hrec
            as_aux_lemma =>
              go_wp2_with fail
              go_quiet (fail)
              go_wp2_with fail
              go_quiet (fail)
              go_wp2_with fail
              go_roundw
              case rel => exact ⟨i + 1, by omega, by omega, by go_num, Lib.hid (by repeat' (first | exact HW.out | refine Below.trans ?_ (belowN _ _ _)))⟩
              case measure => simp [intOf] <;> omega
          · have b1 : ((X : Int) != (Y : Int)) = true := by rw [bne_iff_ne]; omega
            have b2 : ((X : Int) != (Y : Int) + 1) = false := by rw [bne_eq_false_iff_eq]; omega
            clear hXY hstep hrec
            as_aux_lemma =>
              go_wp2_with fail
              go_quiet (fail)
              go_wp2_with fail
              go_quiet (fail)
              go_wp2_with fail
              go_roundw
              case rel => exact ⟨i + 1, by omega, by omega, by go_num, Lib.hid (by repeat' (first | exact HW.out | refine Below.trans ?_ (belowN _ _ _)))⟩
              case measure => simp [intOf] <;> omega
        · obtain rfl : i = N := by omega
          by_cases hS3 : S < 3000
          · have hl := HLAST.out hS3
            have hg0 : gN (S : Int) = true := by unfold gN; simp; omega
            have hg1 : gN ((S + 1 : Nat) : Int) = true := by unfold gN; simp; omega
            have h0 := HL0.out; have h1 := HL1.out
            rw [show ((S : Int) + 1) = ((S + 1 : Nat) : Int) by omega, sV_ok hg1, hl.2, hg1] at h1
            rw [sV_ok hg0, hl.1, hg0] at h0
            rw [show ((S + 1 : Nat) : Int) = (S : Int) + 1 by omega, show ((i + 1 : Nat) : Int) = (i : Int) + 1 by omega] at h1
            have K0 := Lib.hid h0; have K1 := Lib.hid h1
            clear h0 h1 hl hg0 hg1 HLAST HL0 HL1
            go_wp2_with fail
            refine (K0.out _).mono ?_
            rintro e w13 ⟨rfl, hb⟩
            have B13 := Lib.hid (HW.out.trans (hb.mono HW.out.size)); clear hb
            go_wp2_with fail
            refine (K1.out _).mono ?_
            rintro e w14 ⟨rfl, hb⟩
            have B14 := Lib.hid (B13.out.trans (hb.mono B13.out.size)); clear hb
            go_wp2_with fail
            go_meet
            case rel => exact Lib.hid (below_trans B3.out B14.out)
          · go_wp2_with fail
            go_meet
            case rel => exact Lib.hid (below_trans B3.out HW.out)
  case rest => as_aux_lemma =>
    clear HNS HA HS I4 B3 HY HWN ey ea es
    have HB0 := Lib.hid hcut.out
    have HD1 := Lib.hid (drawBackList_c wc more ms0 (argY_below HMS0.out HB0.out))
    clear hcut
    go_wp2_with fail
    refine HD1.out.mono ?_
    rintro e wm ⟨m, rfl, hwm, hbm⟩
    have HWM := Lib.hid hwm
    have HB := Lib.hid (below_trans HB0.out hbm)
    clear hwm hbm HD1 HB0
    obtain ⟨z, hz⟩ : ∃ z, z = gN m := ⟨_, rfl⟩
    obtain ⟨ms, hms⟩ : ∃ ms, ms = if z = true then slF bac m else [] := ⟨_, rfl⟩
    obtain ⟨a, ha⟩ : ∃ a, a = sV bac m := ⟨_, rfl⟩
    have h0 := fun W => implBackList_any m W
    have h1 := fun W => specBackList_any m W
    have h2 := fun W => implBackOf_any m W HWM.out
    have h3 := fun W => specBackOf_any m W
    simp only [← hz, ← hms, ← ha] at h0 h1 h2 h3
    have H0 := Lib.hid h0; have H1 := Lib.hid h1; have H2 := Lib.hid h2; have H3 := Lib.hid h3
    have HZ := Lib.hid hz; have HMS := Lib.hid hms; have HA := Lib.hid ha
    have ez : (z != z) = false := by simp
    have ea : (a != a) = false := by simp
    clear h0 h1 h2 h3 hz hms ha
    go_wp2_with fail
    refine (H0.out _).mono ?_
    rintro e x1 ⟨v0, rfl, hi, hb⟩
    have I0 := Lib.hid hi; have B0 := Lib.hid hb; clear hi hb
    go_wp2_with fail
    refine (H1.out _).mono ?_
    rintro e x2 ⟨v1, rfl, hi, hb⟩
    have I1 := Lib.hid hi; have J0 := Lib.hid (own_below I0.out hb); have B1 := Lib.hid (below_trans B0.out hb); clear hi hb I0 B0
    go_wp2_with fail
    refine (H2.out _).mono ?_
    rintro e x3 ⟨rfl, hb⟩
    have BB2 := Lib.hid hb; clear hb
    go_wp2_with fail
    refine (H3.out _).mono ?_
    rintro e x4 ⟨rfl, hb⟩
    have BB3 := Lib.hid (below_trans BB2.out hb); clear hb BB2
    have HD2 := Lib.hid (drawBackExcess_c x4 more ms0 (argY_below HMS0.out (below_trans HB.out (below_trans B1.out BB3.out))))
    go_wp2_with fail
    refine HD2.out.mono ?_
    rintro e xk ⟨k, rfl, hwk, hbk⟩
    have BB3' := Lib.hid (below_trans BB3.out hbk)
    clear BB3
    have BB3 := BB3'
    clear BB3' hbk HD2
    obtain ⟨s, hs⟩ : ∃ s, s = beV k := ⟨_, rfl⟩
    obtain ⟨t, ht⟩ : ∃ t, t = gN k := ⟨_, rfl⟩
    have h4 := fun W => implBackExcess_any k W hwk
    have h5 := fun W => specBackExcess_any k W
    simp only [← hs, ← ht] at h4 h5
    have H4 := Lib.hid h4; have H5 := Lib.hid h5
    have HS := Lib.hid hs; have HT := Lib.hid ht
    have et : (t != t) = false := by simp
    have es : (s != s) = false := by simp
    clear h4 h5 hs ht hwk
    go_wp2_with fail
    refine (H4.out _).mono ?_
    rintro e x5 ⟨rfl, hb⟩
    have BB4 := Lib.hid (below_trans BB3.out hb); clear hb BB3
    go_wp2_with fail
    refine (H5.out _).mono ?_
    rintro e x6 ⟨rfl, hb⟩
    have BB5 := Lib.hid (below_trans BB4.out hb); clear hb BB4
    have I2 := Lib.hid (own_below J0.out BB5.out)
    have I3 := Lib.hid (own_below I1.out BB5.out)
    have B2 := Lib.hid (below_trans HB.out (below_trans B1.out BB5.out))
    clear H0 H1 H2 H3 H4 H5 I1 J0 B1 BB5 HB
    go_wp2_with fail
    refine (fSame_same _ _ _ v0 v1 ms I2.out I3.out).mono ?_
    rintro e x7 ⟨rfl, hb⟩
    have B3 := Lib.hid (below_trans B2.out hb); have I4 := Lib.hid (own_below I2.out hb); clear hb B2 I2 I3
    go_upto_if 358 with fail
    go_cut [] from 358 to 358 (fun wx => Hid (Below w.heap.size w wx))
    case first => as_aux_lemma =>
      clear HS HT et es
      cases z with
      | false =>
        go_wp2_with fail
        go_meet
        case rel => exact Lib.hid B3.out
      | true =>
        obtain ⟨N, rfl, hN1, hN9⟩ := gN_open HZ.out.symm
        have e1 : ms = seqL (fun i => bac (i + 1)) N := by rw [HMS.out, if_pos rfl, slF]; rfl
        have e2 : a = ((bac N : Nat) : Int) := by rw [HA.out, sV_ok HZ.out.symm]
        have hrow : SeqRow x7 wm.heap.size v0 N (fun i => bac (i + 1)) := by have := I4.out; rw [e1, seqL_len] at this; exact this
        obtain ⟨g, c, rfl, hgB, hgw, hmc, hc9, hce⟩ := seqRow_cells hrow (by omega)
        have HCE := Lib.hid hce
        obtain ⟨A, hA⟩ : ∃ A, A = bac N := ⟨_, rfl⟩
        rw [← hA] at e2
        subst e2
        have cN : x7.cell? ⟨g, N - 1, none⟩ = some (.int .i64 (A : Int)) := by rw [hce (N - 1) (by omega), Nat.sub_add_cancel hN1, hA]
        have cZ : x7.cell? ⟨g, 0, none⟩ = some (.int .i64 1) := by rw [hce 0 (by omega), Nat.zero_add, bac_two.2.1]; rfl
        obtain ⟨M, hM⟩ : ∃ M, M = N - 1 := ⟨_, rfl⟩
        have hMN : (N : Int) - 1 = (M : Int) := by omega
        have hML : M < N := by omega
        rw [← hM] at cN
        clear hce hrow e1 hA hM I4 HMS HA
        go_wp2_with fail
        go_loopw [45] (fun iv wr => ∃ i : Nat, 2 ≤ i ∧ (i = 2 ∨ i ≤ N) ∧ iv = .int .i64 (i : Int) ∧ Hid (Below x7.heap.size x7 wr)) (fun iv _ => N - (intOf iv).toNat)
        case atStart => exact ⟨2, by omega, .inl rfl, rfl, Lib.hid (Below.refl _ _)⟩
        case round => as_aux_lemma =>
          obtain ⟨i, hi1, hiN, rfl, HW⟩ := hrel
          by_cases hlt : i < N
          · obtain ⟨j, hj⟩ : ∃ j, j = i - 1 := ⟨_, rfl⟩
            have hij : (i : Int) - 1 = (j : Int) := by omega
            have hjN : j < N := by omega
            have hst := bac_steps (i + 1) (by omega) (by omega)
            have hrec := bac_rec (i + 1) (by omega) (by omega)
            rw [Nat.add_sub_cancel] at hst hrec
            have hin := bac_in i (by omega)
            have hYp := hin.2.1 (by omega)
            have hYl := hin.2.2
            obtain ⟨P, hP⟩ : ∃ P, P = bac i - 1 := ⟨_, rfl⟩
            obtain ⟨q, hq⟩ : ∃ q, q = i - bac i := ⟨_, rfl⟩
            have hq1 : i + 1 - bac i = q + 1 := by omega
            rw [hq1] at hrec
            have hT9 := (bac_in (q + 1) (by omega)).2.2
            have hz9 := (bac_in (bac i) (by omega)).2.2
            have c1 : wr.cell? ⟨g, i, none⟩ = some (.int .i64 (bac (i + 1) : Nat)) := (HW.out.cell (p := ⟨g, i, none⟩) hgw).trans (HCE.out i hlt)
            have c0 : wr.cell? ⟨g, j, none⟩ = some (.int .i64 (bac i : Nat)) := by
              have := (HW.out.cell (p := ⟨g, j, none⟩) hgw).trans (HCE.out j hjN)
              rwa [hj, Nat.sub_add_cancel (by omega), ← hj] at this
            have cP : wr.cell? ⟨g, P, none⟩ = some (.int .i64 (bac (bac i) : Nat)) := by
              have := (HW.out.cell (p := ⟨g, P, none⟩) hgw).trans (HCE.out P (by omega))
              rwa [hP, Nat.sub_add_cancel hYp, ← hP] at this
            have cq : wr.cell? ⟨g, q, none⟩ = some (.int .i64 (bac (q + 1) : Nat)) := (HW.out.cell (p := ⟨g, q, none⟩) hgw).trans (HCE.out q (by omega))
            have hPN : P < N := by omega
            have hqN : q < N := by omega
            obtain ⟨u, hu⟩ : ∃ u, u = bac (bac i) := ⟨_, rfl⟩
            rw [← hu] at cP hrec hz9
            obtain ⟨Y, hY⟩ : ∃ Y, Y = bac i := ⟨_, rfl⟩
            rw [← hY] at c0 hP hst hYp hYl hq hz9
            obtain ⟨T, hT⟩ : ∃ T, T = bac (q + 1) := ⟨_, rfl⟩
            rw [← hT] at cq hrec hT9
            obtain ⟨X, hX⟩ : ∃ X, X = bac (i + 1) := ⟨_, rfl⟩
            rw [← hX] at c1 hrec hst
            have hYP : (Y : Int) - 1 = (P : Int) := by omega
            have hiz : (i : Int) - (Y : Int) = (q : Int) := by omega
            have b3 : ((X : Int) != (u : Int) + (T : Int)) = false := by rw [bne_eq_false_iff_eq]; omega
            have p1 : (P : Int) < (N : Int) := by omega
            have p2 : (q : Int) < (N : Int) := by omega
            have p3 : (j : Int) < (N : Int) := by omega
            have p4 : (i : Int) < (N : Int) := by omega
            have p5 : Y ≤ 3000 := by omega
            have p6 : T ≤ 3000 := by omega
            have p7 : u ≤ 3000 := by omega
            have hstep : X = Y ∨ X = Y + 1 := by omega
            clear hj hu hY hT hX hP hq hq1 hin hYl hYp hst hrec hz9 hT9
            by_cases hXY : X = Y
            · have b1 : ((X : Int) != (Y : Int)) = false := by rw [bne_eq_false_iff_eq]; omega
              clear hXY hstep
              as_aux_lemma =>
                go_wp2_with fail
                go_quiet (fail)
                go_wp2_with fail
                go_roundw
                case rel => exact ⟨i + 1, by omega, by omega, by go_num, Lib.hid (by repeat' (first | exact HW.out | refine Below.trans ?_ (belowN _ _ _)))⟩
                case measure => simp [intOf] <;> omega
            · have b1 : ((X : Int) != (Y : Int)) = true := by rw [bne_iff_ne]; omega
              have b2 : ((X : Int) != (Y : Int) + 1) = false := by rw [bne_eq_false_iff_eq]; omega
              clear hXY hstep
              as_aux_lemma =>
                go_wp2_with fail
                go_quiet (fail)
                go_wp2_with fail
                go_roundw
                case rel => exact ⟨i + 1, by omega, by omega, by go_num, Lib.hid (by repeat' (first | exact HW.out | refine Below.trans ?_ (belowN _ _ _)))⟩
                case measure => simp [intOf] <;> omega
          · have hnl : ¬ ((i : Int) < (N : Int)) := by omega
            go_wp2_with fail
            go_meet
            case rel => exact Lib.hid (below_trans B3.out HW.out)
    case rest => as_aux_lemma =>
      clear HZ HMS HA ez ea B3 I4
      have HB := Lib.hid hcut.out
      clear hcut
      cases t with
      | false =>
        go_wp2_with fail
        go_ret
        exact ⟨rfl, HB.out⟩
      | true =>
        obtain ⟨K, rfl, hK1, hK9⟩ := gN_open HT.out.symm
        have e2 : s = 2 * ((bac K : Nat) : Int) - (K : Int) := by rw [HS.out, beV_ok HT.out.symm]
        have hh := bac_half K hK1 hK9
        have hneg : ¬ (s < 0) := by omega
        by_cases h1 : 1 < K
        · have hbit : bits .and .i64 (K : Int) ((K : Int) - 1) = ((Nat.land K (K - 1) : Nat) : Int) := and_below K (by omega) (by omega)
          by_cases h0 : Nat.land K (K - 1) = 0
          · have h3 := hh.2 h1 h0
            have h4 : (s != 0) = false := by rw [bne_eq_false_iff_eq]; omega
            rw [h0] at hbit
            clear h0 h3 hh e2
            as_aux_lemma =>
              go_wp2_with fail
              go_ret
              exact ⟨rfl, HB.out⟩
          · obtain ⟨b, hb⟩ : ∃ b, b = Nat.land K (K - 1) := ⟨_, rfl⟩
            rw [← hb] at hbit h0
            have h4 : (((b : Nat) : Int) == 0) = false := by rw [beq_eq_false_iff_ne]; omega
            clear h0 hb hh e2
            as_aux_lemma =>
              go_wp2_with fail
              go_ret
              exact ⟨rfl, HB.out⟩
        · clear hh e2
          as_aux_lemma =>
            go_wp2_with fail
            go_ret
            exact ⟨rfl, HB.out⟩
end Go.Proofs.Ytakmmoplepghjaa
