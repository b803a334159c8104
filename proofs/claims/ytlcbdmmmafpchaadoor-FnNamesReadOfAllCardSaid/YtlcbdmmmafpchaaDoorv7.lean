/- Law FnNamesReadOfAll. (By tools/genv7.py.) -/
import Derived.Test.YtlcbdmmmafpchaaDoorvb
import Derived.Test.YtlcbdmmmafpchaaDoorv3
import Derived.Test.YtlcbdmmmafpchaaDoorn5
import Derived.Deep.DeepCutAuto
namespace Go.Proofs.YtlcbdmmmafpchaaDoor
open Go.RowKit Go.BigFrame Go.Deep
set_option linter.unusedSimpArgs false
set_option linter.unusedVariables false
set_option maxRecDepth 4000

set_option maxRecDepth 100000 in
set_option maxHeartbeats 8000000 in
theorem law_FnNamesReadOfAll (n : Int) (S : ByteArray) (m : Int) (LT LL : ByteArray) (w : World) (NA : NamesAt w) (hS : S.size ≤ maxLen) (hLT : LT.size ≤ maxLen) (hLL : LL.size ≤ maxLen) (hT : Lib.Utf8Tabs 3 4 w) :
    Calls Tryd.prog 4 #[.int .i64 n, .string S, .int .i64 m, .string LT, .string LL] w fun e w' => e = .returned (.bool true) ∧ Below w.heap.size w w' := by
  unfold maxLen at hS hLT hLL
  by_cases hS9 : 1048576 < S.size
  · clear NA hT
    go_enter Tryd.func4, Tryd.ntmps4
    go_wp2_with fail
    go_ret
    exact ⟨rfl, Below.refl _ _⟩
  by_cases hLT9 : 1048576 < LT.size
  · clear NA hT
    go_enter Tryd.func4, Tryd.ntmps4
    go_wp2_with fail
    go_ret
    exact ⟨rfl, Below.refl _ _⟩
  by_cases hLL9 : 1048576 < LL.size
  · clear NA hT
    go_enter Tryd.func4, Tryd.ntmps4
    go_wp2_with fail
    go_ret
    exact ⟨rfl, Below.refl _ _⟩
  have BD := Lib.hid (Below.refl w.heap.size w)
  have HNA := Lib.hid (fun (W : World) (hW : Below w.heap.size w W) => NA.below hW)
  have HUT := Lib.hid (fun (W : World) (hW : Below w.heap.size w W) => Utf8Tabs_below hT hW)
  clear NA hT hS hLT hLL
  obtain ⟨y, hy⟩ : ∃ y, y = nmB n := ⟨_, rfl⟩
  obtain ⟨T, hTT⟩ : ∃ T, T = bs (nameO n) := ⟨_, rfl⟩
  obtain ⟨Lt, hLt⟩ : ∃ Lt, Lt = lenO n := ⟨_, rfl⟩
  obtain ⟨ns, hns⟩ : ∃ ns, ns = chO n := ⟨_, rfl⟩
  obtain ⟨St, hSt⟩ : ∃ St, St = stO n := ⟨_, rfl⟩
  obtain ⟨ws, hws⟩ : ∃ ws, ws = wordsO n := ⟨_, rfl⟩
  obtain ⟨Df, hDf⟩ : ∃ Df, Df = difO n := ⟨_, rfl⟩
  obtain ⟨Hn, hHn⟩ : ∃ Hn, Hn = honO n := ⟨_, rfl⟩
  have h0 := fun W hW => implNameOf_any n W (HNA.out W hW)
  have h1 := fun W => specNameOf_any n W
  have h2 := fun W hW => implLettersOf_any n W (HNA.out W hW)
  have h3 := fun W => specLettersOf_any n W
  have h4 := fun W hW => implChainOf_any n W (HNA.out W hW)
  have h5 := fun W => specChainOf_any n W
  have h6 := fun W hW => implStepsToFour_any n W (HNA.out W hW)
  have h7 := fun W => specStepsToFour_any n W
  have h8 := fun W hW => implWordsOfName_any n W (HNA.out W hW)
  have h9 := fun W => specWordsOfName_any n W
  have h10 := fun W hW => implDifferentLetters_any n W (HNA.out W hW)
  have h11 := fun W => specDifferentLetters_any n W
  have h12 := fun W hW => implIsHonest_any n W (HNA.out W hW)
  have h13 := fun W => specIsHonest_any n W
  simp only [← hy, ← hTT, ← hLt, ← hns, ← hSt, ← hws, ← hDf, ← hHn] at h0 h1 h2 h3 h4 h5 h6 h7 h8 h9 h10 h11 h12 h13
  have H0 := Lib.hid h0; have H1 := Lib.hid h1; have H2 := Lib.hid h2; have H3 := Lib.hid h3; have H4 := Lib.hid h4; have H5 := Lib.hid h5; have H6 := Lib.hid h6; have H7 := Lib.hid h7; have H8 := Lib.hid h8; have H9 := Lib.hid h9; have H10 := Lib.hid h10; have H11 := Lib.hid h11; have H12 := Lib.hid h12; have H13 := Lib.hid h13
  have HY := Lib.hid hy; have HTT := Lib.hid hTT; have HLt := Lib.hid hLt; have HNS := Lib.hid hns; have HSt := Lib.hid hSt; have HWS := Lib.hid hws; have HDf := Lib.hid hDf; have HHn := Lib.hid hHn
  have ey : (y != y) = false := by simp
  have eT : (T.toList != T.toList) = false := by simp
  have eL : (Lt != Lt) = false := by simp
  have eS : (St != St) = false := by simp
  have eD : (Df != Df) = false := by simp
  have eH : (Hn != Hn) = false := by simp
  clear h0 h1 h2 h3 h4 h5 h6 h7 h8 h9 h10 h11 h12 h13 hy hTT hLt hns hSt hws hDf hHn
  go_enter Tryd.func4, Tryd.ntmps4
  go_wp2_with fail
  refine (H0.out _ BD.out).mono ?_
  rintro e w1 ⟨rfl, hb⟩
  have B0 := Lib.hid (below_trans BD.out hb);  clear hb BD H0
  go_wp2_with fail
  refine (H1.out _).mono ?_
  rintro e w2 ⟨rfl, hb⟩
  have B1 := Lib.hid (below_trans B0.out hb);  clear hb B0 H1
  go_wp2_with fail
  refine (H2.out _ B1.out).mono ?_
  rintro e w3 ⟨rfl, hb⟩
  have B2 := Lib.hid (below_trans B1.out hb);  clear hb B1 H2
  go_wp2_with fail
  refine (H3.out _).mono ?_
  rintro e w4 ⟨rfl, hb⟩
  have B3 := Lib.hid (below_trans B2.out hb);  clear hb B2 H3
  go_wp2_with fail
  refine (H4.out _ B3.out).mono ?_
  rintro e w5 ⟨v4, rfl, hi, hb⟩
  have B4 := Lib.hid (below_trans B3.out hb);  have I4 := Lib.hid hi; clear hb hi B3 H4
  go_wp2_with fail
  refine (H5.out _).mono ?_
  rintro e w6 ⟨v5, rfl, hi, hb⟩
  have B5 := Lib.hid (below_trans B4.out hb); have I4_5 := Lib.hid (own_below I4.out hb);  have I5 := Lib.hid hi; clear hb hi B4 I4 H5
  go_wp2_with fail
  refine (H6.out _ B5.out).mono ?_
  rintro e w7 ⟨rfl, hb⟩
  have B6 := Lib.hid (below_trans B5.out hb); have I4_6 := Lib.hid (own_below I4_5.out hb); have I5_6 := Lib.hid (own_below I5.out hb);  clear hb B5 I4_5 I5 H6
  go_wp2_with fail
  refine (H7.out _).mono ?_
  rintro e w8 ⟨rfl, hb⟩
  have B7 := Lib.hid (below_trans B6.out hb); have I4_7 := Lib.hid (own_below I4_6.out hb); have I5_7 := Lib.hid (own_below I5_6.out hb);  clear hb B6 I4_6 I5_6 H7
  go_wp2_with fail
  refine (H8.out _ B7.out).mono ?_
  rintro e w9 ⟨v8, rfl, hi, hb⟩
  have B8 := Lib.hid (below_trans B7.out hb); have I4_8 := Lib.hid (own_below I4_7.out hb); have I5_8 := Lib.hid (own_below I5_7.out hb);  have I8 := Lib.hid hi; clear hb hi B7 I4_7 I5_7 H8
  go_wp2_with fail
  refine (H9.out _).mono ?_
  rintro e w10 ⟨v9, rfl, hi, hb⟩
  have B9 := Lib.hid (below_trans B8.out hb); have I4_9 := Lib.hid (own_below I4_8.out hb); have I5_9 := Lib.hid (own_below I5_8.out hb); have I8_9 := Lib.hid (own_below I8.out hb);  have I9 := Lib.hid hi; clear hb hi B8 I4_8 I5_8 I8 H9
  go_wp2_with fail
  refine (H10.out _ B9.out).mono ?_
  rintro e w11 ⟨rfl, hb⟩
  have B10 := Lib.hid (below_trans B9.out hb); have I4_10 := Lib.hid (own_below I4_9.out hb); have I5_10 := Lib.hid (own_below I5_9.out hb); have I8_10 := Lib.hid (own_below I8_9.out hb); have I9_10 := Lib.hid (own_below I9.out hb);  clear hb B9 I4_9 I5_9 I8_9 I9 H10
  go_wp2_with fail
  refine (H11.out _).mono ?_
  rintro e w12 ⟨rfl, hb⟩
  have B11 := Lib.hid (below_trans B10.out hb); have I4_11 := Lib.hid (own_below I4_10.out hb); have I5_11 := Lib.hid (own_below I5_10.out hb); have I8_11 := Lib.hid (own_below I8_10.out hb); have I9_11 := Lib.hid (own_below I9_10.out hb);  clear hb B10 I4_10 I5_10 I8_10 I9_10 H11
  go_wp2_with fail
  refine (H12.out _ B11.out).mono ?_
  rintro e w13 ⟨rfl, hb⟩
  have B12 := Lib.hid (below_trans B11.out hb); have I4_12 := Lib.hid (own_below I4_11.out hb); have I5_12 := Lib.hid (own_below I5_11.out hb); have I8_12 := Lib.hid (own_below I8_11.out hb); have I9_12 := Lib.hid (own_below I9_11.out hb);  clear hb B11 I4_11 I5_11 I8_11 I9_11 H12
  go_wp2_with fail
  refine (H13.out _).mono ?_
  rintro e w14 ⟨rfl, hb⟩
  have B13 := Lib.hid (below_trans B12.out hb); have I4_13 := Lib.hid (own_below I4_12.out hb); have I5_13 := Lib.hid (own_below I5_12.out hb); have I8_13 := Lib.hid (own_below I8_12.out hb); have I9_13 := Lib.hid (own_below I9_12.out hb);  clear hb B12 I4_12 I5_12 I8_12 I9_12 H13
  go_wp2_with fail
  refine (qSame_same _ _ _ v4 v5 ns I4_13.out I5_13.out).mono ?_
  rintro e w15 ⟨rfl, hb⟩
  have B14 := Lib.hid (below_trans B13.out hb); have C4 := Lib.hid (own_below I4_13.out hb); have C8 := Lib.hid (own_below I8_13.out hb); have C9 := Lib.hid (own_below I9_13.out hb)
  clear hb B13 I4_13 I5_13 I8_13 I9_13
  go_wp2_with fail
  refine (qTexts_same _ _ _ v8 v9 ws C8.out C9.out).mono ?_
  rintro e w16 ⟨rfl, hb⟩
  have B15 := Lib.hid (below_trans B14.out hb); have D4 := Lib.hid (own_below C4.out hb); have D8 := Lib.hid (own_below C8.out hb)
  clear hb B14 C4 C8 C9
  go_upto_if 251 with fail
  go_cut [] from 251 to 251 (fun wx => Hid (Below w.heap.size w wx))
  case first => as_aux_lemma =>
    cases y with
    | false =>
      go_wp2_with fail
      go_meet
      case rel => exact Lib.hid B15.out
    | true =>
      have hyo := HY.out.symm
      obtain ⟨k, hkn, hk⟩ := nmB_parts hyo
      have hyk := hyo
      rw [hkn] at hyk
      have hname : nameO n = nmN k := by unfold nameO; rw [if_pos hyo, hkn]; rfl
      have hlen : Lt = ((ltN k).length : Int) := by rw [HLt.out]; unfold lenO; rw [if_pos hyo, hkn]; rfl
      have hch : ns = toI (chL k) := by rw [HNS.out]; unfold chO; rw [if_pos hyo, hkn]; rfl
      have hst : St = (((chL k).length - 1 : Nat) : Int) := by rw [HSt.out]; unfold stO; rw [if_pos hyo, hkn]; rfl
      have hwo : ws = wdsN k := by rw [HWS.out]; unfold wordsO; rw [if_pos hyo, hkn]; rfl
      have hdi : Df = (difN (ltN k) : Int) := by rw [HDf.out]; unfold difO; rw [if_pos hyo, hkn]; rfl
      obtain ⟨hb, hhb⟩ : ∃ hb, hb = decide (k = 4) := ⟨_, rfl⟩
      have hho : Hn = hb := by
        rw [HHn.out]; unfold honO
        rw [hyo, Bool.true_and, hhb]
        rw [decide_eq_decide]
        unfold lenO
        rw [if_pos hyo, hkn, Int.toNat_natCast]
        have := lt_own hk
        unfold ltlen at this
        omega
      have hb1 : (Lt == n) = hb := by
        rw [hhb, hlen, hkn]
        have := lt_own hk
        unfold ltlen at this
        by_cases h4 : k = 4
        · rw [decide_eq_true h4, beq_iff_eq]; omega
        · rw [decide_eq_false h4, beq_eq_false_iff_ne]; omega
      have hb2 : (n == 4) = hb := by
        rw [hhb, hkn]
        by_cases h4 : k = 4
        · rw [decide_eq_true h4, beq_iff_eq]; omega
        · rw [decide_eq_false h4, beq_eq_false_iff_ne]; omega
      subst hho
      have ehb : (Hn != Hn) = false := by simp
      have HB1 := Lib.hid hb1; have HB2 := Lib.hid hb2
      clear hb1 hb2 hhb
      obtain ⟨pp, hpp⟩ : ∃ pp, pp = (chL k).length - 1 := ⟨_, rfl⟩
      obtain ⟨g1, g2, g3, g4⟩ := ch_ends k hk
      have hnl : ns.length = pp + 1 := by rw [hch, toI_len]; omega
      rw [← hpp] at hst g4
      have hp10 : pp ≤ 10 := by omega
      have hdl : 1 ≤ Df ∧ Df ≤ Lt := by rw [hdi, hlen]; have := dif_in k hk; omega
      have hnne : (n != n) = false := by simp
      have hrd := fun W hW => implReadName_any (nmN k) (by have := nmN_len k hk; omega) W (HNA.out W hW) (HUT.out W hW)
      have er : readO (nmN k) = some k := (readO_iff _ _).2 ⟨hk, rfl⟩
      have er2 : readI (nmN k) = n := by unfold readI; rw [er, hkn]; rfl
      rw [er2, er, ← hname, ← HTT.out] at hrd
      simp only [Option.isSome_some] at hrd
      have HRD := Lib.hid hrd
      rcases ints_open D4.out with ⟨_, h0⟩ | ⟨g, cap, rfl, _, hgs, hgn, hcp, hca, _⟩
      · exfalso; rw [h0] at hnl; simp at hnl
      have hcell : ∀ i, i ≤ pp → w16.cell? ⟨g, i, none⟩ = some (.int .i64 (((chL k).getD i 0 : Nat) : Int)) := by
        intro i hi
        have hi2 : i < ns.length := by omega
        rw [hca i hi2, ← toI_get, ← hch, List.getD_eq_getElem?_getD, List.getElem?_eq_getElem hi2]; rfl
      have c0 : w16.cell? ⟨g, 0, none⟩ = some (.int .i64 n) := by rw [hcell 0 (by omega), g3, hkn]
      have cp : w16.cell? ⟨g, pp, none⟩ = some (.int .i64 4) := by rw [hcell pp (Nat.le_refl _), g4]; rfl
      have HCELL := Lib.hid hcell
      have hnext := ch_next k hk
      have HNEXT := Lib.hid (show ∀ i, 1 ≤ i → i ≤ pp → (chL k).getD (i - 1) 0 < 1000000 ∧ ltlen ((chL k).getD (i - 1) 0) = (chL k).getD i 0 ∧ (chL k).getD (i - 1) 0 ≠ 4 from fun i h1 h2 => hnext i h1 (by omega))
      have hTs : T.size = (nmN k).length := by rw [HTT.out, hname, bs_size]
      have hT64 : T.size ≤ 64 := by rw [hTs]; exact nmN_len k hk
      have hcount := nm_count k hk
      have hwc : ws.length = (nmN k).count 32 + 1 := by rw [hwo]; exact wds_count k hk
      have HT2 := Lib.hid (show T = bs (nmN k) by rw [HTT.out, hname])
      have hl64 := ltN_len k hk
      have HHK := Lib.hid hk; have HKN := Lib.hid hkn; have HYK := Lib.hid hyk
      have hwv : ∃ A c, v8 = .slice A ws.length c := by
        rcases strs_open D8.out with ⟨rfl, h0⟩ | ⟨g', cap', rfl, _⟩
        · exact ⟨none, 0, by rw [h0]; rfl⟩
        · exact ⟨_, _, rfl⟩
      obtain ⟨A8, c8, hv8⟩ := hwv
      subst hv8
      have HNL := Lib.hid hnl; have HWC := Lib.hid hwc; have HCO := Lib.hid hcount; have HLEN := Lib.hid hlen; have HDI := Lib.hid hdi; have HTS := Lib.hid hTs
      have hLb : 0 ≤ Lt ∧ Lt ≤ 64 := by rw [hlen]; omega
      obtain ⟨hd1, hd2⟩ := hdl
      have hnc : ((ns.length : Int) != (pp : Int) + 1) = false := by rw [bne_eq_false_iff_eq]; omega
      have hz1 : (0 : Int) < (ns.length : Int) := by omega
      have hz2 : (pp : Int) < (ns.length : Int) := by omega
      have hdg : ¬ Df > Lt := by omega
      have hdg2 : ¬ Df < 1 := by omega
      have hle11 : ns.length ≤ 11 := by omega
      have hb1 := HB1.out; have hb2 := HB2.out
      obtain ⟨qq, hqq⟩ : ∃ qq : Int, qq = 4 := ⟨_, rfl⟩
      subst hst
      clear hqq qq hyo hyk hname hch hwo g1 g2 g3 g4 hpp hrd er er2 hca hcell hnext hcount hwc hl64 hnl hlen hdi hTs hk hkn HY HTT HLt HNS HSt HWS HDf HHn D4 D8
      go_wp2_with fail
      refine (HRD.out _ B15.out).mono ?_
      rintro e w17 ⟨rfl, hbb⟩
      have hgw : g < w16.heap.size := hgs
      have d0 : w17.cell? ⟨g, 0, none⟩ = some (.int .i64 n) := (hbb.cell (p := ⟨g, 0, none⟩) hgw).trans c0
      have dp : w17.cell? ⟨g, pp, none⟩ = some (.int .i64 4) := (hbb.cell (p := ⟨g, pp, none⟩) hgw).trans cp
      have B16 := Lib.hid (below_trans B15.out hbb); have B17 := Lib.hid hbb
      clear hbb c0 cp HRD
      go_wp2_with fail
      go_loopw [41] (fun iv wr => ∃ i : Nat, 1 ≤ i ∧ i ≤ pp + 1 ∧ iv = .int .i64 (i : Int) ∧ Hid (Below w17.heap.size w17 wr)) (fun iv _ => pp + 1 - (intOf iv).toNat)
      case atStart => exact ⟨1, by omega, by omega, rfl, Lib.hid (Below.refl _ _)⟩
      case round => as_aux_lemma =>
        obtain ⟨i, hi1, hi, rfl, HW⟩ := hrel
        by_cases hlt : i ≤ pp
        · obtain ⟨j, hj⟩ : ∃ j, j = i - 1 := ⟨_, rfl⟩
          have hji : (i : Int) - 1 = (j : Int) := by omega
          have hil : (i : Int) < (ns.length : Int) := by have := HNL.out; omega
          have hjl : (j : Int) < (ns.length : Int) := by omega
          obtain ⟨h1, h2, h3⟩ := HNEXT.out i hi1 hlt
          rw [← hj] at h1 h2 h3
          have hgw2 : g < w17.heap.size := Nat.lt_of_lt_of_le hgs B17.out.size
          have cj : wr.cell? ⟨g, j, none⟩ = some (.int .i64 (((chL k).getD j 0 : Nat) : Int)) := (HW.out.cell (p := ⟨g, j, none⟩) hgw2).trans ((B17.out.cell (p := ⟨g, j, none⟩) hgs).trans (HCELL.out j (by omega)))
          have ci : wr.cell? ⟨g, i, none⟩ = some (.int .i64 (((chL k).getD i 0 : Nat) : Int)) := (HW.out.cell (p := ⟨g, i, none⟩) hgw2).trans ((B17.out.cell (p := ⟨g, i, none⟩) hgs).trans (HCELL.out i (by omega)))
          have hl := implLettersOf_any (((chL k).getD j 0 : Nat) : Int) wr (HNA.out _ (below_trans B16.out HW.out))
          have e1 : nmB (((chL k).getD j 0 : Nat) : Int) = true := by unfold nmB; exact decide_eq_true (by omega)
          have e2 : lenO (((chL k).getD j 0 : Nat) : Int) = (((chL k).getD i 0 : Nat) : Int) := by rw [lenO_nat _ e1, h2]
          rw [e1, e2] at hl
          have ha4 : (((chL k).getD j 0 : Nat) : Int) ≠ 4 := by omega
          clear e1 e2 h1 h2 h3
          generalize (((chL k).getD j 0 : Nat) : Int) = A at *
          generalize (((chL k).getD i 0 : Nat) : Int) = B at *
          have hA4 : (A == 4) = false := beq_eq_false_iff_ne.2 ha4
          have hBB : (B != B) = false := by simp
          have HL := Lib.hid hl
          have hgr : g < wr.heap.size := Nat.lt_of_lt_of_le hgw2 HW.out.size
          clear hl ha4 hj
          go_wp2_with fail
          refine HL.out.mono ?_
          rintro e w18 ⟨rfl, hbb⟩
          have dj : w18.cell? ⟨g, j, none⟩ = some (.int .i64 A) := (hbb.cell (p := ⟨g, j, none⟩) hgr).trans cj
          have di : w18.cell? ⟨g, i, none⟩ = some (.int .i64 B) := (hbb.cell (p := ⟨g, i, none⟩) hgr).trans ci
          have HB := Lib.hid (HW.out.trans (hbb.mono HW.out.size))
          clear hbb cj ci
          go_wp2_with fail
          first
            | exact ⟨⟨i + 1, by omega, by omega, by go_num, HB⟩, by simp [intOf]; omega⟩
            | (go_roundw; case rel => exact ⟨i + 1, by omega, by omega, by go_num, HB⟩; case measure => simp [intOf] <;> omega)
        · obtain rfl : i = pp + 1 := by omega
          have hil : ¬ ((pp + 1 : Nat) : Int) < (ns.length : Int) := by have := HNL.out; omega
          have B18 := Lib.hid (below_trans B16.out HW.out)
          clear HW B17 dp d0 HCELL HNEXT HNL hnc hz1 hz2
          go_wp2_with fail
          go_loopw [44, 45, 46] (fun bv mv iv wr => ∃ (i b q : Nat), i ≤ T.size ∧ iv = .int .i64 (i : Int) ∧ bv = .int .i64 (b : Int) ∧ mv = .int .i64 (q : Int) ∧ b ≤ i ∧ q ≤ i ∧ Hid (b = ((nmN k).take i).count 32 ∧ q = ((nmN k).take i).count 45) ∧ Hid (Below w.heap.size w wr)) (fun _ _ iv _ => T.size - (intOf iv).toNat)
          case atStart => exact ⟨0, 0, 0, by omega, rfl, rfl, rfl, by omega, by omega, Lib.hid ⟨rfl, rfl⟩, Lib.hid B18.out⟩
          case round => as_aux_lemma =>
            obtain ⟨i, b, q, hi, rfl, rfl, rfl, hbi, hqi, HBQ, HW⟩ := hrel
            by_cases hlt : i < T.size
            · have hin : i < (nmN k).length := by rw [← HTS.out]; exact hlt
              have hTi : T[i] = (nmN k)[i] := by
                have h := HT2.out
                have : ∀ (t : ByteArray) (h : t = bs (nmN k)) (hi : i < t.size), t[i] = (nmN k)[i] := by
                  intro t h hi; subst h; exact getB _ _ _ _
                exact this T h hlt
              have t1 := take_count (nmN k) 32 i hin
              have t2 := take_count (nmN k) 45 i hin
              rw [← hTi] at t1 t2
              rw [← HBQ.out.1] at t1; rw [← HBQ.out.2] at t2
              have HT12 := Lib.hid (And.intro t1 t2)
              have u8n : ∀ (c : UInt8) (m : Nat) (hm : m < 256), ((c.toNat : Int) == (m : Int)) = decide (c = UInt8.ofNat m) := by
                intro c m hm
                by_cases e : c = UInt8.ofNat m
                · rw [decide_eq_true e, beq_iff_eq, e, UInt8.toNat_ofNat']; omega
                · rw [decide_eq_false e, beq_eq_false_iff_ne]
                  intro h
                  apply e
                  apply UInt8.toNat_inj.1
                  rw [UInt8.toNat_ofNat']; omega
              have f1 := u8n T[i] 32 (by omega)
              have f2 := u8n T[i] 45 (by omega)
              by_cases e32 : T[i] = 32
              · have f1' : ((T[i].toNat : Int) == 32) = true := by rw [show (32 : Int) = ((32 : Nat) : Int) from rfl, f1]; exact decide_eq_true e32
                have f2' : ((T[i].toNat : Int) == 45) = false := by rw [show (45 : Int) = ((45 : Nat) : Int) from rfl, f2]; exact decide_eq_false (by rw [e32]; decide)
                have hnew : Hid (b + 1 = ((nmN k).take (i + 1)).count 32 ∧ q = ((nmN k).take (i + 1)).count 45) := Lib.hid ⟨by rw [HT12.out.1, if_pos e32], by rw [HT12.out.2, if_neg (by rw [e32]; decide)]; rfl⟩
                clear hTi t1 t2 u8n f1 f2 e32 HT12 HBQ
                go_wp2_with fail
                go_roundw
                case rel => exact ⟨i + 1, b + 1, q, by omega, by go_num, by go_num, rfl, by omega, by omega, hnew, HW⟩
                case measure => simp [intOf] <;> omega
              · have f1' : ((T[i].toNat : Int) == 32) = false := by rw [show (32 : Int) = ((32 : Nat) : Int) from rfl, f1]; exact decide_eq_false e32
                by_cases e45 : T[i] = 45
                · have f2' : ((T[i].toNat : Int) == 45) = true := by rw [show (45 : Int) = ((45 : Nat) : Int) from rfl, f2]; exact decide_eq_true e45
                  have hnew : Hid (b = ((nmN k).take (i + 1)).count 32 ∧ q + 1 = ((nmN k).take (i + 1)).count 45) := Lib.hid ⟨by rw [HT12.out.1, if_neg e32]; rfl, by rw [HT12.out.2, if_pos e45]⟩
                  clear hTi t1 t2 u8n f1 f2 e32 e45 HT12 HBQ
                  go_wp2_with fail
                  go_roundw
                  case rel => exact ⟨i + 1, b, q + 1, by omega, by go_num, rfl, by go_num, by omega, by omega, hnew, HW⟩
                  case measure => simp [intOf] <;> omega
                · have f2' : ((T[i].toNat : Int) == 45) = false := by rw [show (45 : Int) = ((45 : Nat) : Int) from rfl, f2]; exact decide_eq_false e45
                  have hnew : Hid (b = ((nmN k).take (i + 1)).count 32 ∧ q = ((nmN k).take (i + 1)).count 45) := Lib.hid ⟨by rw [HT12.out.1, if_neg e32]; rfl, by rw [HT12.out.2, if_neg e45]; rfl⟩
                  clear hTi t1 t2 u8n f1 f2 e32 e45 HT12 HBQ
                  go_wp2_with fail
                  go_roundw
                  case rel => exact ⟨i + 1, b, q, by omega, by go_num, rfl, rfl, by omega, by omega, hnew, HW⟩
                  case measure => simp [intOf] <;> omega
            · obtain rfl : i = T.size := by omega
              have hb32 : b = (nmN k).count 32 := by rw [HBQ.out.1, List.take_of_length_le (by rw [← HTS.out]; exact Nat.le_refl _)]
              have hq45 : q = (nmN k).count 45 := by rw [HBQ.out.2, List.take_of_length_le (by rw [← HTS.out]; exact Nat.le_refl _)]
              have hco := HCO.out
              rw [← hb32, ← hq45, ← HTS.out] at hco
              have hwc := HWC.out
              rw [← hb32] at hwc
              have hx1 : ((ws.length : Int) != (b : Int) + 1) = false := by rw [bne_eq_false_iff_eq]; omega
              have hx2 : ((T.size : Int) != Lt + (b : Int) + (q : Int)) = false := by rw [bne_eq_false_iff_eq, HLEN.out]; omega
              have hsm := count_sumK (ltN k) (ltN_all k)
              have hso := dif_sumK (ltN k)
              have hsumle : ∀ j, j ≤ 26 → sumK (fun i => (ltN k).count (az i)) j ≤ 64 ∧ sumK (fun i => if 0 < (ltN k).count (az i) then 1 else 0) j ≤ 64 := by
                intro j hj
                have a1 := sumK_mono (fun i => (ltN k).count (az i)) j 26 hj
                have a2 := sumK_mono (fun i => if 0 < (ltN k).count (az i) then 1 else 0) j 26 hj
                have a3 := ltN_len k HHK.out
                have a4 := dif_in k HHK.out
                omega
              have HSM := Lib.hid hsm; have HSO := Lib.hid hso; have HSL := Lib.hid hsumle
              clear hsm hso hsumle hb32 hq45 hco hwc HBQ HCO HWC
              go_wp2_with fail
              go_loopw [47, 48, 49] (fun sv ov cv wr => ∃ (j a q u : Nat), j ≤ 26 ∧ u = 97 + j ∧ cv = .int .u8 (u : Int) ∧ sv = .int .i64 (a : Int) ∧ ov = .int .i64 (q : Int) ∧ Hid (a = sumK (fun i => (ltN k).count (az i)) j ∧ q = sumK (fun i => if 0 < (ltN k).count (az i) then 1 else 0) j) ∧ Hid (Below w.heap.size w wr)) (fun _ _ cv _ => 123 - (intOf cv).toNat)
              case atStart => exact ⟨0, 0, 0, 97, by omega, rfl, rfl, rfl, rfl, Lib.hid ⟨rfl, rfl⟩, Lib.hid HW.out⟩
              case round => as_aux_lemma =>
                obtain ⟨j, a, q, u, hj, hu, rfl, rfl, rfl, HAQ, HV⟩ := hrel
                have hsl := HSL.out j hj
                rw [← HAQ.out.1, ← HAQ.out.2] at hsl
                by_cases hlt : j < 26
                · have hu1 : (u : Int) ≤ 122 := by omega
                  have hw32 : IntKind.i32.wrap (u : Int) = (u : Int) := by rw [IntKind.wrap_i32]; omega
                  have hcv := fun W => conv_rune j hlt W
                  rw [← hu] at hcv
                  have hl := implCountLetter_any n [az j] (by simp) wr (HNA.out _ HV.out)
                  rw [HKN.out, cntO_az HYK.out hlt, HYK.out, letB_az hlt, Bool.and_self, ← HKN.out] at hl
                  have hs1 : sumK (fun i => (ltN k).count (az i)) (j + 1) = a + (ltN k).count (az j) := by rw [sumK, ← HAQ.out.1]
                  have hs2 : sumK (fun i => if 0 < (ltN k).count (az i) then 1 else 0) (j + 1) = q + if 0 < (ltN k).count (az j) then 1 else 0 := by rw [sumK, ← HAQ.out.2]
                  have hsl1 := HSL.out (j + 1) (by omega)
                  rw [hs1] at hsl1
                  have HS12 := Lib.hid (And.intro hs1 hs2)
                  obtain ⟨x, hx⟩ : ∃ x, x = (ltN k).count (az j) := ⟨_, rfl⟩
                  rw [← hx] at hl hsl1
                  obtain ⟨t, ht⟩ : ∃ t, t = bs [az j] := ⟨_, rfl⟩
                  rw [← ht] at hl; simp only [← ht] at hcv
                  have HL := Lib.hid hl; have HX := Lib.hid hx
                  have hx9 : a + x ≤ 64 := hsl1.1
                  have hu9 : u ≤ 122 := by omega
                  have HU := Lib.hid hu
                  clear hs1 hs2 hx ht hl hsl1 hu
                  by_cases hx0 : 0 < x
                  · have hx0' : (x : Int) > 0 := by omega
                    go_wp2_with fail
                    refine HL.out.mono ?_
                    rintro e w18 ⟨rfl, hbb⟩
                    have HB := Lib.hid (below_trans HV.out hbb)
                    clear hbb
                    go_wp2_with fail
                    go_roundw
                    case rel => exact ⟨j + 1, a + x, q + 1, u + 1, by omega, by have := HU.out; omega, by go_num, by go_num, by go_num, Lib.hid ⟨by rw [HS12.out.1, HX.out], by rw [HS12.out.2, ← HX.out, if_pos hx0]⟩, HB⟩
                    case measure => simp [intOf, IntWalk.u8_in] <;> omega
                  · have hx0' : ¬ (x : Int) > 0 := by omega
                    go_wp2_with fail
                    refine HL.out.mono ?_
                    rintro e w18 ⟨rfl, hbb⟩
                    have HB := Lib.hid (below_trans HV.out hbb)
                    clear hbb
                    go_wp2_with fail
                    go_roundw
                    case rel => exact ⟨j + 1, a + x, q, u + 1, by omega, by have := HU.out; omega, by go_num, by go_num, rfl, Lib.hid ⟨by rw [HS12.out.1, HX.out], by rw [HS12.out.2, ← HX.out, if_neg hx0]; rfl⟩, HB⟩
                    case measure => simp [intOf, IntWalk.u8_in] <;> omega
                · obtain rfl : j = 26 := by omega
                  obtain rfl : u = 123 := by omega
                  have hy1 : ((a : Int) != Lt) = false := by rw [bne_eq_false_iff_eq, HLEN.out, HAQ.out.1, HSM.out]
                  have hy2 : ((q : Int) != Df) = false := by rw [bne_eq_false_iff_eq, HDI.out, HAQ.out.2, HSO.out]
                  clear HAQ
                  go_wp2_with fail
                  go_meet
                  case rel => exact Lib.hid HV.out
  case rest => as_aux_lemma =>
    clear HY HTT HLt HNS HSt HWS HDf HHn D4 D8 B15 ey eT eL eS eD eH
    have HB0 := Lib.hid hcut.out
    clear hcut
    have HB1 := Lib.hid HB0.out
    clear HB0
    have hsl : S.data.toList.length ≤ 9223372036854775807 := by simp; omega
    have h0 := fun W hW => implReadName_any S.data.toList hsl W (HNA.out W hW) (HUT.out W hW)
    have h1 := fun W => specReadName_any S.data.toList hsl W
    simp only [← bs_eq (t := S) rfl] at h0 h1
    obtain ⟨O, hO⟩ : ∃ O, O = readI S.data.toList := ⟨_, rfl⟩
    obtain ⟨z, hz⟩ : ∃ z, z = (readO S.data.toList).isSome := ⟨_, rfl⟩
    simp only [← hO, ← hz] at h0 h1
    have H0 := Lib.hid h0; have H1 := Lib.hid h1; have HO := Lib.hid hO; have HZ := Lib.hid hz
    have eO : (O != O) = false := by simp
    have ez : (z != z) = false := by simp
    clear h0 h1 hO hz hsl
    go_wp2_with fail
    refine (H0.out _ HB1.out).mono ?_
    rintro e x1 ⟨rfl, hb⟩
    have BX1 := Lib.hid (below_trans HB1.out hb); clear hb HB1
    go_wp2_with fail
    refine (H1.out _).mono ?_
    rintro e x2 ⟨rfl, hb⟩
    have BX2 := Lib.hid (below_trans BX1.out hb); clear hb BX1 H0 H1
    have BX3 := Lib.hid BX2.out
    clear BX2
    have hsl : LT.data.toList.length ≤ 9223372036854775807 := by simp; omega
    have h0 := fun W hW => implCountLetter_any m LT.data.toList hsl W (HNA.out W hW)
    have h1 := fun W => specCountLetter_any m LT.data.toList hsl W
    simp only [← bs_eq (t := LT) rfl] at h0 h1
    generalize cntO m LT.data.toList = O2 at h0 h1
    generalize (nmB m && letB LT.data.toList) = z2 at h0 h1
    have H0 := Lib.hid h0; have H1 := Lib.hid h1
    have eO2 : (O2 != O2) = false := by simp
    have ez2 : (z2 != z2) = false := by simp
    clear h0 h1 hsl
    go_wp2_with fail
    refine (H0.out _ BX3.out).mono ?_
    rintro e x3 ⟨rfl, hb⟩
    have BX4 := Lib.hid (below_trans BX3.out hb); clear hb BX3
    go_wp2_with fail
    refine (H1.out _).mono ?_
    rintro e x4 ⟨rfl, hb⟩
    have BX5 := Lib.hid (below_trans BX4.out hb); clear hb BX4 H0 H1
    have BX6 := Lib.hid BX5.out
    clear BX5
    have hsl : LL.data.toList.length ≤ 9223372036854775807 := by simp; omega
    have h0 := fun W hW => implFirstWithLetter_any LL.data.toList hsl W (HNA.out W hW)
    have h1 := fun W => specFirstWithLetter_any LL.data.toList hsl W
    simp only [← bs_eq (t := LL) rfl] at h0 h1
    obtain ⟨O3, hO3⟩ : ∃ O3, O3 = optI (fwR LL.data.toList) := ⟨_, rfl⟩
    obtain ⟨z3, hz3⟩ : ∃ z3, z3 = (fwR LL.data.toList).isSome := ⟨_, rfl⟩
    simp only [← hO3, ← hz3] at h0 h1
    have H0 := Lib.hid h0; have H1 := Lib.hid h1; have HO3 := Lib.hid hO3; have HZ3 := Lib.hid hz3; have HSL := Lib.hid hsl
    have eO3 : (O3 != O3) = false := by simp
    have ez3 : (z3 != z3) = false := by simp
    clear h0 h1 hO3 hz3 hsl
    go_wp2_with fail
    refine (H0.out _ BX6.out).mono ?_
    rintro e x5 ⟨rfl, hb⟩
    have BX7 := Lib.hid (below_trans BX6.out hb); clear hb BX6
    go_wp2_with fail
    refine (H1.out _).mono ?_
    rintro e x6 ⟨rfl, hb⟩
    have BX8 := Lib.hid (below_trans BX7.out hb); clear hb BX7 H0 H1
    go_upto_if 462 with fail
    go_cut [] from 462 to 462 (fun wx => Hid (Below w.heap.size w wx))
    case first => as_aux_lemma =>
      cases z with
      | false =>
        go_wp2_with fail
        go_meet
        case rel => exact Lib.hid BX8.out
      | true =>
        have hz := HZ.out.symm
        obtain ⟨r, hr⟩ := Option.isSome_iff_exists.1 hz
        obtain ⟨hr6, hrn⟩ := (readO_iff _ _).1 hr
        have hOr : O = (r : Int) := by rw [HO.out]; unfold readI; rw [hr]; rfl
        have hyr : nmB O = true := by rw [hOr]; unfold nmB; exact decide_eq_true (by omega)
        have h0 := implNameOf_any O x6 (HNA.out _ BX8.out)
        have hno : bs (nameO O) = S := by unfold nameO; rw [if_pos hyr, hOr, Int.toNat_natCast, hrn]; exact (bs_eq rfl).symm
        rw [hno, hyr] at h0
        have H0 := Lib.hid h0
        have eS2 : (S.toList != S.toList) = false := by simp
        clear hz hr hrn hOr hyr h0 hno HO HZ
        go_wp2_with fail
        refine H0.out.mono ?_
        rintro e x7 ⟨rfl, hb⟩
        have BX9 := Lib.hid (below_trans BX8.out hb); clear hb
        go_wp2_with fail
        go_meet
        case rel => exact Lib.hid BX9.out
    case rest => as_aux_lemma =>
    have BXA := Lib.hid hcut.out
    clear hcut BX8 HO HZ
    cases z3 with
    | false =>
      go_wp2_with fail
      go_ret
      exact ⟨rfl, BXA.out⟩
    | true =>
      have hz := HZ3.out.symm
      obtain ⟨r, hr⟩ := Option.isSome_iff_exists.1 hz
      obtain ⟨hr6, hrl, hrc⟩ := fwR_has hr
      have hOr : O3 = (r : Int) := by rw [HO3.out, hr]; rfl
      have hyr : nmB (r : Int) = true := by unfold nmB; exact decide_eq_true (by omega)
      have h0 := implCountLetter_any (r : Int) LL.data.toList HSL.out wc (HNA.out _ BXA.out)
      simp only [← bs_eq (t := LL) rfl] at h0
      have hcv : cntO (r : Int) LL.data.toList = ((ltN r).count (LL.data.toList.getD 0 0) : Int) := by unfold cntO; rw [hyr, hrl, Bool.and_self, if_pos rfl]; rfl
      rw [hcv, hyr, hrl, Bool.and_self, ← hOr] at h0
      generalize (ltN r).count (LL.data.toList.getD 0 0) = x at h0 hrc
      have hx : (x : Int) > 0 := by omega
      have hx1 : decide ((x : Int) > 0) = true := decide_eq_true hx
      have hx2 : decide (0 < x) = true := decide_eq_true (by omega)
      have hx3 : decide ((0 : Int) < (x : Int)) = true := decide_eq_true (by omega)
      have H0 := Lib.hid h0
      clear hz hr hr6 hrl hrc hOr hyr h0 hcv HO3 HZ3 HSL hx
      go_wp2_with fail
      refine H0.out.mono ?_
      rintro e x7 ⟨rfl, hb⟩
      have BXB := Lib.hid (below_trans BXA.out hb); clear hb
      go_wp2_with fail
      go_ret
      exact ⟨rfl, BXB.out⟩
end Go.Proofs.YtlcbdmmmafpchaaDoor
