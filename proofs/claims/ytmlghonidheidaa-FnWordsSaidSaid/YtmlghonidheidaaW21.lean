/- Law FnWordsSaid: as FnWordsSaidOfAll's, its words, rows and numbers drawn on the way. (By tools/genw20.py drawn.) -/
import Derived.Test.YtmlghonidheidaaW19
import Derived.Test.Ytmlghonidheidaau8
import Derived.Deep.DeepCutAuto
namespace Go.Proofs.Ytmlghonidheidaa
open Go.RowKit Go.BigFrame Go.Shelf Go.Deep
set_option linter.unusedSimpArgs false
set_option linter.unusedVariables false
set_option maxRecDepth 4000

set_option maxRecDepth 100000 in
set_option maxHeartbeats 16000000 in
theorem law_FnWordsSaid (code : Value) (cs : List Int) (more : Value) (ms0 : List Int) (w : World) (hcs : ArgY w code cs) (hms : ArgY w more ms0) :
    Calls Try.prog 3 #[code, more] w fun e w' => e = .returned (.bool true) ∧ Below w.heap.size w w' := by
  have HMS0 := Lib.hid hms
  have HBIG := Lib.hid (big_any w code more cs ms0 hcs hms)
  have HD0 := Lib.hid (drawSayWord_c w code cs hcs)
  clear hcs hms
  go_enter Try.func3, Try.ntmps3
  go_wp2_with fail
  refine HBIG.out.mono ?_
  rintro e wb ⟨b, rfl, rfl⟩
  clear HBIG
  cases b
  case true => (go_wp2_with fail; go_ret; exact ⟨rfl, Below.refl _ _⟩)
  go_wp2_with fail
  refine HD0.out.mono ?_
  rintro e wd ⟨wt, rfl, hwt, hbd⟩
  have BD := Lib.hid hbd
  clear hbd HD0
  have HWT := Lib.hid (show wt.size ≤ maxLen by unfold maxLen; omega)
  obtain ⟨l, hl⟩ : ∃ l, l = wt.data.toList := ⟨_, rfl⟩
  obtain ⟨y, hy⟩ : ∃ y, y = goodL l := ⟨_, rfl⟩
  obtain ⟨sp, hsp⟩ : ∃ sp, sp = speakL l := ⟨_, rfl⟩
  obtain ⟨z, hz⟩ : ∃ z, z = (saidO l).isSome := ⟨_, rfl⟩
  obtain ⟨A, hA⟩ : ∃ A, A = bs ((saidO l).getD []) := ⟨_, rfl⟩
  obtain ⟨rr, hrr⟩ : ∃ rr : List (List Int), rr = if goodL l = true then (runsL l).map toRow else [] := ⟨_, rfl⟩
  obtain ⟨Ln, hLn⟩ : ∃ Ln : Int, Ln = if speakL l = true then lenSaid l else 0 := ⟨_, rfl⟩
  obtain ⟨Lg, hLg⟩ : ∃ Lg : Int, Lg = if goodL l = true then (longL l : Int) else 0 := ⟨_, rfl⟩
  obtain ⟨Bk, hBk⟩ : ∃ Bk, Bk = bs ((backO l).getD []) := ⟨_, rfl⟩
  obtain ⟨Ot, hOt⟩ : ∃ Ot, Ot = bs ((otherO l).getD []) := ⟨_, rfl⟩
  obtain ⟨Sb, hSb⟩ : ∃ Sb, Sb = (goodL l && stillB wt) := ⟨_, rfl⟩
  obtain ⟨Sm, hSm⟩ : ∃ Sm : Int, Sm = if goodL l = true then sumL l else 0 := ⟨_, rfl⟩
  have hso := other_some l
  have hbo := back_some l
  have h0 := fun W => implSayWord_any wt W HWT.out
  have h1 := fun W => specSayWord_any wt W HWT.out
  have h2 := fun W => implRunsOf_any wt W HWT.out
  have h3 := fun W => specRunsOf_any wt W HWT.out
  have h4 := fun W => implIsSpeakable_any wt W HWT.out
  have h5 := fun W => specIsSpeakable_any wt W HWT.out
  have h6 := fun W => implLengthSaid_any wt W HWT.out
  have h7 := fun W => specLengthSaid_any wt W HWT.out
  have h8 := fun W => implLongestRun_any wt W HWT.out
  have h9 := fun W => specLongestRun_any wt W HWT.out
  have h10 := fun W => implBackWord_any wt W HWT.out
  have h11 := fun W => specBackWord_any wt W HWT.out
  have h12 := fun W => implSayOther_any wt W (by omega)
  have h13 := fun W => specSayOther_any wt W (by omega)
  have h14 := fun W => implIsStill_any wt W HWT.out
  have h15 := fun W => specIsStill_any wt W HWT.out
  have h16 := fun W => implSumOfWord_any wt W HWT.out
  have h17 := fun W => specSumOfWord_any wt W HWT.out
  have h18 := fun W => implIsWord_any wt W HWT.out
  have h19 := fun W => specIsWord_any wt W HWT.out
  unfold RowsOk at h2 h3
  unfold intOk at h6 h7 h16 h17
  simp only [← hl, strOk_eqW, hbo, hso, rows_ints] at h0 h1 h2 h3 h4 h5 h6 h7 h8 h9 h10 h11 h12 h13 h14 h15 h16 h17 h18 h19
  simp only [← hA, ← hz, ← hrr, ← hLn, ← hLg, ← hBk, ← hOt, ← hSb, ← hSm] at h0 h1 h2 h3 h4 h5 h6 h7 h8 h9 h10 h11 h12 h13 h14 h15 h16 h17 h18 h19
  simp only [← hy, ← hsp] at h0 h1 h2 h3 h4 h5 h6 h7 h8 h9 h10 h11 h12 h13 h14 h15 h16 h17 h18 h19
  have H0 := Lib.hid h0; have H1 := Lib.hid h1; have H2 := Lib.hid h2; have H3 := Lib.hid h3; have H4 := Lib.hid h4; have H5 := Lib.hid h5; have H6 := Lib.hid h6; have H7 := Lib.hid h7; have H8 := Lib.hid h8; have H9 := Lib.hid h9; have H10 := Lib.hid h10; have H11 := Lib.hid h11; have H12 := Lib.hid h12; have H13 := Lib.hid h13; have H14 := Lib.hid h14; have H15 := Lib.hid h15; have H16 := Lib.hid h16; have H17 := Lib.hid h17; have H18 := Lib.hid h18; have H19 := Lib.hid h19
  have HL := Lib.hid hl; have HY := Lib.hid hy; have HSP := Lib.hid hsp; have HZ := Lib.hid hz; have HA := Lib.hid hA; have HRR := Lib.hid hrr; have HLN := Lib.hid hLn; have HLG := Lib.hid hLg; have HBK := Lib.hid hBk; have HOT := Lib.hid hOt; have HSB := Lib.hid hSb; have HSM := Lib.hid hSm
  have ey : (y != y) = false := by simp
  have es : (sp != sp) = false := by simp
  have ez : (z != z) = false := by simp
  have eA : (A.toList != A.toList) = false := by simp
  have eLn : (Ln != Ln) = false := by simp
  have eLg : (Lg != Lg) = false := by simp
  have eBk : (Bk.toList != Bk.toList) = false := by simp
  have eOt : (Ot.toList != Ot.toList) = false := by simp
  have eSb : (Sb != Sb) = false := by simp
  have eSm : (Sm != Sm) = false := by simp
  clear hso hbo h0 h1 h2 h3 h4 h5 h6 h7 h8 h9 h10 h11 h12 h13 h14 h15 h16 h17 h18 h19 hl hy hsp hz hA hrr hLn hLg hBk hOt hSb hSm
  go_wp2_with fail
  refine (H0.out _).mono ?_
  rintro e w1 ⟨rfl, hb⟩
  have B0 := Lib.hid (below_trans BD.out hb); clear hb H0 BD
  go_wp2_with fail
  refine (H1.out _).mono ?_
  rintro e w2 ⟨rfl, hb⟩
  have B1 := Lib.hid (below_trans B0.out hb); clear hb H1 B0
  go_wp2_with fail
  refine (H2.out _).mono ?_
  rintro e w3 ⟨v2, vs2, rfl, hi, hb⟩
  have B2 := Lib.hid (below_trans B1.out hb); have I2 := Lib.hid hi; clear hi; clear hb H2 B1
  go_wp2_with fail
  refine (H3.out _).mono ?_
  rintro e w4 ⟨v3, vs3, rfl, hi, hb⟩
  have B3 := Lib.hid (below_trans B2.out hb); have I2_3 := Lib.hid (ownsRR_below I2.out hb); have I3 := Lib.hid hi; clear hi; clear hb H3 B2 I2
  go_wp2_with fail
  refine (H4.out _).mono ?_
  rintro e w5 ⟨rfl, hb⟩
  have B4 := Lib.hid (below_trans B3.out hb); have I2_4 := Lib.hid (ownsRR_below I2_3.out hb); have I3_4 := Lib.hid (ownsRR_below I3.out hb); clear hb H4 B3 I2_3 I3
  go_wp2_with fail
  refine (H5.out _).mono ?_
  rintro e w6 ⟨rfl, hb⟩
  have B5 := Lib.hid (below_trans B4.out hb); have I2_5 := Lib.hid (ownsRR_below I2_4.out hb); have I3_5 := Lib.hid (ownsRR_below I3_4.out hb); clear hb H5 B4 I2_4 I3_4
  go_wp2_with fail
  refine (H6.out _).mono ?_
  rintro e w7 ⟨rfl, hb⟩
  have B6 := Lib.hid (below_trans B5.out hb); have I2_6 := Lib.hid (ownsRR_below I2_5.out hb); have I3_6 := Lib.hid (ownsRR_below I3_5.out hb); clear hb H6 B5 I2_5 I3_5
  go_wp2_with fail
  refine (H7.out _).mono ?_
  rintro e w8 ⟨rfl, hb⟩
  have B7 := Lib.hid (below_trans B6.out hb); have I2_7 := Lib.hid (ownsRR_below I2_6.out hb); have I3_7 := Lib.hid (ownsRR_below I3_6.out hb); clear hb H7 B6 I2_6 I3_6
  go_wp2_with fail
  refine (H8.out _).mono ?_
  rintro e w9 ⟨rfl, hb⟩
  have B8 := Lib.hid (below_trans B7.out hb); have I2_8 := Lib.hid (ownsRR_below I2_7.out hb); have I3_8 := Lib.hid (ownsRR_below I3_7.out hb); clear hb H8 B7 I2_7 I3_7
  go_wp2_with fail
  refine (H9.out _).mono ?_
  rintro e w10 ⟨rfl, hb⟩
  have B9 := Lib.hid (below_trans B8.out hb); have I2_9 := Lib.hid (ownsRR_below I2_8.out hb); have I3_9 := Lib.hid (ownsRR_below I3_8.out hb); clear hb H9 B8 I2_8 I3_8
  go_wp2_with fail
  refine (H10.out _).mono ?_
  rintro e w11 ⟨rfl, hb⟩
  have B10 := Lib.hid (below_trans B9.out hb); have I2_10 := Lib.hid (ownsRR_below I2_9.out hb); have I3_10 := Lib.hid (ownsRR_below I3_9.out hb); clear hb H10 B9 I2_9 I3_9
  go_wp2_with fail
  refine (H11.out _).mono ?_
  rintro e w12 ⟨rfl, hb⟩
  have B11 := Lib.hid (below_trans B10.out hb); have I2_11 := Lib.hid (ownsRR_below I2_10.out hb); have I3_11 := Lib.hid (ownsRR_below I3_10.out hb); clear hb H11 B10 I2_10 I3_10
  go_wp2_with fail
  refine (H12.out _).mono ?_
  rintro e w13 ⟨rfl, hb⟩
  have B12 := Lib.hid (below_trans B11.out hb); have I2_12 := Lib.hid (ownsRR_below I2_11.out hb); have I3_12 := Lib.hid (ownsRR_below I3_11.out hb); clear hb H12 B11 I2_11 I3_11
  go_wp2_with fail
  refine (H13.out _).mono ?_
  rintro e w14 ⟨rfl, hb⟩
  have B13 := Lib.hid (below_trans B12.out hb); have I2_13 := Lib.hid (ownsRR_below I2_12.out hb); have I3_13 := Lib.hid (ownsRR_below I3_12.out hb); clear hb H13 B12 I2_12 I3_12
  go_wp2_with fail
  refine (H14.out _).mono ?_
  rintro e w15 ⟨rfl, hb⟩
  have B14 := Lib.hid (below_trans B13.out hb); have I2_14 := Lib.hid (ownsRR_below I2_13.out hb); have I3_14 := Lib.hid (ownsRR_below I3_13.out hb); clear hb H14 B13 I2_13 I3_13
  go_wp2_with fail
  refine (H15.out _).mono ?_
  rintro e w16 ⟨rfl, hb⟩
  have B15 := Lib.hid (below_trans B14.out hb); have I2_15 := Lib.hid (ownsRR_below I2_14.out hb); have I3_15 := Lib.hid (ownsRR_below I3_14.out hb); clear hb H15 B14 I2_14 I3_14
  go_wp2_with fail
  refine (H16.out _).mono ?_
  rintro e w17 ⟨rfl, hb⟩
  have B16 := Lib.hid (below_trans B15.out hb); have I2_16 := Lib.hid (ownsRR_below I2_15.out hb); have I3_16 := Lib.hid (ownsRR_below I3_15.out hb); clear hb H16 B15 I2_15 I3_15
  go_wp2_with fail
  refine (H17.out _).mono ?_
  rintro e w18 ⟨rfl, hb⟩
  have B17 := Lib.hid (below_trans B16.out hb); have I2_17 := Lib.hid (ownsRR_below I2_16.out hb); have I3_17 := Lib.hid (ownsRR_below I3_16.out hb); clear hb H17 B16 I2_16 I3_16
  go_upto_region 22 with fail
  go_cut [316] from 170 to 316 (fun u wx => u = .bool false ∧ Hid (Below w18.heap.size w18 wx))
  case first => as_aux_lemma =>
    have hsy : sp = true → y = true := by
      intro h
      have := HSP.out
      rw [h] at this
      unfold speakL at this
      rw [HY.out]
      cases hg : goodL l with
      | true => rfl
      | false => rw [hg] at this; cases this
    have hzs : z = true → sp = true := by
      intro h
      have := HZ.out
      rw [h] at this
      rw [HSP.out]
      unfold saidO at this
      split at this
      · rename_i hc; exact hc.1.symm ▸ rfl
      · cases this
    have HF := Lib.hid (fun (W : World) (hW : Below w18.heap.size w18 W) => fLists_same W _ _ v2 v3 vs2 vs3 rr (ownsRR_below I2_17.out hW) (ownsRR_below I3_17.out hW))
    have HSYZ := Lib.hid (And.intro hsy hzs)
    clear hsy hzs B17 I2_17 I3_17 HA HRR HLN HLG HBK HOT HSB HSM HL HWT HY HSP HZ HMS0
    go_wp2_with fail
    refine (HF.out _ (Below.refl _ _)).mono ?_
    rintro e x1 ⟨rfl, hb⟩
    have BX1 := Lib.hid hb; clear hb
    go_wp2_with fail
    refine (H18.out _).mono ?_
    rintro e x2 ⟨rfl, rfl⟩
    go_wp2_with fail
    refine (H18.out _).mono ?_
    rintro e x2 ⟨rfl, rfl⟩
    go_wp2_with fail
    refine (H19.out _).mono ?_
    rintro e x2 ⟨rfl, rfl⟩
    obtain ⟨hsy, hzs⟩ := HSYZ.out
    clear HSYZ
    cases y with
    | false =>
      have e1 : sp = false := by cases sp with
        | false => rfl
        | true => exact absurd (hsy rfl) (by simp)
      have e2 : z = false := by cases z with
        | false => rfl
        | true => exact absurd (hzs rfl) (by rw [e1]; simp)
      subst e1 e2
      clear hsy hzs
      go_wp2_with fail
      go_meet
      case rel => exact ⟨rfl, BX1⟩
    | true =>
      clear hsy
      cases z with
      | true =>
        have e1 := hzs rfl
        subst e1
        clear hzs
        go_wp2_with fail
        go_meet
        case rel => exact ⟨rfl, BX1⟩
      | false =>
        clear hzs
        go_wp2_with fail
        go_meet
        case rel => exact ⟨rfl, BX1⟩
  case rest => as_aux_lemma =>
    obtain ⟨rfl, hC0⟩ := hcut
    have C0 := hC0; clear hC0
    obtain ⟨x18, hx18⟩ : ∃ x, x = wc := ⟨_, rfl⟩
    subst hx18
    have hI2 := ownsRR_below I2_17.out C0.out
    have IR := Lib.hid hI2; clear hI2 I2_17 I3_17 H18 H19 eBk eOt eSb eA eLn eLg
    go_upto_if 317 with fail
    go_cut [] from 317 to 317 (fun wx => Hid (Below w18.heap.size w18 wx))
    case first => as_aux_lemma =>
      cases y with
      | false =>
        go_wp2_with fail
        go_meet
        case rel => exact C0
      | true =>
        have hgood : goodL l = true := HY.out.symm
        obtain ⟨hdig, h400⟩ := good_parts hgood
        obtain ⟨hr1, hr2⟩ := good_runs hdig
        obtain ⟨RN, hRN⟩ : ∃ RN, RN = runsL l := ⟨_, rfl⟩
        have hflat : flatP RN = l := by rw [hRN]; exact flat_runsW l
        have hrr2 : rr = RN.map toRow := by rw [HRR.out, if_pos hgood, hRN]
        have hN : rr.length = RN.length := by rw [hrr2, List.length_map]
        have hwl : bs l = wt := by rw [HL.out]; exact bs_back wt
        have hls : l.length = wt.size := by rw [HL.out, size_list]
        have hbk : Bk = bs l.reverse := by rw [HBK.out]; unfold backO; rw [if_pos hgood]; rfl
        have k0 := fun (W : World) (hW : Below x18.heap.size x18 W) => implWordOfRuns_any W _ v2 vs2 rr (ownsRR_below IR.out hW)
        have k1 := fun W => implBackWord_any Bk W (by rw [hbk, bs_size, List.length_reverse]; unfold maxLen; omega)
        rw [hrr2, hRN, word_runs hgood] at k0
        rw [hbk, bs_list] at k1
        rw [show backO l.reverse = some l by unfold backO; rw [goodL_reverse, if_pos hgood, List.reverse_reverse]] at k1
        rw [← hbk] at k1
        unfold strOk at k0 k1
        dsimp only at k0 k1
        rw [hwl] at k0 k1
        have K0 := Lib.hid k0; have K1 := Lib.hid k1
        clear k0 k1
        have eW : (wt.toList != wt.toList) = false := by simp
        have hN400 : rr.length ≤ 400 := by rw [hN, hRN]; have := runs_len_le l; omega
        have hSm2 : Sm = sumL (flatP RN) := by rw [HSM.out, if_pos hgood, hflat]
        have hLg2 : Lg = (longR RN : Int) := by rw [HLG.out, if_pos hgood, hRN]; rfl
        have hsz : wt.size = (flatP RN).length := by rw [hflat, hls]
        have hsp2 : sp = decide (Lg ≤ 9) := by
          rw [HSP.out, hLg2, hRN]
          unfold speakL
          rw [hgood, Bool.true_and, Bool.eq_iff_iff, decide_eq_true_eq, decide_eq_true_eq]
          show longR (runsL l) ≤ 9 ↔ _
          omega
        have hLn2 : sp = true → Ln = 2 * (rr.length : Int) := by
          intro h
          rw [HLN.out, if_pos (by rw [← HSP.out]; exact h), hN, hRN]
          rfl
        have hst : (wt.toList == [50, 50]) = Sb := still_test wt l hgood HL.out Sb HSB.out
        have hone : RN ≠ [] := by rw [hRN]; exact runs_ne (by intro e; rw [e] at hgood; cases hgood)
        rcases intsRR_open IR.out with ⟨_, h0⟩ | ⟨g, cap, rfl, _, hcp, hgs, _, hca⟩
        · exfalso
          rw [h0] at hrr2
          exact hone (List.map_eq_nil_iff.1 hrr2.symm)
        have HROW := Lib.hid (show ∀ k, k < rr.length → ∃ (b c : Nat) (p : UInt8 × Nat), RN[k]? = some p ∧ x18.cell? ⟨g, k, none⟩ = some (.slice (some ⟨b, 0, none⟩) 2 c) ∧ b < x18.heap.size ∧ x18.cell? ⟨b, 0, none⟩ = some (.int .i64 ((p.1.toNat : Int) - 48)) ∧ x18.cell? ⟨b, 1, none⟩ = some (.int .i64 (p.2 : Int)) from fun k hk => by
          obtain ⟨u, _, hu, hc⟩ := hca k (by omega)
          have hkr : k < RN.length := by omega
          have hrow : rr[k]'(by omega) = toRow RN[k] := by simp only [hrr2, List.getElem_map]
          rw [hrow] at hu
          rcases ints_open hu with ⟨_, h0⟩ | ⟨b, c, rfl, _, hb, _, _, hcell, _⟩
          · cases h0
          · exact ⟨b, c, RN[k], List.getElem?_eq_getElem hkr, hc, hb, hcell 0 (by show 0 < 2; omega), hcell 1 (by show 1 < 2; omega)⟩)
        have HP := Lib.hid (show ∀ k (p : UInt8 × Nat), RN[k]? = some p → 49 ≤ p.1.toNat ∧ p.1.toNat ≤ 57 ∧ 1 ≤ p.2 ∧ p.2 ≤ 400 from fun k p hp => by
          have hm := List.mem_of_getElem? hp
          rw [hRN] at hm
          obtain ⟨a1, a2, a3⟩ := hr1 p hm
          have := le_sum_of_mem (runsL l) p hm
          rw [runsL_sum] at this
          exact ⟨a1, a2, a3, by omega⟩)
        have HADJ := Lib.hid (show ∀ k (p q : UInt8 × Nat), RN[k]? = some p → RN[k + 1]? = some q → p.1.toNat ≠ q.1.toNat from fun k p q hp hq => by
          rw [hRN] at hp hq
          exact fun e => adj_runs l k p q hp hq (UInt8.toNat_inj.1 e))
        have HSTEP := Lib.hid (show ∀ k (p : UInt8 × Nat), RN[k]? = some p → sumL (flatP (RN.take (k + 1))) = sumL (flatP (RN.take k)) + ((p.1.toNat : Int) - 48) * (p.2 : Int) ∧ (flatP (RN.take (k + 1))).length = (flatP (RN.take k)).length + p.2 ∧ longR (RN.take (k + 1)) = max (longR (RN.take k)) p.2 ∧ (flatP (RN.take (k + 1))).length ≤ 400 from fun k p hp => by
          obtain ⟨hk, rfl⟩ := List.getElem?_eq_some_iff.1 hp
          obtain ⟨a1, a2, a3⟩ := runs_step RN k hk
          have := flat_take_le RN (k + 1)
          exact ⟨a1, a2, a3, by omega⟩)
        have HEND := Lib.hid (show (flatP (RN.take rr.length)).length = wt.size ∧ (longR (RN.take rr.length) : Int) = Lg ∧ sumL (flatP (RN.take rr.length)) = Sm by
          rw [hN, List.take_length]; exact ⟨hsz.symm, hLg2.symm, hSm2.symm⟩)
        have HSP2 := Lib.hid hsp2; have HLN2 := Lib.hid hLn2; have HST := Lib.hid hst
        clear hgood hdig h400 hr1 hr2 hRN hN hflat hrr2 hwl hls hbk hSm2 hLg2 hsz hsp2 hLn2 hst hone hca IR HRR HLG HLN HBK HOT HSB HSM HA HZ HSP HY HL eSm
        go_wp2_with fail
        refine (K0.out _ (Below.refl _ _)).mono ?_
        rintro e x19 ⟨rfl, hb⟩
        have D0 := Lib.hid hb; clear hb K0
        go_wp2_with fail
        refine (K1.out _).mono ?_
        rintro e x20 ⟨rfl, hb⟩
        have D1 := Lib.hid (below_trans D0.out hb); clear hb K1 D0
        go_wp2_with fail
        go_loopw [46, 47, 48, 330] (fun dv mv av iv wr => ∃ (k D M Q : Nat), k ≤ rr.length ∧ iv = .int .i64 (k : Int) ∧ dv = .int .i64 (D : Int) ∧ mv = .int .i64 (M : Int) ∧ av = .int .i64 (Q : Int) ∧ D ≤ 400 ∧ M ≤ 400 ∧ Q ≤ 3600 ∧ Hid (D = (flatP (RN.take k)).length ∧ M = longR (RN.take k) ∧ (Q : Int) = sumL (flatP (RN.take k)) ∧ Q ≤ 9 * D) ∧ Hid (Below x18.heap.size x18 wr)) (fun _ _ _ iv _ => rr.length - (intOf iv).toNat)
        case atStart => exact ⟨0, 0, 0, 0, Nat.zero_le _, rfl, rfl, rfl, rfl, by omega, by omega, by omega, Lib.hid ⟨rfl, rfl, rfl, by omega⟩, D1⟩
        case round => as_aux_lemma =>
          obtain ⟨k, D, M, Q, hk, rfl, rfl, rfl, rfl, hD, hM, hQ, HQ, HW⟩ := hrel
          by_cases hlt : k < rr.length
          · obtain ⟨b, c, p, hp, c0, hb, c1, c2⟩ := HROW.out k hlt
            obtain ⟨p1, p2, p3, p4⟩ := HP.out k p hp
            obtain ⟨s1, s2, s3, s4⟩ := HSTEP.out k p hp
            obtain ⟨q1, q2, q3, q4⟩ := HQ.out
            obtain ⟨E, hE⟩ : ∃ E : Nat, E = p.1.toNat - 48 := ⟨_, rfl⟩
            have hEI : (p.1.toNat : Int) - 48 = (E : Int) := by omega
            obtain ⟨F, hF⟩ : ∃ F : Nat, F = p.2 := ⟨_, rfl⟩
            rw [hEI] at c1 s1
            rw [← hF] at c2 s1 s2 s3 p3 p4
            have d0 : wr.cell? ⟨g, k, none⟩ = some (.slice (some ⟨b, 0, none⟩) 2 c) := (HW.out.cell (p := ⟨g, k, none⟩) hgs).trans c0
            have d1 : wr.cell? ⟨b, 0, none⟩ = some (.int .i64 (E : Int)) := (HW.out.cell (p := ⟨b, 0, none⟩) hb).trans c1
            have d2 : wr.cell? ⟨b, 1, none⟩ = some (.int .i64 (F : Int)) := (HW.out.cell (p := ⟨b, 1, none⟩) hb).trans c2
            obtain ⟨EF, hEF⟩ : ∃ EF : Nat, EF = E * F := ⟨_, rfl⟩
            have hEFI : (E : Int) * (F : Int) = (EF : Int) := by rw [hEF]; push_cast; rfl
            have hE9 : E ≤ 9 := by omega
            have hEF9 : EF ≤ 9 * F := by rw [hEF]; exact Nat.mul_le_mul_right F hE9
            rw [hEFI] at s1
            have hD2 : D + F ≤ 400 := by omega
            have HN1 := Lib.hid (show D + F = (flatP (RN.take (k + 1))).length ∧ (max M F = longR (RN.take (k + 1))) ∧ ((Q + EF : Nat) : Int) = sumL (flatP (RN.take (k + 1))) ∧ Q + EF ≤ 9 * (D + F) from ⟨by omega, by omega, by push_cast; omega, by omega⟩)
            have hQ2 : Q + EF ≤ 3600 := by omega
            by_cases hk0 : 0 < k
            · obtain ⟨K, hK⟩ : ∃ K, K = k - 1 := ⟨_, rfl⟩
              have hKi : (k : Int) - 1 = (K : Int) := by omega
              obtain ⟨b0, c0', p0, hp0, c00, hb0, c10, _⟩ := HROW.out K (by omega)
              have had := HADJ.out K p0 p hp0 (by rw [show K + 1 = k by omega]; exact hp)
              obtain ⟨p10, p20, _⟩ := HP.out K p0 hp0
              obtain ⟨E0, hE0⟩ : ∃ E0 : Nat, E0 = p0.1.toNat - 48 := ⟨_, rfl⟩
              have hEI0 : (p0.1.toNat : Int) - 48 = (E0 : Int) := by omega
              rw [hEI0] at c10
              have d00 : wr.cell? ⟨g, K, none⟩ = some (.slice (some ⟨b0, 0, none⟩) 2 c0') := (HW.out.cell (p := ⟨g, K, none⟩) hgs).trans c00
              have d10 : wr.cell? ⟨b0, 0, none⟩ = some (.int .i64 (E0 : Int)) := (HW.out.cell (p := ⟨b0, 0, none⟩) hb0).trans c10
              have hne : ((E0 : Int) == (E : Int)) = false := by simp; omega
              have hKN : K < rr.length := by omega
              clear hp s1 s2 s3 s4 q1 q2 q3 q4 hE hF hEF hEI had hp0 c0 c1 c2 c00 c10 hE0 hEI0 hK p1 p2 p10 p20
              by_cases hgt : M < F
              · go_wp2_with fail
                go_quiet (fail)
                go_wp2_with fail
                go_quiet (fail)
                go_wp2_with fail
                go_roundw
                case rel => exact ⟨k + 1, D + F, F, Q + EF, by omega, by go_num, by go_num, rfl, by go_num, by omega, by omega, by omega, Lib.hid (by have := HN1.out; rw [Nat.max_eq_right (by omega)] at this; exact this), Lib.hid (by repeat' (first | exact HW.out | refine Below.trans ?_ (belowN _ _ _)))⟩
                case measure => simp [intOf] <;> omega
              · go_wp2_with fail
                go_quiet (fail)
                go_wp2_with fail
                go_quiet (fail)
                go_wp2_with fail
                go_roundw
                case rel => exact ⟨k + 1, D + F, M, Q + EF, by omega, by go_num, by go_num, rfl, by go_num, by omega, by omega, by omega, Lib.hid (by have := HN1.out; rw [Nat.max_eq_left (by omega)] at this; exact this), Lib.hid (by repeat' (first | exact HW.out | refine Below.trans ?_ (belowN _ _ _)))⟩
                case measure => simp [intOf] <;> omega
            · obtain rfl : k = 0 := by omega
              clear hp s1 s2 s3 s4 q1 q2 q3 q4 hE hF hEF hEI c0 c1 c2 p1 p2
              by_cases hgt : M < F
              · go_wp2_with fail
                go_quiet (fail)
                go_wp2_with fail
                go_quiet (fail)
                go_wp2_with fail
                go_roundw
                case rel => exact ⟨0 + 1, D + F, F, Q + EF, by omega, by go_num, by go_num, rfl, by go_num, by omega, by omega, by omega, Lib.hid (by have := HN1.out; rw [Nat.max_eq_right (by omega)] at this; exact this), Lib.hid (by repeat' (first | exact HW.out | refine Below.trans ?_ (belowN _ _ _)))⟩
                case measure => simp [intOf] <;> omega
              · go_wp2_with fail
                go_quiet (fail)
                go_wp2_with fail
                go_quiet (fail)
                go_wp2_with fail
                go_roundw
                case rel => exact ⟨0 + 1, D + F, M, Q + EF, by omega, by go_num, by go_num, rfl, by go_num, by omega, by omega, by omega, Lib.hid (by have := HN1.out; rw [Nat.max_eq_left (by omega)] at this; exact this), Lib.hid (by repeat' (first | exact HW.out | refine Below.trans ?_ (belowN _ _ _)))⟩
                case measure => simp [intOf] <;> omega
          · obtain rfl : k = rr.length := by omega
            obtain ⟨q1, q2, q3, _⟩ := HQ.out
            obtain ⟨a1, a2, a3⟩ := HEND.out
            rw [← q1] at a1
            rw [← q2] at a2
            rw [← q3] at a3
            have e1 : ((D : Int) != (wt.size : Int)) = false := by rw [a1]; simp
            have e2 : ((M : Int) != Lg) = false := by rw [a2]; simp
            have e3 : ((Q : Int) != Sm) = false := by rw [a3]; simp
            have e4 := HST.out
            have e5 : (Sb != Sb) = false := by simp
            have hsp3 := HSP2.out
            clear q1 q2 q3 a1 a2 a3 HROW HP HADJ HSTEP HEND HQ
            by_cases hLg9 : Lg ≤ 9
            · rw [decide_eq_true hLg9] at hsp3
              subst hsp3
              have e6 : decide (Lg ≤ 9) = true := decide_eq_true hLg9
              have e7 : 2 * (rr.length : Int) = Ln := (HLN2.out rfl).symm
              have e8 : (Ln != Ln) = false := by simp
              go_wp2_with fail
              go_meet
              case rel => exact Lib.hid (below_trans C0.out HW.out)
            · rw [decide_eq_false hLg9] at hsp3
              subst hsp3
              have e6 : decide (Lg ≤ 9) = false := decide_eq_false hLg9
              go_wp2_with fail
              go_meet
              case rel => exact Lib.hid (below_trans C0.out HW.out)
    case rest => as_aux_lemma =>
      have C1 := hcut; clear hcut
      obtain ⟨x19, hx19⟩ : ∃ x, x = wc := ⟨_, rfl⟩
      subst hx19
      clear C0 IR HRR HLG HSB HSM eSm
      go_upto_if 432 with fail
      go_cut [] from 432 to 432 (fun wx => Hid (Below w18.heap.size w18 wx))
      case first => as_aux_lemma =>
        cases z with
        | false =>
          go_wp2_with fail
          go_meet
          case rel => exact C1
        | true =>
          obtain ⟨m, hm⟩ := Option.isSome_iff_exists.1 HZ.out.symm
          obtain ⟨hm1, hok, hgood, hspk⟩ := said_ok hm
          obtain ⟨hdig, h400⟩ := good_parts hgood
          have hgm : goodL m = true := (saidO_good hm).1
          obtain ⟨hdm, hm400⟩ := good_parts hgm
          have hwl : bs l = wt := by rw [HL.out]; exact bs_back wt
          have hbk : Bk = bs l.reverse := by rw [HBK.out]; unfold backO; rw [if_pos hgood]; rfl
          have hA2 : A = bs m := by rw [HA.out, hm]; rfl
          obtain ⟨m2, hm2⟩ := Option.isSome_iff_exists.1 ((said_reverse l).trans HZ.out.symm)
          have hgm2 : goodL m2 = true := (saidO_good hm2).1
          have hOt2 : Ot = bs m2.reverse := by rw [HOT.out]; unfold otherO; rw [hm2]; rfl
          obtain ⟨E, hE⟩ : ∃ E, E = bs m2 := ⟨_, rfl⟩
          have hAs : A.size = m.length := by rw [hA2, bs_size]
          have hBs : Bk.size = l.length := by rw [hbk, bs_size, List.length_reverse]
          have hm2l : m2.length ≤ 400 := (good_parts hgm2).2
          have hOs : Ot.size = m2.length := by rw [hOt2, bs_size, List.length_reverse]
          have k0 := fun W => implHearWord_any A W (by unfold maxLen; omega)
          have k1 := fun W => implSayWord_any Bk W (by unfold maxLen; omega)
          have k2 := fun W => implBackWord_any Ot W (by unfold maxLen; omega)
          rw [hA2, bs_list, say_hear hm] at k0
          rw [hbk, bs_list, hm2] at k1
          rw [hOt2, bs_list, show backO m2.reverse = some m2 by unfold backO; rw [goodL_reverse, if_pos hgm2, List.reverse_reverse]] at k2
          rw [← hA2] at k0
          rw [← hbk] at k1
          rw [← hOt2] at k2
          unfold strOk at k0 k1 k2
          dsimp only at k0 k1 k2
          rw [hwl] at k0
          rw [← hE] at k1 k2
          obtain ⟨RN, hRN⟩ : ∃ RN, RN = runsL l := ⟨_, rfl⟩
          obtain ⟨N, hN⟩ : ∃ N, N = RN.length := ⟨_, rfl⟩
          have hmr : m = sayR RN := by rw [hm1, hRN]; rfl
          have hm2N : m.length = 2 * N := by rw [hmr, hN, hRN]; exact sayR_len2 hok
          have hLnV : Ln = 2 * (N : Int) := by rw [HLN.out, if_pos hspk, hN, hRN]; rfl
          have hAN : A.size = 2 * N := by rw [hAs, hm2N]
          have hflat : flatP RN = l := by rw [hRN]; exact flat_runsW l
          have HAT := Lib.hid (show ∀ k, k < N → ∃ (c n : Nat), ∃ (h1 : 2 * k < A.size) (h2 : 2 * k + 1 < A.size), 49 ≤ c ∧ c ≤ 57 ∧ 1 ≤ n ∧ n ≤ 9 ∧ A[2 * k].toNat = 48 + n ∧ A[2 * k + 1].toNat = c ∧ ∀ d : Nat, 1 ≤ d → d ≤ 9 → spokenN (RN.take (k + 1)) (dgc (d : Int)) = spokenN (RN.take k) (dgc (d : Int)) + (if c = 48 + d then n else 0) from fun k hk => by
            have hkr : k < RN.length := by omega
            have ho := hok RN[k] (by rw [← hRN]; exact List.getElem_mem hkr)
            obtain ⟨s1, s2⟩ := sayR_at RN (by rw [hRN]; exact hok) k hkr
            rw [← hmr] at s1 s2
            have t1 : 2 * k < A.size := by omega
            have t2 : 2 * k + 1 < A.size := by omega
            have u1 : A[2 * k] = nDig RN[k].2 := by
              have := (List.getElem?_eq_some_iff.1 s1).2
              rw [← this]; subst hA2; rfl
            have u2 : A[2 * k + 1] = RN[k].1 := by
              have := (List.getElem?_eq_some_iff.1 s2).2
              rw [← this]; subst hA2; rfl
            refine ⟨RN[k].1.toNat, RN[k].2, t1, t2, ho.1, ho.2.1, ho.2.2.1, ho.2.2.2, by rw [u1]; exact nDig_nat ho.2.2.2, by rw [u2], fun d hd1 hd9 => ?_⟩
            rw [spokenN_succ _ _ k hkr]
            congr 1
            have hdn := dgc_nat (d : Int) (by omega) (by omega)
            by_cases e : RN[k].1 = dgc (d : Int)
            · rw [if_pos e, if_pos (by rw [e]; omega)]
            · rw [if_neg e, if_neg (fun e2 => e (UInt8.toNat_inj.1 (by omega)))])
          have HSUM := Lib.hid (show ∀ d : Nat, spokenN (RN.take N) (dgc (d : Int)) = countD l (d : Int) from fun d => by
            rw [hN, List.take_length, spokenN_flat, hflat]; rfl)
          have HLE := Lib.hid (show ∀ (k d : Nat), spokenN (RN.take k) (dgc (d : Int)) ≤ 400 from fun k d => by
            rw [spokenN_flat]
            have h1 := List.count_le_length (a := dgc (d : Int)) (l := flatP (RN.take k))
            have h2 := flat_take_le RN k
            rw [hflat] at h2
            omega)
          have hcd := fun (d : Nat) (hd1 : 1 ≤ d) (hd9 : d ≤ 9) (W : World) => (implCountDigit_any wt (d : Int) W HWT.out)
          have hgw : goodL wt.data.toList = true := by rw [← HL.out]; exact hgood
          have HCD := Lib.hid (show ∀ (d : Nat), 1 ≤ d → d ≤ 9 → ∀ W : World, Calls Try.prog 30 #[.string wt, .int .i64 (d : Int)] W fun e w' => e = .returned (.tuple #[.int .i64 (countD l (d : Int) : Int), .bool true]) ∧ Below W.heap.size W w' from fun d hd1 hd9 W => by
            have h1 := hcd d hd1 hd9 W
            have h2 : digOk (d : Int) = true := decide_eq_true (by omega)
            unfold intOk at h1
            rw [hgw, h2, ← HL.out] at h1
            exact h1)
          have eW : (wt.toList != wt.toList) = false := by simp
          have eE : (E.toList != E.toList) = false := by simp
          have eL : (((A.size : Nat) : Int) != Ln) = false := by rw [hLnV, hAN]; simp
          have K0 := Lib.hid k0; have K1 := Lib.hid k1; have K2 := Lib.hid k2; have HAN := Lib.hid hAN
          have hN200 : N ≤ 200 := by omega
          have hAs4 : A.size ≤ 400 := by omega
          clear k0 k1 k2 hm hm1 hok hgood hspk hdig h400 hgm hdm hm400 hwl hbk hA2 hm2 hgm2 hOt2 hE hAs hBs hm2l hOs hRN hN hmr hm2N hLnV hAN hflat hcd hgw HL HY HSP HZ HA HLN HBK HOT HWT
          go_wp2_with fail
          refine (K0.out _).mono ?_
          rintro e x20 ⟨rfl, hb⟩
          have D0 := Lib.hid hb; clear hb K0
          go_wp2_with fail
          refine (K1.out _).mono ?_
          rintro e x21 ⟨rfl, hb⟩
          have D1 := Lib.hid (below_trans D0.out hb); clear hb K1 D0
          go_wp2_with fail
          refine (K2.out _).mono ?_
          rintro e x22 ⟨rfl, hb⟩
          have D2 := Lib.hid (below_trans D1.out hb); clear hb K2 D1
          go_wp2_with fail
          go_loopw [57] (fun dv wr => ∃ d : Nat, 1 ≤ d ∧ d ≤ 10 ∧ dv = .int .i64 (d : Int) ∧ Hid (Below x19.heap.size x19 wr)) (fun dv _ => 10 - (intOf dv).toNat)
          case atStart => exact ⟨1, by omega, by omega, rfl, D2⟩
          case round => as_aux_lemma =>
            obtain ⟨d, hd1, hd10, rfl, HW⟩ := hrel
            by_cases hlt : d ≤ 9
            · have hlt' : (d : Int) ≤ 9 := by omega
              obtain ⟨wr0, hwr0⟩ : ∃ x, x = wr := ⟨_, rfl⟩
              subst hwr0
              have HC := Lib.hid (HCD.out d hd1 hlt wr0)
              obtain ⟨cnt, hcnt⟩ : ∃ cnt, cnt = countD l (d : Int) := ⟨_, rfl⟩
              have hsum := HSUM.out d
              rw [← hcnt] at HC hsum
              have HS2 := Lib.hid hsum
              clear hcnt hsum
              go_wp2_with fail
              refine HC.out.mono ?_
              rintro e x23 ⟨rfl, hb⟩
              have HW2 := Lib.hid (below_trans HW.out hb); clear hb HC
              go_wp2_with fail
              go_loopw [60, 61] (fun sv iv wr => ∃ k I q : Nat, k ≤ N ∧ I = 2 * k ∧ iv = .int .i64 (I : Int) ∧ sv = .int .i64 (q : Int) ∧ q ≤ 400 ∧ Hid (q = spokenN (RN.take k) (dgc (d : Int))) ∧ Hid (Below x19.heap.size x19 wr)) (fun _ iv _ => 2 * N - (intOf iv).toNat)
              case atStart => exact ⟨0, 0, 0, Nat.zero_le _, rfl, rfl, rfl, by omega, Lib.hid rfl, HW2⟩
              case round => as_aux_lemma =>
                obtain ⟨k, I, q, hk, hI, rfl, rfl, hq, HQ, HW3⟩ := hrel
                have hAN := HAN.out
                by_cases hkl : k < N
                · obtain ⟨c, n, t1, t2, c1, c9, n1, n9, a1, a2, hst⟩ := HAT.out k hkl
                  have hst2 := hst d hd1 hlt
                  have hle := HLE.out (k + 1) d
                  obtain ⟨J, hJ⟩ : ∃ J, J = I + 1 := ⟨_, rfl⟩
                  have hJI : (I : Int) + 1 = (J : Int) := by omega
                  have hIA : I < A.size := by omega
                  have hJA : J < A.size := by omega
                  have b1 : A[I].toNat = 48 + n := by simp only [hI]; exact a1
                  have b2 : A[J].toNat = c := by simp only [hJ, hI]; exact a2
                  obtain ⟨x, hx⟩ : ∃ x, x = c - 48 := ⟨_, rfl⟩
                  have hc48 : c = 48 + x := by omega
                  rw [hc48] at b2
                  have hx9 : x ≤ 9 := by omega
                  have hIA2 : (I : Int) < (A.size : Int) := by omega
                  have f1 : ((A[I].toNat : Nat) : Int) - 48 = (n : Int) := by omega
                  have f2 : ((A[J].toNat : Nat) : Int) - 48 = (x : Int) := by omega
                  have f3 : ((n : Int) % 256) = (n : Int) := by omega
                  have f4 : ((x : Int) % 256) = (x : Int) := by omega
                  have HQ2 := Lib.hid (show spokenN (RN.take (k + 1)) (dgc (d : Int)) = q + (if x = d then n else 0) by
                    rw [hst2, HQ.out, hc48]
                    congr 1
                    by_cases e : x = d
                    · rw [if_pos e, if_pos (by omega)]
                    · rw [if_neg e, if_neg (by omega)])
                  have hq2 : q + (if x = d then n else 0) ≤ 400 := by rw [← HQ2.out]; exact hle
                  have b3 : 48 ≤ A[I].toNat := by omega
                  have b4 : 48 ≤ A[J].toNat := by omega
                  have HI := Lib.hid hI
                  have hIN : I < 2 * N := by omega
                  clear hst hst2 hle a1 a2 c1 c9 hc48 hx t1 t2 b1 b2 hI hAN
                  by_cases hxd : x = d
                  · have e1 : ((x : Int) == (d : Int)) = true := by simp [hxd]
                    rw [if_pos hxd] at hq2
                    have HQ3 := Lib.hid (show q + n = spokenN (RN.take (k + 1)) (dgc (d : Int)) by rw [HQ2.out, if_pos hxd])
                    clear hxd hJ HQ HQ2
                    go_wp2_with fail
                    go_roundw
                    case rel => exact ⟨k + 1, I + 2, q + n, by omega, by have := HI.out; omega, by go_num, by go_num, hq2, HQ3, HW3⟩
                    case measure => simp [intOf] <;> omega
                  · have e1 : ((x : Int) == (d : Int)) = false := by simp; omega
                    rw [if_neg hxd] at hq2
                    have HQ3 := Lib.hid (show q = spokenN (RN.take (k + 1)) (dgc (d : Int)) by rw [HQ2.out, if_neg hxd]; rfl)
                    clear hxd hJ HQ HQ2
                    go_wp2_with fail
                    go_roundw
                    case rel => exact ⟨k + 1, I + 2, q, by omega, by have := HI.out; omega, by go_num, rfl, hq, HQ3, HW3⟩
                    case measure => simp [intOf] <;> omega
                · obtain rfl : k = N := by omega
                  have hIe : ¬ ((I : Int) < (A.size : Int)) := by omega
                  have hqe : q = cnt := by rw [HQ.out]; exact HS2.out
                  subst hqe
                  have e1 : ((q : Int) != (q : Int)) = false := by simp
                  clear hAN hI HQ
                  go_wp2_with fail
                  go_roundw
                  case rel => exact ⟨d + 1, by omega, by omega, by go_num, HW3⟩
                  case measure => simp [intOf] <;> omega
            · obtain rfl : d = 10 := by omega
              go_wp2_with fail
              go_meet
              case rel => exact Lib.hid (below_trans C1.out HW.out)
      case rest => as_aux_lemma =>
        have C2 := hcut; clear hcut
        obtain ⟨x20, hx20⟩ : ∃ x, x = wc := ⟨_, rfl⟩
        subst hx20
        have hBx := Lib.hid (below_trans B17.out C2.out)
        clear C1 C2 B17 HWT HL HY HSP HZ HA HLN HBK HOT
        have HD1 := Lib.hid (drawWordOfRuns_c x20 more ms0 (argY_below HMS0.out hBx.out))
        go_wp2_with fail
        refine HD1.out.mono ?_
        rintro e y20 ⟨vL, nss, rfl, hal, hnl, hbl⟩
        have HAL := Lib.hid hal; have HBL := Lib.hid hbl
        clear hal hnl hbl HD1
        obtain ⟨o, ho⟩ : ∃ o, o = wordO nss := ⟨_, rfl⟩
        obtain ⟨zz, hzz⟩ : ∃ zz, zz = o.isSome := ⟨_, rfl⟩
        obtain ⟨T, hT⟩ : ∃ T, T = bs (o.getD []) := ⟨_, rfl⟩
        have k0 := fun (W : World) (hW : Below y20.heap.size y20 W) => implWordOfRuns_arg W vL nss (argR_below HAL.out hW)
        have k1 := fun (W : World) (hW : Below y20.heap.size y20 W) => specWordOfRuns_arg W vL nss (argR_below HAL.out hW)
        simp only [strOk_eqW, ← ho, ← hzz, ← hT] at k0 k1
        have K0 := Lib.hid k0; have K1 := Lib.hid k1
        have HO := Lib.hid ho; have HZZ := Lib.hid hzz; have HT := Lib.hid hT
        have e1 : (zz != zz) = false := by simp
        have e2 : (T.toList != T.toList) = false := by simp
        clear k0 k1 ho hzz hT
        go_wp2_with fail
        refine (K0.out _ (Below.refl _ _)).mono ?_
        rintro e x21 ⟨rfl, hb⟩
        have D0 := Lib.hid hb; clear hb K0
        go_wp2_with fail
        refine (K1.out _ D0.out).mono ?_
        rintro e x22 ⟨rfl, hb⟩
        have D1 := Lib.hid (below_trans D0.out hb); clear hb K1 D0
        have HD2 := Lib.hid (drawCountDigit_c x22 more ms0 (argY_below (argY_below (argY_below HMS0.out hBx.out) HBL.out) D1.out))
        go_wp2_with fail
        refine HD2.out.mono ?_
        rintro e y22 ⟨xt, d, rfl, hxt, _, hbl⟩
        have E1 := Lib.hid (below_trans D1.out hbl)
        clear hbl HD2 D1
        have hxt' : xt.size ≤ maxLen := by unfold maxLen; omega
        obtain ⟨cb, hcb⟩ : ∃ cb, cb = (goodL xt.data.toList && digOk d) := ⟨_, rfl⟩
        obtain ⟨cn, hcn⟩ : ∃ cn : Int, cn = if cb = true then (countD xt.data.toList d : Int) else 0 := ⟨_, rfl⟩
        have k2 := fun W => implCountDigit_any xt d W hxt'
        have k3 := fun W => specCountDigit_any xt d W hxt'
        unfold intOk at k2 k3
        simp only [← hcb, ← hcn] at k2 k3
        have K2 := Lib.hid k2; have K3 := Lib.hid k3
        have e3 : (cb != cb) = false := by simp
        have e4 : (cn != cn) = false := by simp
        clear k2 k3 hcb hcn hxt'
        go_wp2_with fail
        refine (K2.out _).mono ?_
        rintro e x23 ⟨rfl, hb⟩
        have D2 := Lib.hid (below_trans E1.out hb); clear hb K2 E1
        go_wp2_with fail
        refine (K3.out _).mono ?_
        rintro e x24 ⟨rfl, hb⟩
        have D3 := Lib.hid (below_trans D2.out hb); clear hb K3 D2
        cases zz with
        | false =>
          go_wp2_with fail
          go_ret
          exact ⟨rfl, below_trans hBx.out (below_trans HBL.out D3.out)⟩
        | true =>
          obtain ⟨t, ht⟩ := Option.isSome_iff_exists.1 HZZ.out.symm
          have hT2 : T = bs t := by rw [HT.out, ht]; rfl
          obtain ⟨hr, hgt⟩ := runs_word (HO.out.symm.trans ht)
          have k0 := fun W => implRunsOf_any T W (by rw [hT2, bs_size]; have := (good_parts hgt).2; unfold maxLen; omega)
          unfold RowsOk at k0
          rw [hT2, bs_list, hgt, if_pos rfl, ← hT2] at k0
          rw [show rowsL t = nss.map (·.map (.int .i64)) by rw [← hr]; unfold rowsL; rw [List.map_map]; rfl] at k0
          have K0 := Lib.hid k0
          have HAR := Lib.hid (fun (W : World) (hW : Below x24.heap.size x24 W) => argR_below (argR_below HAL.out D3.out) hW)
          clear k0 ht hT2 hr hgt HO HZZ HT
          go_wp2_with fail
          refine (K0.out _).mono ?_
          rintro e x25 ⟨va, vsa, rfl, hi, hb⟩
          have D4 := Lib.hid (below_trans D3.out hb); have I0 := Lib.hid hi
          have hfa := fLists_arg x25 _ va vL vsa nss hi (HAR.out _ hb)
          have HFA := Lib.hid hfa
          clear hb hi hfa K0
          go_wp2_with fail
          refine HFA.out.mono ?_
          rintro e x26 ⟨rfl, hb⟩
          have D5 := Lib.hid (below_trans D4.out hb); clear hb
          go_wp2_with fail
          go_ret
          exact ⟨rfl, below_trans hBx.out (below_trans HBL.out D5.out)⟩
end Go.Proofs.Ytmlghonidheidaa
