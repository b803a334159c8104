/- Law FnNamesOrdered. (By tools/genv5.py.) -/
import Derived.Test.YtlcbdmmmafpchaaDoorv1
import Derived.Test.YtlcbdmmmafpchaaDoorv3
import Derived.Test.YtlcbdmmmafpchaaDoorsk
import Derived.Test.YtlcbdmmmafpchaaDoorsl
import Derived.Deep.DeepCutAuto
import Derived.Test.YtlcbdmmmafpchaaDoorv4
import Derived.Test.YtlcbdmmmafpchaaDooru3
namespace Go.Proofs.YtlcbdmmmafpchaaDoor
open Go.RowKit Go.BigFrame Go.Deep
set_option linter.unusedSimpArgs false
set_option linter.unusedVariables false
set_option maxRecDepth 4000

set_option maxRecDepth 100000 in
set_option maxHeartbeats 8000000 in
theorem law_FnNamesOrdered (code : Value) (cs : List Int) (more : Value) (ms0 : List Int) (w : World) (NA : NamesAt w) (hcs : ArgY w code cs) (hms : ArgY w more ms0) :
    Calls Tryd.prog 5 #[code, more] w fun e w' => e = .returned (.bool true) ∧ Below w.heap.size w w' := by
  have HNA := Lib.hid (fun (W : World) (hW : Below w.heap.size w W) => NA.below hW)
  have HMS0 := Lib.hid hms
  have HBIG := Lib.hid (big_any w code more cs ms0 hcs hms)
  have HD0 := Lib.hid (drawRankInAlphabet_c w code cs hcs)
  clear hcs hms NA
  go_enter Tryd.func5, Tryd.ntmps5
  go_wp2_with fail
  refine HBIG.out.mono ?_
  rintro e wb ⟨b, rfl, rfl⟩
  clear HBIG
  cases b
  case true => (go_wp2_with fail; go_ret; exact ⟨rfl, Below.refl _ _⟩)
  go_wp2_with fail
  refine HD0.out.mono ?_
  rintro e wd ⟨n, most, rfl, hwn, hwm, hbd⟩
  have BD := Lib.hid hbd
  clear hbd HD0 hwn hwm
  obtain ⟨R, hR⟩ : ∃ R, R = rkO n most := ⟨_, rfl⟩
  obtain ⟨y, hy⟩ : ∃ y, y = rkB n most := ⟨_, rfl⟩
  have h0 := fun W hW => implRankInAlphabet_any n most W (HNA.out W hW)
  have h1 := fun W => specRankInAlphabet_any n most W
  simp only [← hR, ← hy] at h0 h1
  have H0 := Lib.hid h0; have H1 := Lib.hid h1; have HR := Lib.hid hR; have HY := Lib.hid hy
  have eR : (R != R) = false := by simp
  have ey : (y != y) = false := by simp
  clear h0 h1 hR hy
  go_wp2_with fail
  refine (H0.out _ BD.out).mono ?_
  rintro e w1 ⟨rfl, hb⟩
  have B1 := Lib.hid (below_trans BD.out hb); clear hb
  go_wp2_with fail
  refine (H1.out _).mono ?_
  rintro e w2 ⟨rfl, hb⟩
  have B2 := Lib.hid (below_trans B1.out hb); clear hb B1 H0 H1 BD
  go_upto_if 89 with fail
  go_cut [] from 89 to 89 (fun wx => Hid (Below w.heap.size w wx))
  case first => as_aux_lemma =>
    cases y with
    | false =>
      go_wp2_with fail
      go_meet
      case rel => exact Lib.hid B2.out
    | true =>
      have hyo := HY.out.symm
      have hmost : mlB most = true := by unfold rkB at hyo; rw [Bool.and_eq_true] at hyo; exact hyo.1
      obtain ⟨N, rfl, hN⟩ := mlB_parts hmost
      obtain ⟨k0, rfl, hk0⟩ : ∃ k0 : Nat, n = (k0 : Int) ∧ k0 ≤ N := by
        unfold rkB at hyo; rw [Bool.and_eq_true] at hyo
        have := of_decide_eq_true hyo.2
        exact ⟨n.toNat, by omega, by omega⟩
      obtain ⟨q, hq⟩ : ∃ q, q = rnkF (ltN k0) (N + 1) := ⟨_, rfl⟩
      have hRq : R = (q : Int) := by rw [HR.out, hq]; unfold rkO; rw [if_pos hyo]; rfl
      subst hRq
      have hqN : q ≤ N := by have := rnkF_lt (n := k0) (N + 1) (by omega); omega
      have hcmp := fun (j : Nat) (hj : j ≤ 2000) (W : World) (hW : Below w.heap.size w W) => implCompareNames_any (j : Int) (k0 : Int) W (HNA.out W hW)
      have hnb : ∀ j : Nat, j ≤ 2000 → nmB (j : Int) = true := fun j hj => by unfold nmB; exact decide_eq_true (by omega)
      have hcmp2 : ∀ (j : Nat) (hj : j ≤ 2000) (W : World) (hW : Below w.heap.size w W), Calls Tryd.prog 37 #[.int .i64 (j : Int), .int .i64 (k0 : Int)] W fun e w' => e = .returned (.tuple #[.int .i64 (cmpS (ltN j) (ltN k0)), .bool true]) ∧ Below W.heap.size W w' := by
        intro j hj W hW
        have := hcmp j hj W hW
        rw [hnb j hj, hnb k0 (by omega), Bool.and_self] at this
        have e : cmpO (j : Int) (k0 : Int) = cmpS (ltN j) (ltN k0) := by unfold cmpO; rw [hnb j hj, hnb k0 (by omega), Bool.and_self, if_pos rfl]; rfl
        rw [e] at this
        exact this
      have HCMP := Lib.hid hcmp2
      have hfirst := fun (W : World) (hW : Below w.heap.size w W) => implFirstInAlphabet_any (N : Int) W (HNA.out W hW)
      unfold AlphE at hfirst
      simp only [hmost] at hfirst
      have HFI := Lib.hid hfirst
      have hrank : ∀ (m1 : Nat), Least ltAlph (N + 1) m1 → ∀ (W : World) (hW : Below w.heap.size w W), Calls Tryd.prog 35 #[.int .i64 (m1 : Int), .int .i64 (N : Int)] W fun e w' => e = .returned (.tuple #[.int .i64 0, .bool true]) ∧ Below W.heap.size W w' := by
        intro m1 hm1 W hW
        have := implRankInAlphabet_any (m1 : Int) (N : Int) W (HNA.out W hW)
        have hlt := hm1.1
        have e1 : rkB (m1 : Int) (N : Int) = true := by unfold rkB; rw [hmost, Bool.true_and]; exact decide_eq_true (by omega)
        have e2 : rkO (m1 : Int) (N : Int) = 0 := by
          unfold rkO; rw [if_pos e1]
          have := rnkF_least (N := N + 1) (by omega) hm1 (N + 1) (Nat.le_refl _)
          simp only [Int.toNat_natCast, this]; rfl
        rw [e1, e2] at this
        exact this
      have HRK := Lib.hid hrank
      have HQ := Lib.hid hq
      have eq0 : ((q : Int) != (q : Int)) = false := by simp
      have HMO := Lib.hid hmost; have HK0 := Lib.hid hk0
      clear hyo hmost hcmp hcmp2 hfirst hrank hq hk0 hnb HY HR
      go_wp2_with fail
      go_loopw [11, 12] (fun cv kv wr => ∃ (k c : Nat), k ≤ N + 1 ∧ k ≤ 201 ∧ cv = .int .i64 (c : Int) ∧ kv = .int .i64 (k : Int) ∧ c ≤ 201 ∧ Hid (c = rnkF (ltN k0) k) ∧ Hid (Below w.heap.size w wr)) (fun _ kv _ => N + 1 - (intOf kv).toNat)
      case atStart => exact ⟨0, 0, by omega, by omega, rfl, rfl, by omega, Lib.hid rfl, Lib.hid B2.out⟩
      case round => as_aux_lemma =>
        obtain ⟨k, c, hk, hk2, rfl, rfl, hc, HC, HW⟩ := hrel
        by_cases hlt : k ≤ N ∧ k ≤ 200
        · obtain ⟨hl1, hl2⟩ := hlt
          have hl1' : (k : Int) ≤ (N : Int) := by omega
          have hl2' : (k : Int) ≤ 200 := by omega
          have HS := Lib.hid (HCMP.out k (by omega) _ HW.out)
          have hneg := cmpS_neg (ltN k) (ltN k0)
          have hstep : rnkF (ltN k0) (k + 1) = rnkF (ltN k0) k + if blB (ltN k) (ltN k0) = true then 1 else 0 := rfl
          have hcc : c ≤ k := by rw [HC.out]; exact rnkF_le _ _
          rw [← HC.out] at hstep
          generalize cmpS (ltN k) (ltN k0) = Z at *
          generalize blB (ltN k) (ltN k0) = bb at *
          have HSTEP := Lib.hid hstep
          cases bb with
          | true =>
            have hz : Z < 0 := of_decide_eq_true hneg
            clear hneg hstep
            go_wp2_with fail
            refine HS.out.mono ?_
            rintro e w3 ⟨rfl, hb⟩
            have HB := Lib.hid (below_trans HW.out hb); clear hb
            go_wp2_with fail
            go_roundw
            case rel => exact ⟨k + 1, c + 1, by omega, by omega, by go_num, by go_num, by omega, Lib.hid (by rw [HSTEP.out]; simp), HB⟩
            case measure => simp [intOf] <;> omega
          | false =>
            have hz : ¬ Z < 0 := of_decide_eq_false hneg
            clear hneg hstep
            go_wp2_with fail
            refine HS.out.mono ?_
            rintro e w3 ⟨rfl, hb⟩
            have HB := Lib.hid (below_trans HW.out hb); clear hb
            go_wp2_with fail
            go_roundw
            case rel => exact ⟨k + 1, c, by omega, by omega, rfl, by go_num, by omega, Lib.hid (by rw [HSTEP.out]; simp), HB⟩
            case measure => simp [intOf] <;> omega
        · have hcq : N ≤ 200 → c = q := fun h => by rw [HC.out, HQ.out]; congr 1; omega
          have HCQ := Lib.hid hcq
          clear hcq HC HQ HCMP
          have tail : (k ≤ N ∧ 200 < k ∧ 200 < N) ∨ (N < k ∧ N ≤ 200 ∧ c = q) := by have := HCQ.out; omega
          clear hlt HCQ
          rcases tail with ⟨t1, t2, t3⟩ | ⟨t1, t2, rfl⟩
          all_goals
            go_wp2_with fail
            refine (HFI.out _ HW.out).mono ?_
            rintro e w3 ⟨⟨f1, rfl, hf, _⟩, hb⟩
            have HB := Lib.hid (below_trans HW.out hb)
            have HRF := Lib.hid (HRK.out f1 (by simpa using hf) _ HB.out)
            clear hb hf
            go_wp2_with fail
            refine HRF.out.mono ?_
            rintro e w4 ⟨rfl, hb⟩
            have HB4 := Lib.hid (below_trans HB.out hb)
            clear hb HB
            go_wp2_with fail
            go_meet
            case rel => exact Lib.hid HB4.out
  case rest => as_aux_lemma =>
    clear HY HR B2 ey eR
    have HB0 := Lib.hid hcut.out
    clear hcut
    have HD1 := Lib.hid (drawCompareNames_c wc more ms0 (argY_below HMS0.out HB0.out))
    go_wp2_with fail
    refine HD1.out.mono ?_
    rintro e wm ⟨a, b, rfl, hwa, hwb, hbm⟩
    have HB1 := Lib.hid (below_trans HB0.out hbm)
    clear hwa hwb hbm HD1 HB0
    obtain ⟨C, hC⟩ : ∃ C, C = cmpO a b := ⟨_, rfl⟩
    obtain ⟨yc, hyc⟩ : ∃ yc, yc = (nmB a && nmB b) := ⟨_, rfl⟩
    have h0 := fun W hW => implCompareNames_any a b W (HNA.out W hW)
    have h1 := fun W => specCompareNames_any a b W
    simp only [← hC, ← hyc] at h0 h1
    have hCC : -1 ≤ C ∧ C ≤ 1 := by
      rw [hC]; unfold cmpO cmpS
      split
      · split
        · omega
        · split <;> omega
      · omega
    have H0 := Lib.hid h0; have H1 := Lib.hid h1; have HC := Lib.hid hC; have HYC := Lib.hid hyc; have HCC := Lib.hid hCC
    have eC : (C != C) = false := by simp
    have eyc : (yc != yc) = false := by simp
    clear h0 h1 hC hyc hCC
    go_wp2_with fail
    refine (H0.out _ HB1.out).mono ?_
    rintro e x1 ⟨rfl, hb⟩
    have BX1 := Lib.hid (below_trans HB1.out hb); clear hb HB1
    go_wp2_with fail
    refine (H1.out _).mono ?_
    rintro e x2 ⟨rfl, hb⟩
    have BX2 := Lib.hid (below_trans BX1.out hb); clear hb BX1 H0 H1
    have HD1 := Lib.hid (drawWithLetters_c x2 more ms0 (argY_below HMS0.out BX2.out))
    go_wp2_with fail
    refine HD1.out.mono ?_
    rintro e wl ⟨L, up, rfl, hwa, hwb, hbm⟩
    have BX2' := Lib.hid (below_trans BX2.out hbm)
    clear hwa hwb hbm HD1 BX2
    obtain ⟨ns, hns⟩ : ∃ ns, ns = wlO L up := ⟨_, rfl⟩
    obtain ⟨yl, hyl⟩ : ∃ yl, yl = wlB L up := ⟨_, rfl⟩
    have h0 := fun W hW => implWithLetters_any L up W (HNA.out W hW)
    have h1 := fun W => specWithLetters_any L up W
    simp only [← hns, ← hyl] at h0 h1
    have H0 := Lib.hid h0; have H1 := Lib.hid h1; have HNS := Lib.hid hns; have HYL := Lib.hid hyl
    have eyl : (yl != yl) = false := by simp
    clear h0 h1 hns hyl
    go_wp2_with fail
    refine (H0.out _ BX2'.out).mono ?_
    rintro e x3 ⟨v0, rfl, hi, hb⟩
    have I3 := Lib.hid hi; have BX3 := Lib.hid (below_trans BX2'.out hb); clear hb hi BX2'
    go_wp2_with fail
    refine (H1.out _).mono ?_
    rintro e x4 ⟨v1, rfl, hi, hb⟩
    have J3 := Lib.hid (own_below I3.out hb); have J4 := Lib.hid hi; have BX4 := Lib.hid (below_trans BX3.out hb); clear hb hi BX3 I3 H0 H1
    have HD1 := Lib.hid (drawMostLetters_c x4 more ms0 (argY_below HMS0.out BX4.out))
    go_wp2_with fail
    refine HD1.out.mono ?_
    rintro e wy ⟨m, rfl, hwa, hbm⟩
    have K3 := Lib.hid (own_below J3.out hbm); have K4 := Lib.hid (own_below J4.out hbm)
    have BX4' := Lib.hid (below_trans BX4.out hbm)
    clear hwa hbm HD1 BX4 J3 J4
    obtain ⟨z, hz⟩ : ∃ z, z = mlB m := ⟨_, rfl⟩
    obtain ⟨D, hD⟩ : ∃ D, D = sumO m := ⟨_, rfl⟩
    have h0 := fun W hW => implMostLetters_any m W (HNA.out W hW)
    have h1 := fun W => specMostLetters_any m W
    have h2 := fun W hW => implFirstInAlphabet_any m W (HNA.out W hW)
    have h3 := fun W => specFirstInAlphabet_any m W
    have h4 := fun W hW => implSumOfLetters_any m W (HNA.out W hW)
    have h5 := fun W => specSumOfLetters_any m W
    unfold MostE at h0 h1
    unfold AlphE at h2 h3
    simp only [← hz, ← hD] at h0 h1 h2 h3 h4 h5
    have H0 := Lib.hid h0; have H1 := Lib.hid h1; have H2 := Lib.hid h2; have H3 := Lib.hid h3; have H4 := Lib.hid h4; have H5 := Lib.hid h5
    have HZ := Lib.hid hz; have HD := Lib.hid hD
    have ez : (z != z) = false := by simp
    have eD : (D != D) = false := by simp
    clear h0 h1 h2 h3 h4 h5 hz hD
    go_wp2_with fail
    refine (H0.out _ BX4'.out).mono ?_
    rintro e x5 ⟨⟨g1, c1, rfl, ha, hn⟩, hb⟩
    have HM := Lib.hid ha; have HMZ := Lib.hid hn; have BX5 := Lib.hid (below_trans BX4'.out hb); have BY5 := Lib.hid hb; clear hb ha hn BX4'
    go_wp2_with fail
    refine (H1.out _).mono ?_
    rintro e x6 ⟨⟨g2, c2, rfl, ha, hn⟩, hb⟩
    have hg : g2 = g1 ∧ c2 = c1 := by
      cases z with
      | false => exact ⟨(hn rfl).1.trans (HMZ.out rfl).1.symm, (hn rfl).2.trans (HMZ.out rfl).2.symm⟩
      | true =>
        have e := least_unique ordMost (ha rfl).1 (HM.out rfl).1
        exact ⟨e, by rw [(ha rfl).2, (HM.out rfl).2, e]⟩
    obtain ⟨hg1, hg2⟩ := hg
    subst hg1 hg2
    have BX6 := Lib.hid (below_trans BX5.out hb); have BY6 := Lib.hid (below_trans BY5.out hb); clear hb ha hn BX5 BY5 H0 H1
    go_wp2_with fail
    refine (H2.out _ BX6.out).mono ?_
    rintro e x7 ⟨⟨f1, rfl, ha, hn⟩, hb⟩
    have HF := Lib.hid ha; have HFZ := Lib.hid hn; have BX7 := Lib.hid (below_trans BX6.out hb); have BY7 := Lib.hid (below_trans BY6.out hb); clear hb ha hn BX6 BY6
    go_wp2_with fail
    refine (H3.out _).mono ?_
    rintro e x8 ⟨⟨f2, rfl, ha, hn⟩, hb⟩
    have hg : f2 = f1 := by
      cases z with
      | false => exact (hn rfl).trans (HFZ.out rfl).symm
      | true => exact least_unique ordAlph (ha rfl) (HF.out rfl)
    subst hg
    have BX8 := Lib.hid (below_trans BX7.out hb); have BY8 := Lib.hid (below_trans BY7.out hb); clear hb ha hn BX7 BY7 H2 H3 HF HFZ
    go_wp2_with fail
    refine (H4.out _ BX8.out).mono ?_
    rintro e x9 ⟨rfl, hb⟩
    have BX9 := Lib.hid (below_trans BX8.out hb); have BY9 := Lib.hid (below_trans BY8.out hb); clear hb BX8 BY8
    go_wp2_with fail
    refine (H5.out _).mono ?_
    rintro e x10 ⟨rfl, hb⟩
    have BXA := Lib.hid (below_trans BX9.out hb); have BYA := Lib.hid (below_trans BY9.out hb); clear hb BX9 BY9 H4 H5
    have L3 := Lib.hid (own_below K3.out BYA.out); have L4 := Lib.hid (own_below K4.out BYA.out)
    clear K3 K4 BYA
    have eg : ((g2 : Int) != (g2 : Int)) = false := by simp
    have ec : ((c2 : Int) != (c2 : Int)) = false := by simp
    have ef : ((f2 : Int) != (f2 : Int)) = false := by simp
    go_wp2_with fail
    refine (qSame_same _ _ _ v0 v1 ns L3.out L4.out).mono ?_
    rintro e x11 ⟨rfl, hb⟩
    have BXB := Lib.hid (below_trans BXA.out hb); have M3 := Lib.hid (own_below L3.out hb); clear hb BXA L3 L4
    go_upto_if 282 with fail
    go_cut [] from 282 to 282 (fun wx => Hid (Below x11.heap.size x11 wx))
    case first => as_aux_lemma =>
      clear M3 HM HMZ HNS HYL HZ HD eg ec ef ez eD eyl
      cases yc with
      | false =>
        go_wp2_with fail
        go_meet
        case rel => exact Lib.hid (Below.refl _ _)
      | true =>
        have hab := HYC.out.symm
        rw [Bool.and_eq_true] at hab
        have h0 := implCompareNames_any b a x11 (HNA.out _ BXB.out)
        rw [cmpO_turn, hab.1, hab.2, Bool.and_self, ← HC.out] at h0
        have H0 := Lib.hid h0
        have h00 : C = 0 ↔ a = b := by rw [HC.out]; exact cmpO_zero hab.1 hab.2
        obtain ⟨hc1, hc2⟩ := HCC.out
        have en : (-C != -C) = false := by simp
        have e00 : (C == 0) = (a == b) := by
          by_cases h : a = b
          · rw [beq_iff_eq.2 h, beq_iff_eq.2 (h00.2 h)]
          · rw [beq_eq_false_iff_ne.2 h, beq_eq_false_iff_ne.2 (fun e => h (h00.1 e))]
        obtain ⟨u, hu⟩ : ∃ u, u = (a == b) := ⟨_, rfl⟩
        rw [← hu] at e00
        have hu' := hu.symm
        have eu : (u != u) = false := by simp
        clear h0 hab h00 hu HC HYC
        go_wp2_with fail
        refine H0.out.mono ?_
        rintro e x12 ⟨rfl, hb⟩
        have BXC := Lib.hid hb; clear hb
        go_wp2_with fail
        go_meet
        case rel => exact Lib.hid BXC.out
    case rest => as_aux_lemma =>
    have M4 := Lib.hid (own_below M3.out hcut.out); have BXC := Lib.hid (below_trans BXB.out hcut.out)
    clear hcut M3 BXB HC HYC HCC
    go_upto_if 305 with fail
    go_cut [] from 305 to 305 (fun wx => Hid (Below w.heap.size w wx))
    case first => as_aux_lemma =>
      clear HM HMZ HZ HD eg ec ef ez eD
      cases yl with
      | false =>
        go_wp2_with fail
        go_meet
        case rel => exact Lib.hid BXC.out
      | true =>
        have hyl := HYL.out.symm
        have hns := HNS.out
        unfold wlO at hns
        rw [if_pos hyl] at hns
        unfold wlB at hyl
        rw [Bool.and_eq_true] at hyl
        obtain ⟨U, rfl, hU⟩ := mlB_parts hyl.2
        have h0L : 0 ≤ L := of_decide_eq_true hyl.1
        have hhas : ∀ x ∈ ns, ∃ j : Nat, x = (j : Int) ∧ j ≤ U ∧ ((ltN j).length : Int) = L := fun x hx => by
          rw [hns] at hx
          obtain ⟨j, e1, e2, e3⟩ := wlK_has L _ x hx
          simp only [Int.toNat_natCast] at e2
          exact ⟨j, e1, by omega, e3⟩
        have hlen : ns.length ≤ 2001 := by
          rw [hns]
          have := wlK_len L ((U : Int).toNat + 1)
          simp only [Int.toNat_natCast] at this ⊢
          omega
        have hup : ∀ i, 0 < i → i < ns.length → ns.getD (i - 1) 0 < ns.getD i 0 := fun i h1 h2 => by
          rw [hns] at h2 ⊢
          exact wlK_next L _ i h1 h2
        have HHAS := Lib.hid hhas; have HUP := Lib.hid hup; have HLEN := Lib.hid hlen
        have hlo : ∀ (j : Nat), j ≤ 2000 → ∀ (W : World) (hW : Below w.heap.size w W), Calls Tryd.prog 11 #[.int .i64 (j : Int)] W fun e w' => e = .returned (.tuple #[.int .i64 ((ltN j).length : Int), .bool true]) ∧ Below W.heap.size W w' := by
          intro j hj W hW
          have := implLettersOf_any (j : Int) W (HNA.out W hW)
          have e1 : nmB (j : Int) = true := by unfold nmB; exact decide_eq_true (by omega)
          have e2 : lenO (j : Int) = ((ltN j).length : Int) := by unfold lenO; rw [if_pos e1]; rfl
          rw [e1, e2] at this
          exact this
        have HLO := Lib.hid hlo
        clear hyl hns hhas hup hlo HNS HYL
        rcases ints_open M4.out with ⟨rfl, rfl⟩ | ⟨g, cap, rfl, _, hgs, hn, hcp, hca, _⟩
        · clear M4 HLEN
          go_wp2_with fail
          refine wp_loop_rounds 1 ?_
          rw [rounds_succ]
          go_wp2_with fail
          go_meet
          case rel => exact Lib.hid BXC.out
        · have HCA := Lib.hid hca
          clear M4 hca HLEN
          go_wp2_with fail
          go_loopw [308] (fun iv wr => ∃ i : Nat, i ≤ ns.length ∧ iv = .int .i64 (i : Int) ∧ Hid (Below wc.heap.size wc wr)) (fun iv _ => ns.length - (intOf iv).toNat)
          case atStart => exact ⟨0, Nat.zero_le _, rfl, Lib.hid (Below.refl _ _)⟩
          case round => as_aux_lemma =>
            obtain ⟨i, hi, rfl, HW⟩ := hrel
            by_cases hlt : i < ns.length
            · have hlt' := hlt
              obtain ⟨j, hj, hjU, hjL⟩ := HHAS.out (ns[i]) (List.getElem_mem hlt')
              have c1 : wr.cell? ⟨g, i, none⟩ = some (.int .i64 (j : Int)) := by
                have := (HW.out.cell (p := ⟨g, i, none⟩) hgs).trans (HCA.out i hlt')
                rw [hj] at this; exact this
              have hBW := below_trans BXC.out HW.out
              have hl := HLO.out j (by omega) wr hBW
              rw [hjL] at hl
              have HL := Lib.hid hl
              have eL : (L != L) = false := by simp
              have hgw : g < wr.heap.size := Nat.lt_of_lt_of_le hgs HW.out.size
              have hup1 : ¬ (j : Int) > (U : Int) := by omega
              by_cases hi0 : 0 < i
              · obtain ⟨M, hM⟩ : ∃ M, M = i - 1 := ⟨_, rfl⟩
                have hMi : (i : Int) - 1 = (M : Int) := by omega
                have hMT : M < ns.length := by omega
                have hM' : M < ns.length := by omega
                obtain ⟨j0, hj0, hj0U, _⟩ := HHAS.out (ns[M]) (List.getElem_mem hM')
                have c0 : wr.cell? ⟨g, M, none⟩ = some (.int .i64 (j0 : Int)) := by
                  have := (HW.out.cell (p := ⟨g, M, none⟩) hgs).trans (HCA.out M hM')
                  rw [hj0] at this; exact this
                have hlt2 : (j0 : Int) < (j : Int) := by
                  have := HUP.out i hi0 hlt'
                  rw [← hM, List.getD_eq_getElem?_getD, List.getD_eq_getElem?_getD, List.getElem?_eq_getElem hM', List.getElem?_eq_getElem hlt'] at this
                  simp only [Option.getD_some, hj0, hj] at this
                  exact this
                have hnl : ¬ (j0 : Int) ≥ (j : Int) := by omega
                clear hl hj hjL hj0 hM hlt'
                go_wp2_with fail
                refine HL.out.mono ?_
                rintro e w12 ⟨rfl, hb⟩
                have d0 : w12.cell? ⟨g, M, none⟩ = some (.int .i64 (j0 : Int)) := (hb.cell (p := ⟨g, M, none⟩) hgw).trans c0
                have HB := Lib.hid (HW.out.trans (hb.mono HW.out.size))
                clear hb c0
                go_wp2_with fail
                go_roundw
                case rel => exact ⟨i + 1, by omega, by go_num, HB⟩
                case measure => simp [intOf] <;> omega
              · obtain rfl : i = 0 := by omega
                clear hl hj hjL hlt'
                go_wp2_with fail
                refine HL.out.mono ?_
                rintro e w12 ⟨rfl, hb⟩
                have HB := Lib.hid (HW.out.trans (hb.mono HW.out.size))
                clear hb
                go_wp2_with fail
                go_roundw
                case rel => exact ⟨0 + 1, by omega, by go_num, HB⟩
                case measure => simp [intOf] <;> omega
            · obtain rfl : i = ns.length := by omega
              go_wp2_with fail
              go_meet
              case rel => exact Lib.hid (below_trans BXC.out HW.out)
    case rest => as_aux_lemma =>
    have BXD := Lib.hid hcut.out
    clear hcut BXC M4 HNS HYL
    cases z with
    | false =>
      clear HM HMZ HZ HD eg ec ef ez eD
      go_wp2_with fail
      go_ret
      exact ⟨rfl, BXD.out⟩
    | true =>
      obtain ⟨N, rfl, hN⟩ := mlB_parts HZ.out.symm
      obtain ⟨hm1, hm2⟩ := HM.out rfl
      simp only [Int.toNat_natCast] at hm1
      have hgN : g2 ≤ N := by have := hm1.1; omega
      have hDV : D = (smF N : Int) := by rw [HD.out]; unfold sumO; rw [if_pos HZ.out.symm]; rfl
      have hlo : ∀ (j : Nat), j ≤ 2000 → ∀ (W : World) (hW : Below w.heap.size w W), Calls Tryd.prog 11 #[.int .i64 (j : Int)] W fun e w' => e = .returned (.tuple #[.int .i64 ((ltN j).length : Int), .bool true]) ∧ Below W.heap.size W w' := by
        intro j hj W hW
        have := implLettersOf_any (j : Int) W (HNA.out W hW)
        have e1 : nmB (j : Int) = true := by unfold nmB; exact decide_eq_true (by omega)
        have e2 : lenO (j : Int) = ((ltN j).length : Int) := by unfold lenO; rw [if_pos e1]; rfl
        rw [e1, e2] at this
        exact this
      have HLO := Lib.hid hlo
      have hg0 := hlo g2 (by omega) wc BXD.out
      rw [← hm2] at hg0
      have HG := Lib.hid hg0
      have hmost : ∀ k, k ≤ N → (ltN k).length ≤ c2 ∧ ((ltN k).length = c2 → g2 ≤ k) := fun k hk => by
        rw [hm2]; exact most_le hm1 (by omega)
      have HMOST := Lib.hid hmost
      have hgn1 : ¬ (g2 : Int) > (N : Int) := by omega
      have hc64 : c2 ≤ 64 := by rw [hm2]; exact ltN_len g2 (by omega)
      have HDV := Lib.hid hDV
      clear hlo hg0 hm1 hm2 hmost HM HMZ HZ HD ez hDV
      go_wp2_with fail
      refine HG.out.mono ?_
      rintro e y1 ⟨rfl, hb⟩
      have BY1 := Lib.hid (below_trans BXD.out hb)
      clear hb HG BXD
      go_upto_if 363 with fail
      go_cut [] from 360 to 363 (fun wx => Hid (Below w.heap.size w wx))
      case first => as_aux_lemma =>
        by_cases h0 : 0 < N
        · have hs := implSumOfLetters_any ((N : Int) - 1) y1 (HNA.out _ BY1.out)
          have e1 : mlB ((N : Int) - 1) = true := by unfold mlB; exact decide_eq_true (by omega)
          have e2 : sumO ((N : Int) - 1) = (smF (N - 1) : Int) := by unfold sumO; rw [if_pos e1]; rw [show ((N : Int) - 1).toNat = N - 1 by omega]
          rw [e1, e2] at hs
          have hsum := smF_before h0
          have hDV := HDV.out
          clear HDV
          have hb9 := smF_le (N - 1) (by omega)
          have hl9 := ltN_len N (by omega)
          have hmo := HMOST.out N (Nat.le_refl _)
          have hln := fun W hW => HLO.out N (by omega) W hW
          generalize smF (N - 1) = P at *
          generalize smF N = V at *
          generalize (ltN N).length = Qn at *
          subst hDV
          have HS := Lib.hid hs; have HLN := Lib.hid hln
          have hPQ : ((P : Int) + (Qn : Int) != (V : Int)) = false := by rw [bne_eq_false_iff_eq]; omega
          have hq2 : ¬ (Qn : Int) > (c2 : Int) := by omega
          have hpos : (N : Int) > 0 := by omega
          clear hs hln e1 e2 hsum hmo HMOST HLO
          go_wp2_with fail
          refine HS.out.mono ?_
          rintro e y2 ⟨rfl, hb⟩
          have BY2 := Lib.hid (below_trans BY1.out hb)
          clear hb
          go_wp2_with fail
          refine (HLN.out _ BY2.out).mono ?_
          rintro e y3 ⟨rfl, hb⟩
          have BY3 := Lib.hid (below_trans BY2.out hb)
          clear hb
          go_wp2_with fail
          go_meet
          case rel => exact Lib.hid BY3.out
        · have hpos : ¬ (N : Int) > 0 := by omega
          go_wp2_with fail
          go_meet
          case rel => exact Lib.hid BY1.out
      case rest => as_aux_lemma =>
      have BY4 := Lib.hid hcut.out
      clear hcut BY1
      by_cases h130 : N ≤ 130
      · have h130' : (N : Int) ≤ 130 := by omega
        go_wp2_with fail
        go_loopw [58] (fun iv wr => ∃ k : Nat, k ≤ N + 1 ∧ iv = .int .i64 (k : Int) ∧ Hid (Below w.heap.size w wr)) (fun iv _ => N + 1 - (intOf iv).toNat)
        case atStart => exact ⟨0, Nat.zero_le _, rfl, Lib.hid BY4.out⟩
        case round => as_aux_lemma =>
          obtain ⟨k, hk, rfl, HW⟩ := hrel
          by_cases hlt : k ≤ N
          · have hlt' : (k : Int) ≤ (N : Int) := by omega
            have HL := Lib.hid (HLO.out k (by omega) wr HW.out)
            obtain ⟨hy1, hy2⟩ := HMOST.out k hlt
            generalize (ltN k).length = Y at *
            have hy3 : ¬ (Y : Int) > (c2 : Int) := by omega
            by_cases he : Y = c2
            · have hge := hy2 he
              have heq : ((Y : Int) == (c2 : Int)) = true := by rw [beq_iff_eq]; omega
              have hkg : ¬ (k : Int) < (g2 : Int) := by omega
              clear hy2
              go_wp2_with fail
              refine HL.out.mono ?_
              rintro e w12 ⟨rfl, hb⟩
              have HB := Lib.hid (below_trans HW.out hb)
              clear hb
              go_wp2_with fail
              go_roundw
              case rel => exact ⟨k + 1, by omega, by go_num, HB⟩
              case measure => simp [intOf] <;> omega
            · have heq : ((Y : Int) == (c2 : Int)) = false := by rw [beq_eq_false_iff_ne]; omega
              clear hy2
              go_wp2_with fail
              refine HL.out.mono ?_
              rintro e w12 ⟨rfl, hb⟩
              have HB := Lib.hid (below_trans HW.out hb)
              clear hb
              go_wp2_with fail
              exact ⟨⟨k + 1, by omega, by go_num, HB⟩, by simp [intOf]; omega⟩
          · obtain rfl : k = N + 1 := by omega
            have hlt' : ¬ ((N + 1 : Nat) : Int) ≤ (N : Int) := by omega
            go_wp2_with fail
            go_ret
            exact ⟨rfl, HW.out⟩
      · have h130' : ¬ (N : Int) ≤ 130 := by omega
        go_wp2_with fail
        go_ret
        exact ⟨rfl, BY4.out⟩
end Go.Proofs.YtlcbdmmmafpchaaDoor
