/- Law FnSmoothWordsOfAll. (By tools/gend30.py.) -/
import Derived.Test.YtkjmocdhhndlgaaGreatDoorD29
import Derived.Test.YtkjmocdhhndlgaaGreatDoorD27
import Derived.Test.YtkjmocdhhndlgaaGreatDoorO11
import Derived.Test.YtkjmocdhhndlgaaGreatDoorD19
import Derived.Test.YtkjmocdhhndlgaaGreatDoorI5
import Derived.Test.YtkjmocdhhndlgaaGreatDoorD32
import Derived.Laws.Cover1
import Derived.Deep.DeepCutAuto
namespace Go.Proofs.YtkjmocdhhndlgaaGreatDoor
open Go.RowKit Go.BigFrame Go.Shelf Go.Deep
set_option linter.unusedSimpArgs false
set_option linter.unusedVariables false
set_option maxRecDepth 4000

set_option maxRecDepth 100000 in
set_option maxHeartbeats 16000000 in
theorem law_FnSmoothWordsOfAll (wt : ByteArray) (n : Int) (st : ByteArray) (most : Int) (w : World) (hwt : wt.size ≤ maxLen) (hst : st.size ≤ maxLen) :
    Calls Tryz.prog 4 #[.string wt, .int .i64 n, .string st, .int .i64 most] w fun e w' => e = .returned (.bool true) ∧ Below w.heap.size w w' := by
  unfold maxLen at hwt hst
  by_cases hw9 : 1048576 < wt.size
  · go_enter Tryz.func4, Tryz.ntmps4
    go_wp2_with fail
    go_ret
    exact ⟨rfl, Below.refl _ _⟩
  by_cases hs9 : 1048576 < st.size
  · go_enter Tryz.func4, Tryz.ntmps4
    go_wp2_with fail
    go_ret
    exact ⟨rfl, Below.refl _ _⟩
  have HST := Lib.hid (show st.size ≤ maxLen by unfold maxLen; omega)
  obtain ⟨l, hl⟩ : ∃ l, l = wt.data.toList := ⟨_, rfl⟩
  have hwl : wt = bs l := bs_eq hl.symm
  have hlen : wt.size = l.length := by rw [hl]; exact (size_list wt).symm
  have hll : l.length ≤ maxLen := by rw [← hlen]; unfold maxLen; omega
  have hws : wt.size ≤ maxLen := by rw [hlen]; exact hll
  obtain ⟨a, ha⟩ : ∃ a, a = (depO l).isSome := ⟨_, rfl⟩
  obtain ⟨Dv, hDv⟩ : ∃ Dv : Int, Dv = (((depO l).getD 0 : Nat) : Int) := ⟨_, rfl⟩
  obtain ⟨z, hz⟩ : ∃ z, z = (derO l).isSome := ⟨_, rfl⟩
  obtain ⟨D, hD⟩ : ∃ D, D = bs ((derO l).getD []) := ⟨_, rfl⟩
  obtain ⟨y, hy⟩ : ∃ y, y = lowB l := ⟨_, rfl⟩
  obtain ⟨X, hX⟩ : ∃ X, X = bs ((exO l).getD []) := ⟨_, rfl⟩
  obtain ⟨v, hv⟩ : ∃ v, v = (wdO l).isSome := ⟨_, rfl⟩
  obtain ⟨ws, hwsd⟩ : ∃ ws, ws = (wdO l).getD [] := ⟨_, rfl⟩
  have h0 := fun W => implDepthOf_any wt W hws
  have h1 := fun W => specDepthOf_any wt W hws
  have h2 := fun W => implDerivedOf_any wt W hws
  have h3 := fun W => specDerivedOf_any wt W hws
  have h4 := fun W => implExchangeWord_any l W hll
  have h5 := fun W => specExchangeWord_any l W hll
  have h6 := fun W => implWordsDerivedTo_any l W hll
  have h7 := fun W => specWordsDerivedTo_any l W hll
  have h8 := fun W => implIsSmooth_any wt W hws
  have h9 := fun W => specIsSmooth_any wt W hws
  unfold AllOk at h6 h7
  simp only [← hl, ← hwl, depV_eq, strOk_eqD, ex_some] at h0 h1 h2 h3 h4 h5 h6 h7 h8 h9
  simp only [← ha, ← hDv, ← hz, ← hD, ← hy, ← hX, ← hv, ← hwsd] at h0 h1 h2 h3 h4 h5 h6 h7 h8 h9
  have H0 := Lib.hid h0; have H1 := Lib.hid h1; have H2 := Lib.hid h2; have H3 := Lib.hid h3; have H4 := Lib.hid h4; have H5 := Lib.hid h5; have H6 := Lib.hid h6; have H7 := Lib.hid h7; have H8 := Lib.hid h8; have H9 := Lib.hid h9
  have HL := Lib.hid hl; have HWL := Lib.hid hwl; have HLEN := Lib.hid hlen; have HLL := Lib.hid hll; have HA := Lib.hid ha; have HDV := Lib.hid hDv; have HZ := Lib.hid hz; have HD := Lib.hid hD; have HY := Lib.hid hy; have HX := Lib.hid hX; have HV := Lib.hid hv; have HWS := Lib.hid hwsd
  have haz : a = true → z = true := fun h => by rw [HZ.out]; exact der_of_dep (by rw [← HA.out]; exact h)
  have hzy : z = true → y = true := fun h => by rw [HY.out]; exact low_of_der (by rw [← HZ.out]; exact h)
  have HAZ := Lib.hid haz; have HZY := Lib.hid hzy
  have ea : (a != a) = false := by simp
  have ez : (z != z) = false := by simp
  have ey : (y != y) = false := by simp
  have ev : (v != v) = false := by simp
  have eD : (D.toList != D.toList) = false := by simp
  have eX : (X.toList != X.toList) = false := by simp
  have eW : (wt.toList != wt.toList) = false := by simp
  have eDv : (Dv != Dv) = false := by simp
  clear h0 h1 h2 h3 h4 h5 h6 h7 h8 h9 hl hwl hlen hll hws ha hDv hz hD hy hX hv hwsd haz hzy
  go_enter Tryz.func4, Tryz.ntmps4
  go_upto_region 1 with fail
  go_cut [60] from 53 to 60 (fun u wx => u = .bool false ∧ Hid (Below w.heap.size w wx))
  case first => as_aux_lemma =>
    go_wp2_with fail
    go_meet
    case rel => exact ⟨by rw [decide_eq_false (by omega), decide_eq_false (by omega)]; rfl, Lib.hid (Below.refl _ _)⟩
  obtain ⟨rfl, BW⟩ := hcut
  go_wp2_with fail
  refine (H0.out _).mono ?_
  rintro e w1 ⟨rfl, hb⟩
  have B0 := Lib.hid (below_trans BW.out hb); clear hb H0 BW
  go_wp2_with fail
  refine (H1.out _).mono ?_
  rintro e w2 ⟨rfl, hb⟩
  have B1 := Lib.hid (below_trans B0.out hb); clear hb H1 B0
  go_wp2_with fail
  refine (H2.out _).mono ?_
  rintro e w3 ⟨rfl, hb⟩
  have B2 := Lib.hid (below_trans B1.out hb); clear hb H2 B1
  go_wp2_with fail
  refine (H3.out _).mono ?_
  rintro e w4 ⟨rfl, hb⟩
  have B3 := Lib.hid (below_trans B2.out hb); clear hb H3 B2
  go_wp2_with fail
  refine (H4.out _).mono ?_
  rintro e w5 ⟨rfl, hb⟩
  have B4 := Lib.hid (below_trans B3.out hb); clear hb H4 B3
  go_wp2_with fail
  refine (H5.out _).mono ?_
  rintro e w6 ⟨rfl, hb⟩
  have B5 := Lib.hid (below_trans B4.out hb); clear hb H5 B4
  go_wp2_with fail
  refine (H6.out _).mono ?_
  rintro e w7 ⟨v6, rfl, hi, hb⟩
  have B6 := Lib.hid (below_trans B5.out hb); have I6 := Lib.hid hi; clear hi; clear hb H6 B5
  go_wp2_with fail
  refine (H7.out _).mono ?_
  rintro e w8 ⟨v7, rfl, hi, hb⟩
  have B7 := Lib.hid (below_trans B6.out hb); have I6_7 := Lib.hid (own_below I6.out hb); have I7 := Lib.hid hi; clear hi; clear hb H7 B6 I6
  go_upto_region 11 with fail
  go_cut [166] from 101 to 166 (fun u wx => u = .bool false ∧ Hid (Below w8.heap.size w8 wx))
  case first => as_aux_lemma =>
    have HQ := Lib.hid (fun (W : World) (hW : Below w8.heap.size w8 W) => qTexts_sameD W _ _ v6 v7 ws (own_below I6_7.out hW) (own_below I7.out hW))
    clear B7 I6_7 I7 HL HWL HLEN HLL HA HDV HZ HD HY HX HV HWS
    go_wp2_with fail
    refine (HQ.out _ (Below.refl _ _)).mono ?_
    rintro e x1 ⟨rfl, hb⟩
    have C1 := Lib.hid hb; clear hb
    go_wp2_with fail
    refine (H8.out _).mono ?_
    rintro e x2 ⟨rfl, hb⟩
    have C2 := Lib.hid (below_trans C1.out hb); clear hb C1
    go_wp2_with fail
    refine (H8.out _).mono ?_
    rintro e x3 ⟨rfl, hb⟩
    have C3 := Lib.hid (below_trans C2.out hb); clear hb C2
    go_wp2_with fail
    refine (H9.out _).mono ?_
    rintro e x4 ⟨rfl, hb⟩
    have C4 := Lib.hid (below_trans C3.out hb); clear hb C3
    cases a with
    | true =>
      have e1 := HAZ.out rfl
      have e2 := HZY.out e1
      subst e1 e2
      go_wp2_with fail
      go_meet
      case rel => exact ⟨rfl, C4⟩
    | false =>
      cases z with
      | true =>
        have e2 := HZY.out rfl
        subst e2
        go_wp2_with fail
        go_meet
        case rel => exact ⟨rfl, C4⟩
      | false =>
        go_wp2_with fail
        go_meet
        case rel => exact ⟨rfl, C4⟩
  case rest => as_aux_lemma =>
    obtain ⟨rfl, hC0⟩ := hcut
    have C0 := hC0; clear hC0
    obtain ⟨x8, hx8⟩ : ∃ x, x = wc := ⟨_, rfl⟩
    subst hx8
    have hi6 := own_below I6_7.out C0.out
    have IR := Lib.hid hi6
    have B8 := Lib.hid (below_trans B7.out C0.out)
    clear hi6 I6_7 I7 B7 C0 H8 H9 eX eD
    -- if three
    go_upto_if 167 with fail
    go_cut [] from 167 to 167 (fun wx => Hid (Below x8.heap.size x8 wx))
    case first => as_aux_lemma =>
      cases y with
      | false =>
        go_wp2_with fail
        go_meet
        case rel => exact Lib.hid (Below.refl _ _)
      | true =>
        have hlow : lowB l = true := HY.out.symm
        have hX2 : X = bs (xcL l) := by rw [HX.out]; unfold exO; rw [if_pos hlow]; rfl
        have hXl : (xcL l).length ≤ maxLen := by rw [xcL_len]; exact HLL.out
        have k0 := fun W => implExchangeWord_any (xcL l) W hXl
        have k1 := fun W => implIsSmooth_any X W (by rw [hX2, bs_size]; exact hXl)
        rw [exO_xc hlow, ← hX2] at k0
        rw [hX2, bs_list, depO_xc hlow, ← HA.out, ← hX2] at k1
        unfold strOk at k0
        dsimp only at k0
        rw [← HWL.out] at k0
        have K0 := Lib.hid k0; have K1 := Lib.hid k1
        clear k0 k1 hlow hX2 hXl IR B8 HL HWL HLEN HLL HA HDV HZ HD HY HX HV HWS HAZ HZY
        go_wp2_with fail
        refine (K0.out _).mono ?_
        rintro e x9 ⟨rfl, hb⟩
        have C1 := Lib.hid hb; clear hb K0
        go_wp2_with fail
        refine (K1.out _).mono ?_
        rintro e x10 ⟨rfl, hb⟩
        have C2 := Lib.hid (below_trans C1.out hb); clear hb K1 C1
        go_wp2_with fail
        go_meet
        case rel => exact C2
    case rest => as_aux_lemma =>
      have C1 := hcut; clear hcut
      obtain ⟨x9, hx9⟩ : ∃ x, x = wc := ⟨_, rfl⟩
      subst hx9
      -- if one
      go_upto_if 186 with fail
      go_cut [] from 186 to 186 (fun wx => Hid (Below x8.heap.size x8 wx))
      case first => as_aux_lemma =>
        cases z with
        | false =>
          go_wp2_with fail
          go_meet
          case rel => exact C1
        | true =>
          have hlow : lowB l = true := low_of_der HZ.out.symm
          obtain ⟨m, hm⟩ := Option.isSome_iff_exists.1 HZ.out.symm
          have hX2 : X = bs (xcL l) := by rw [HX.out]; unfold exO; rw [if_pos hlow]; rfl
          have hD2 : D = bs m := by rw [HD.out, hm]; rfl
          have hXl : (xcL l).length ≤ maxLen := by rw [xcL_len]; exact HLL.out
          have hm60 : m.length ≤ 60 := low_len (derO_low hm).2.2
          obtain ⟨M, hM⟩ : ∃ M, M = D.size := ⟨_, rfl⟩
          have hMs : D.size = M := hM.symm
          have hMm : M = m.length := by rw [hM, hD2, bs_size]
          have k0 := fun W => implDerivedOf_any X W (by rw [hX2, bs_size]; exact hXl)
          have k1 := fun W => implDepthOf_any D W (by rw [hD2, bs_size]; unfold maxLen; omega)
          rw [hX2, bs_list, derO_xc hlow, hm, ← hX2] at k0
          rw [hD2, bs_list, ← hD2] at k1
          unfold strOk at k0
          dsimp only at k0
          rw [← hD2] at k0
          rw [depV_eq] at k1
          have eD : (D.toList != D.toList) = false := by simp
          by_cases hl0 : l = []
          · have e0 : wt.size = 0 := by rw [HLEN.out, hl0]; rfl
            have ha1 : a = true := by rw [HA.out, hl0]; rfl
            have hd0 : Dv = 0 := by rw [HDV.out, hl0]; rfl
            subst ha1 hd0
            obtain ⟨d2, hd2⟩ : ∃ d2 : Nat, d2 = (depO m).getD 0 := ⟨_, rfl⟩
            obtain ⟨b2, hb2⟩ : ∃ b2, b2 = (depO m).isSome := ⟨_, rfl⟩
            rw [← hd2, ← hb2] at k1
            have K0 := Lib.hid k0; have K1 := Lib.hid k1
            clear k0 k1 hlow hm hX2 hD2 hXl hm60 hM hMm hl0 hd2 hb2 IR B8 HL HWL HLEN HLL HA HDV HZ HD HY HX HV HWS HAZ HZY
            go_wp2_with fail
            refine (K0.out _).mono ?_
            rintro e x10 ⟨rfl, hb⟩
            have C2 := Lib.hid (below_trans C1.out hb); clear hb K0 C1
            go_wp2_with fail
            refine (K1.out _).mono ?_
            rintro e x11 ⟨rfl, hb⟩
            have C3 := Lib.hid (below_trans C2.out hb); clear hb K1 C2
            go_wp2_with fail
            go_meet
            case rel => exact C3
          · have hlt := derO_less hl0 hm
            have hpos : 0 < wt.size := by rw [HLEN.out]; exact List.length_pos_iff.2 hl0
            have hposI : (0 : Int) < (wt.size : Int) := by omega
            have hne0 : ((wt.size : Int) == 0) = false := beq_eq_false_iff_ne.2 (by omega)
            have hML : M < wt.size := by have := HLEN.out; omega
            have hge : ¬ (M : Int) ≥ (wt.size : Int) := by omega
            have hds := depO_some hl0 hm
            have hb2 : (depO m).isSome = a := by rw [HA.out, hds, Option.isSome_map]
            cases a with
            | true =>
              obtain ⟨q, hq⟩ := Option.isSome_iff_exists.1 hb2
              have hDq : Dv = (q : Int) + 1 := by rw [HDV.out, hds, hq]; rfl
              have hq60 : q ≤ 60 := by
                unfold depO at hq
                split at hq
                · have := depF_le _ _ _ hq; omega
                · cases hq
              rw [hq] at k1
              have K0 := Lib.hid k0; have K1 := Lib.hid k1
              clear k0 k1 hlow hm hX2 hD2 hXl hm60 hM hMm hl0 hb2 hlt hML hds hq IR B8 HL HWL HLEN HLL HA HDV HZ HD HY HX HV HWS HAZ HZY
              subst hDq
              clear eDv
              go_wp2_with fail
              refine (K0.out _).mono ?_
              rintro e x10 ⟨rfl, hb⟩
              have C2 := Lib.hid (below_trans C1.out hb); clear hb K0 C1
              go_wp2_with fail
              refine (K1.out _).mono ?_
              rintro e x11 ⟨rfl, hb⟩
              have C3 := Lib.hid (below_trans C2.out hb); clear hb K1 C2
              go_wp2_with fail
              go_meet
              case rel => exact C3
            | false =>
              obtain ⟨d2, hd2⟩ : ∃ d2 : Nat, d2 = (depO m).getD 0 := ⟨_, rfl⟩
              rw [← hd2, hb2] at k1
              have K0 := Lib.hid k0; have K1 := Lib.hid k1
              clear k0 k1 hlow hm hX2 hD2 hXl hm60 hM hMm hl0 hd2 hb2 hlt hML hds IR B8 HL HWL HLEN HLL HA HDV HZ HD HY HX HV HWS HAZ HZY
              go_wp2_with fail
              refine (K0.out _).mono ?_
              rintro e x10 ⟨rfl, hb⟩
              have C2 := Lib.hid (below_trans C1.out hb); clear hb K0 C1
              go_wp2_with fail
              refine (K1.out _).mono ?_
              rintro e x11 ⟨rfl, hb⟩
              have C3 := Lib.hid (below_trans C2.out hb); clear hb K1 C2
              go_wp2_with fail
              go_meet
              case rel => exact C3
      case rest => as_aux_lemma =>
        have C2 := hcut; clear hcut
        obtain ⟨x10, hx10⟩ : ∃ x, x = wc := ⟨_, rfl⟩
        subst hx10
        clear C1
        -- if ok && len(w) > 0
        obtain ⟨pb, hpb⟩ : ∃ pb, pb = (a && decide (0 < wt.size)) := ⟨_, rfl⟩
        have HPB := Lib.hid hpb; clear hpb
        go_upto_region 24 with fail
        go_cut [251] from 246 to 251 (fun u wx => u = .bool pb ∧ wx = x10)
        case first => as_aux_lemma =>
          cases a with
          | false =>
            have e1 : pb = false := HPB.out
            subst e1
            go_wp2_with fail
            go_meet
            case rel => exact ⟨rfl, rfl⟩
          | true =>
            by_cases hp : 0 < wt.size
            · have e1 : pb = true := by rw [HPB.out, decide_eq_true hp]; rfl
              have hpI : (0 : Int) < (wt.size : Int) := by omega
              subst e1
              go_wp2_with fail
              go_meet
              case rel => exact ⟨rfl, rfl⟩
            · have e1 : pb = false := by rw [HPB.out, decide_eq_false hp]; rfl
              have hpI : ¬ (0 : Int) < (wt.size : Int) := by omega
              subst e1
              go_wp2_with fail
              go_meet
              case rel => exact ⟨rfl, rfl⟩
        case rest => as_aux_lemma =>
          obtain ⟨rfl, rfl⟩ := hcut
          go_upto_if 251 with fail
          go_cut [] from 251 to 251 (fun wx => Hid (Below x8.heap.size x8 wx))
          case first => as_aux_lemma =>
            cases pb with
            | false =>
              go_wp2_with fail
              go_meet
              case rel => exact C2
            | true =>
              have hh := HPB.out.symm
              rw [Bool.and_eq_true, decide_eq_true_eq] at hh
              obtain ⟨ha1, hp⟩ := hh
              have h1 : 1 ≤ l.length := by rw [← HLEN.out]; omega
              have hsm : (depO l).isSome = true := by rw [← HA.out]; exact ha1
              obtain ⟨q1, q2, q3⟩ := sm_parts hsm h1
              have hlow := dep_lowB hsm
              have h60 := low_len hlow
              have hgd := low_good hlow h1
              obtain ⟨Bk, hBk⟩ : ∃ Bk, Bk = bs l.reverse := ⟨_, rfl⟩
              have k0 := fun W => implBackWord_any wt W (by rw [HLEN.out]; exact HLL.out)
              rw [← HL.out, show backO l = some l.reverse by unfold backO; rw [if_pos hgd]] at k0
              unfold strOk at k0
              dsimp only at k0
              rw [← hBk] at k0
              have k1 := fun W => implIsSmooth_any Bk W (by rw [hBk, bs_size, List.length_reverse]; exact HLL.out)
              rw [hBk, bs_list, q1, ← hBk] at k1
              have hw60 : wt.size ≤ 60 := by rw [HLEN.out]; exact h60
              have k2 := fun W => implIsSmooth_any (wt.extract 1 wt.size) W (by rw [ByteArray.size_extract]; unfold maxLen; omega)
              rw [list_extract, ← HL.out, HLEN.out, List.take_of_length_le (by simp), q2] at k2
              obtain ⟨K, hK⟩ : ∃ K, K = wt.size - 1 := ⟨_, rfl⟩
              have hKI : (wt.size : Int) - 1 = (K : Int) := by omega
              have k3 := fun W => implIsSmooth_any (wt.extract 0 K) W (by rw [ByteArray.size_extract]; unfold maxLen; omega)
              rw [list_extract, ← HL.out, List.drop_zero, show K - 0 = l.length - 1 by rw [← HLEN.out]; omega, q3] at k3
              have K0 := Lib.hid k0; have K1 := Lib.hid k1; have K2 := Lib.hid k2; have K3 := Lib.hid k3
              have hKle : K ≤ wt.size := by omega
              have p1 : 1 ≤ wt.size := by omega
              rw [← HLEN.out] at K2
              subst ha1
              clear k0 k1 k2 k3 h1 hsm q1 q2 q3 hlow h60 hgd hBk hK HPB IR B8 HL HWL HLEN HLL HA HDV HZ HD HY HX HV HWS HAZ HZY
              go_wp2_with fail
              refine (K0.out _).mono ?_
              rintro e x11 ⟨rfl, hb⟩
              have C3 := Lib.hid (below_trans C2.out hb); clear hb K0 C2
              go_wp2_with fail
              refine (K1.out _).mono ?_
              rintro e x12 ⟨rfl, hb⟩
              have C4 := Lib.hid (below_trans C3.out hb); clear hb K1 C3
              go_wp2_with fail
              refine (K2.out _).mono ?_
              rintro e x13 ⟨rfl, hb⟩
              have C5 := Lib.hid (below_trans C4.out hb); clear hb K2 C4
              go_wp2_with fail
              refine (K3.out _).mono ?_
              rintro e x14 ⟨rfl, hb⟩
              have C6 := Lib.hid (below_trans C5.out hb); clear hb K3 C5
              go_wp2_with fail
              go_meet
              case rel => exact C6
          case rest => as_aux_lemma =>
            have C3 := hcut; clear hcut
            obtain ⟨x11, hx11⟩ : ∃ x, x = wc := ⟨_, rfl⟩
            subst hx11
            clear C2 HPB
            -- if five
            go_upto_if 279 with fail
            go_cut [] from 279 to 279 (fun wx => Hid (Below x8.heap.size x8 wx))
            case first => as_aux_lemma =>
              cases v with
              | false =>
                go_wp2_with fail
                go_meet
                case rel => exact C3
              | true =>
                obtain ⟨ws2, hw2⟩ := Option.isSome_iff_exists.1 HV.out.symm
                have e1 : ws = ws2 := by rw [HWS.out, hw2]; rfl
                subst e1
                obtain ⟨f1, f2, f3, f4⟩ := wdO_facts hw2
                have hir := own_below IR.out C3.out
                rcases own_open hir with ⟨_, h0, _⟩ | ⟨g, cap, rfl, _, hgs, hcp, hcm, _, hca, _⟩
                · omega
                unfold maxLen at hcm
                have HCELL := Lib.hid (show ∀ k (hk : k < ws.length), x11.cell? ⟨g, k, none⟩ = some (.string (bs ws[k])) from fun k hk => by
                  have := hca k (by rw [strsV_len]; exact hk)
                  rw [this]; simp [strsV])
                have HX3 := Lib.hid (show ∀ k (hk : k < ws.length), (bs ws[k]).size ≤ maxLen ∧ derO ws[k] = some l ∧ (depO ws[k]).isSome = a from fun k hk => by
                  obtain ⟨g1, g2, g3⟩ := f3 ws[k] (List.getElem_mem hk)
                  exact ⟨by rw [bs_size]; have := low_len g1; unfold maxLen; omega, g2, by rw [g3, ← HA.out]⟩)
                have HUP := Lib.hid (show ∀ i j (hi : i < ws.length) (hj : j < ws.length), i < j → Op.bytesLess (bs ws[i]).toList (bs ws[j]).toList = true from fun i j hi hj hij => by
                  rw [cmpD]; exact decide_eq_true (List.pairwise_iff_getElem.1 f4 i j hi hj hij))
                have f1I : ¬ ((ws.length : Int) < 2) := by omega
                clear hw2 f3 f4 hir hca IR B8 HL HLEN HLL HA HDV HZ HD HY HX HV HWS HAZ HZY hcp
                go_wp2_with fail
                go_loopw [282] (fun iv wr => ∃ i : Nat, i ≤ ws.length ∧ iv = .int .i64 (i : Int) ∧ Hid (Below x11.heap.size x11 wr)) (fun iv _ => ws.length - (intOf iv).toNat)
                case atStart => exact ⟨0, Nat.zero_le _, rfl, Lib.hid (Below.refl _ _)⟩
                case round => as_aux_lemma =>
                  obtain ⟨i, hi, rfl, HW⟩ := hrel
                  obtain ⟨wr0, hwr0⟩ : ∃ x, x = wr := ⟨_, rfl⟩
                  subst hwr0
                  by_cases hlt : i < ws.length
                  · obtain ⟨s1, s2, s3⟩ := HX3.out i hlt
                    obtain ⟨T, hT⟩ : ∃ T, T = bs ws[i] := ⟨_, rfl⟩
                    have k0 := fun W => implDerivedOf_any T W (by rw [hT]; exact s1)
                    have k1 := fun W => implIsSmooth_any T W (by rw [hT]; exact s1)
                    rw [hT, bs_list, s2, ← hT] at k0
                    rw [hT, bs_list, s3, ← hT] at k1
                    unfold strOk at k0
                    dsimp only at k0
                    rw [← HWL.out] at k0
                    have c0 : wr0.cell? ⟨g, i, none⟩ = some (.string T) := by rw [hT]; exact (HW.out.cell (p := ⟨g, i, none⟩) hgs).trans (HCELL.out i hlt)
                    have K0 := Lib.hid k0; have K1 := Lib.hid k1
                    have hgw : g < wr0.heap.size := Nat.lt_of_lt_of_le hgs HW.out.size
                    by_cases hi0 : 0 < i
                    · obtain ⟨M, hM⟩ : ∃ M, M = i - 1 := ⟨_, rfl⟩
                      have hMi : (i : Int) - 1 = (M : Int) := by omega
                      have hMl : M < ws.length := by omega
                      obtain ⟨U, hU⟩ : ∃ U, U = bs ws[M] := ⟨_, rfl⟩
                      have c1 : wr0.cell? ⟨g, M, none⟩ = some (.string U) := by rw [hU]; exact (HW.out.cell (p := ⟨g, M, none⟩) hgs).trans (HCELL.out M hMl)
                      have hup : Op.bytesLess U.toList T.toList = true := by rw [hU, hT]; exact HUP.out M i hMl hlt (by omega)
                      clear s1 s2 s3 hT hU hM k0 k1
                      go_wp2_with fail
                      refine (K0.out _).mono ?_
                      rintro e y1 ⟨rfl, hb⟩
                      have d1 : y1.cell? ⟨g, M, none⟩ = some (.string U) := (hb.cell (p := ⟨g, M, none⟩) hgw).trans c1
                      have HB1 := Lib.hid (below_trans HW.out hb)
                      clear hb c1 c0
                      go_wp2_with fail
                      refine (K1.out _).mono ?_
                      rintro e y2 ⟨rfl, hb⟩
                      have HB2 := Lib.hid (below_trans HB1.out hb)
                      clear hb d1
                      go_wp2_with fail
                      go_roundw
                      case rel => exact ⟨i + 1, by omega, by go_num, HB2⟩
                      case measure => simp [intOf] <;> omega
                    · obtain rfl : i = 0 := by omega
                      clear s1 s2 s3 hT k0 k1
                      go_wp2_with fail
                      refine (K0.out _).mono ?_
                      rintro e y1 ⟨rfl, hb⟩
                      have HB1 := Lib.hid (below_trans HW.out hb)
                      clear hb c0
                      go_wp2_with fail
                      refine (K1.out _).mono ?_
                      rintro e y2 ⟨rfl, hb⟩
                      have HB2 := Lib.hid (below_trans HB1.out hb)
                      clear hb
                      go_wp2_with fail
                      go_roundw
                      case rel => exact ⟨0 + 1, by omega, by go_num, HB2⟩
                      case measure => simp [intOf] <;> omega
                  · obtain rfl : i = ws.length := by omega
                    go_wp2_with fail
                    go_meet
                    case rel => exact Lib.hid (below_trans C3.out HW.out)
            case rest => as_aux_lemma =>
              have C4 := hcut; clear hcut
              have B9 := Lib.hid (below_trans B8.out C4.out)
              clear C3 C4 B8 IR HL HWL HLEN HLL HA HDV HZ HD HY HX HV HWS HAZ HZY ea ez ey ev eW eDv
              obtain ⟨x12, hx12⟩ : ∃ x, x = wc := ⟨_, rfl⟩
              subst hx12
              obtain ⟨q, hq⟩ : ∃ q, q = (smO n).isSome := ⟨_, rfl⟩
              obtain ⟨al, hal⟩ : ∃ al, al = (smO n).getD [] := ⟨_, rfl⟩
              have h0 := fun W => implAllSmooth_any W n
              have h1 := fun W => specAllSmooth_any W n
              have h2 := fun W => implCountSmooth_any W n
              have h3 := fun W => specCountSmooth_any W n
              unfold AllOk at h0 h1
              unfold CntOk at h2 h3
              simp only [← hq, ← hal] at h0 h1 h2 h3
              have H0 := Lib.hid h0; have H1 := Lib.hid h1; have H2 := Lib.hid h2; have H3 := Lib.hid h3; have HQ := Lib.hid hq; have HAL := Lib.hid hal
              have eq0 : (q != q) = false := by simp
              have en : (((al.length : Nat) : Int) != ((al.length : Nat) : Int)) = false := by simp
              clear h0 h1 h2 h3 hq hal
              go_wp2_with fail
              refine (H0.out _).mono ?_
              rintro e x13 ⟨u0, rfl, hi, hb⟩
              have I0 := Lib.hid hi; have D0 := Lib.hid hb; clear hi hb H0
              go_wp2_with fail
              refine (H1.out _).mono ?_
              rintro e x14 ⟨u1, rfl, hi, hb⟩
              have I1 := Lib.hid hi; have I0a := Lib.hid (own_below I0.out hb); have D1 := Lib.hid (below_trans D0.out hb); clear hi hb H1 D0 I0
              go_wp2_with fail
              refine (H2.out _).mono ?_
              rintro e x15 ⟨rfl, hb⟩
              have I1b := Lib.hid (own_below I1.out hb); have I0b := Lib.hid (own_below I0a.out hb); have D2 := Lib.hid (below_trans D1.out hb); clear hb H2 D1 I0a I1
              go_wp2_with fail
              refine (H3.out _).mono ?_
              rintro e x16 ⟨rfl, hb⟩
              have I1c := Lib.hid (own_below I1b.out hb); have I0c := Lib.hid (own_below I0b.out hb); have D3 := Lib.hid (below_trans D2.out hb); clear hb H3 D2 I0b I1b
              go_wp2_with fail
              refine (qTexts_sameD _ _ _ u0 u1 al I0c.out I1c.out).mono ?_
              rintro e x17 ⟨rfl, hb⟩
              have I0d := Lib.hid (own_below I0c.out hb); have D4 := Lib.hid (below_trans D3.out hb); clear hb D3 I0c I1c
              go_upto_if 366 with fail
              go_cut [] from 366 to 366 (fun wx => Hid (Below x12.heap.size x12 wx))
              case first => as_aux_lemma =>
                cases q with
                | false =>
                  go_wp2_with fail
                  go_meet
                  case rel => exact D4
                | true =>
                  obtain ⟨al2, hal2⟩ := Option.isSome_iff_exists.1 HQ.out.symm
                  have e1 : al = al2 := by rw [HAL.out, hal2]; rfl
                  subst e1
                  obtain ⟨Nn, rfl, hN14, h16, f3, f4, f5, hpos⟩ := smO_facts hal2
                  have HF5 := Lib.hid f5
                  have HTX := Lib.hid (show ∀ k (hk : k < al.length), (bs al[k]).size = Nn ∧ (depO al[k]).isSome = true from fun k hk => by
                    obtain ⟨g1, g2⟩ := f3 al[k] (List.getElem_mem hk)
                    exact ⟨by rw [bs_size]; exact g1, g2⟩)
                  have HUP := Lib.hid (show ∀ i j (hi : i < al.length) (hj : j < al.length), i < j → Op.bytesLess (bs al[i]).toList (bs al[j]).toList = true from fun i j hi hj hij => by
                    rw [cmpD]; exact decide_eq_true (List.pairwise_iff_getElem.1 f4 i j hi hj hij))
                  have eN : (((Nn : Nat) : Int) != ((Nn : Nat) : Int)) = false := by simp
                  have HEND := Lib.hid (show ∀ (Wz : World), 0 < Nn → ((al.length : Nat) : Int).tmod 2 = 0 from fun _ h => by
                    have := f5 h
                    rw [Int.tmod_eq_emod_of_nonneg (by omega)]; omega)
                  rcases own_open I0d.out with ⟨rfl, h0, _⟩ | ⟨g, cap, rfl, _, hgs, hcp, hcm, _, hca, _⟩
                  · exfalso; omega
                  · unfold maxLen at hcm
                    have HCELL := Lib.hid (show ∀ k (hk : k < al.length), x17.cell? ⟨g, k, none⟩ = some (.string (bs al[k])) from fun k hk => by
                      have := hca k (by rw [strsV_len]; exact hk)
                      rw [this]; simp [strsV])
                    clear hal2 f3 f4 f5 I0d HQ HAL hca hcp
                    go_wp2_with fail
                    go_loopw [369] (fun iv wr => ∃ i : Nat, i ≤ al.length ∧ iv = .int .i64 (i : Int) ∧ Hid (Below x17.heap.size x17 wr)) (fun iv _ => al.length - (intOf iv).toNat)
                    case atStart => exact ⟨0, Nat.zero_le _, rfl, Lib.hid (Below.refl _ _)⟩
                    case round => as_aux_lemma =>
                      obtain ⟨i, hi, rfl, HW⟩ := hrel
                      obtain ⟨wr0, hwr0⟩ : ∃ x, x = wr := ⟨_, rfl⟩
                      subst hwr0
                      by_cases hlt : i < al.length
                      · obtain ⟨s1, s2⟩ := HTX.out i hlt
                        obtain ⟨T, hT⟩ : ∃ T, T = bs al[i] := ⟨_, rfl⟩
                        rw [← hT] at s1
                        have k1 := fun W => implIsSmooth_any T W (by unfold maxLen; omega)
                        rw [hT, bs_list, s2, ← hT] at k1
                        have c0 : wr0.cell? ⟨g, i, none⟩ = some (.string T) := by rw [hT]; exact (HW.out.cell (p := ⟨g, i, none⟩) hgs).trans (HCELL.out i hlt)
                        have K1 := Lib.hid k1
                        have hgw : g < wr0.heap.size := Nat.lt_of_lt_of_le hgs HW.out.size
                        by_cases hi0 : 0 < i
                        · obtain ⟨M, hM⟩ : ∃ M, M = i - 1 := ⟨_, rfl⟩
                          have hMi : (i : Int) - 1 = (M : Int) := by omega
                          have hMl : M < al.length := by omega
                          obtain ⟨U, hU⟩ : ∃ U, U = bs al[M] := ⟨_, rfl⟩
                          have c1 : wr0.cell? ⟨g, M, none⟩ = some (.string U) := by rw [hU]; exact (HW.out.cell (p := ⟨g, M, none⟩) hgs).trans (HCELL.out M hMl)
                          have hup : Op.bytesLess U.toList T.toList = true := by rw [hU, hT]; exact HUP.out M i hMl hlt (by omega)
                          clear s2 hT hU hM k1
                          go_wp2_with fail
                          refine (K1.out _).mono ?_
                          rintro e y1 ⟨rfl, hb⟩
                          have d1 : y1.cell? ⟨g, M, none⟩ = some (.string U) := (hb.cell (p := ⟨g, M, none⟩) hgw).trans c1
                          have HB1 := Lib.hid (below_trans HW.out hb)
                          clear hb c1 c0
                          go_wp2_with fail
                          go_roundw
                          case rel => exact ⟨i + 1, by omega, by go_num, HB1⟩
                          case measure => simp [intOf] <;> omega
                        · obtain rfl : i = 0 := by omega
                          clear s2 hT k1
                          go_wp2_with fail
                          refine (K1.out _).mono ?_
                          rintro e y1 ⟨rfl, hb⟩
                          have HB1 := Lib.hid (below_trans HW.out hb)
                          clear hb c0
                          go_wp2_with fail
                          go_roundw
                          case rel => exact ⟨0 + 1, by omega, by go_num, HB1⟩
                          case measure => simp [intOf] <;> omega
                      · obtain rfl : i = al.length := by omega
                        by_cases hn0 : 0 < Nn
                        · have hn0I : (0 : Int) < (Nn : Int) := by omega
                          have htm := HEND.out wr0 hn0
                          go_wp2_with fail
                          go_meet
                          case rel => exact Lib.hid (below_trans D4.out HW.out)
                        · have hn0I : ¬ (0 : Int) < (Nn : Int) := by omega
                          go_wp2_with fail
                          go_meet
                          case rel => exact Lib.hid (below_trans D4.out HW.out)
              case rest => as_aux_lemma =>
                have D5 := Lib.hid (below_trans B9.out hcut.out); clear hcut B9 D4 I0d HQ HAL eq0 en
                obtain ⟨x18, hx18⟩ : ∃ x, x = wc := ⟨_, rfl⟩
                subst hx18
                obtain ⟨sl, hsl⟩ : ∃ sl, sl = st.data.toList := ⟨_, rfl⟩
                have hsw : st = bs sl := bs_eq hsl.symm
                have hslen : st.size = sl.length := by rw [hsl]; exact (size_list st).symm
                have hsll : sl.length ≤ maxLen := by rw [← hslen]; exact HST.out
                obtain ⟨t, ht⟩ : ∃ t, t = soB sl most := ⟨_, rfl⟩
                obtain ⟨tn, htn⟩ : ∃ tn : Nat, tn = (if soB sl most = true then soN sl most else 0) := ⟨_, rfl⟩
                have e0 : soV sl most = .tuple #[.int .i64 (tn : Int), .bool t] := by
                  unfold soV; rw [htn, ht]; split <;> rfl
                have h0 := fun W => implSmoothInOwn_any sl most W hsll
                have h1 := fun W => specSmoothInOwn_any sl most W hsll
                rw [← hsw, e0] at h0 h1
                have h2 := fun W => implIsSmooth_any st W HST.out
                rw [← hsl] at h2
                have H0 := Lib.hid h0; have H1 := Lib.hid h1; have H2 := Lib.hid h2
                have et : (t != t) = false := by simp
                have etn : ((tn : Int) != (tn : Int)) = false := by simp
                have HT := Lib.hid ht; have HTN := Lib.hid htn; have HSW := Lib.hid hsw; have HSL := Lib.hid hslen
                clear h0 h1 h2 e0 ht htn hsw hsl hslen hsll
                go_wp2_with fail
                refine (H0.out _).mono ?_
                rintro e x19 ⟨rfl, hb⟩
                have D6 := Lib.hid (below_trans D5.out hb); clear hb H0 D5
                go_wp2_with fail
                refine (H1.out _).mono ?_
                rintro e x20 ⟨rfl, hb⟩
                have D7 := Lib.hid (below_trans D6.out hb); clear hb H1 D6
                cases t with
                | false =>
                  clear H2 HTN HSW
                  go_wp2_with fail
                  go_ret
                  exact ⟨rfl, D7.out⟩
                | true =>
                  have hso : soB sl most = true := HT.out.symm
                  have hdep : (depO sl).isSome = true := by
                    unfold soB at hso; simp only [Bool.and_eq_true] at hso; exact hso.1.1
                  have h2 := fun W => H2.out W
                  rw [hdep] at h2
                  have H3 := Lib.hid h2
                  clear h2 H2
                  by_cases hone : sl.length = 1 ∧ 0 < most
                  · obtain ⟨d, hd, hsl1, hct, hcn⟩ := own_times hso hone.1 hone.2
                    have hs1 : st.size = 1 := by rw [HSL.out]; exact hone.1
                    have hs1I : ((st.size : Int) == 1) = true := by rw [hs1]; rfl
                    have hmI : (0 : Int) < most := hone.2
                    have htn2 : tn = soN sl most := by rw [HTN.out, if_pos hso]
                    have k0 := fun W => implOwnCount_any 1 2 (d : Int) most W
                    unfold intOk at k0
                    rw [hct, if_pos rfl, hcn, ← htn2] at k0
                    have K0 := Lib.hid k0
                    have hby : ∀ h : 0 < st.size, (st[0].toNat : Int) = 48 + (d : Int) := by
                      intro h
                      have : st[0] = sgn d := by
                        have e1 := HSW.out
                        subst e1
                        rw [bs_at sl 0 (by omega)]
                        simp only [hsl1]; rfl
                      rw [this]
                      rcases hd with rfl | rfl <;> rfl
                    have h00 : 0 < st.size := by omega
                    have f1 : ((st[0].toNat : Nat) : Int) - 48 = (d : Int) := by rw [hby h00]; omega
                    have f2 : 48 ≤ st[0].toNat := by have := hby h00; omega
                    have f3 : ((d : Int) % 256) = (d : Int) := by omega
                    have ett : ((tn : Int) == (tn : Int)) = true := by simp
                    clear k0 hso hdep hone hsl1 hct hcn hby htn2 HT HTN HSW hs1
                    go_wp2_with fail
                    refine (H3.out _).mono ?_
                    rintro e x21 ⟨rfl, hb⟩
                    have D8 := Lib.hid (below_trans D7.out hb); clear hb H3 D7
                    go_wp2_with fail
                    refine (K0.out _).mono ?_
                    rintro e x22 ⟨rfl, hb⟩
                    have D9 := Lib.hid (below_trans D8.out hb); clear hb K0 D8
                    go_wp2_with fail
                    go_ret
                    exact ⟨rfl, D9.out⟩
                  · by_cases hs1 : st.size = 1
                    · have hs1I : ((st.size : Int) == 1) = true := by rw [hs1]; rfl
                      have hmI : ¬ (0 : Int) < most := fun h => hone ⟨by rw [← HSL.out]; exact hs1, h⟩
                      clear hso hdep hone HT HTN HSW HSL
                      go_wp2_with fail
                      refine (H3.out _).mono ?_
                      rintro e x21 ⟨rfl, hb⟩
                      have D8 := Lib.hid (below_trans D7.out hb); clear hb H3 D7
                      go_wp2_with fail
                      go_ret
                      exact ⟨rfl, D8.out⟩
                    · have hs1I : ((st.size : Int) == 1) = false := by simp; omega
                      clear hso hdep hone HT HTN HSW HSL
                      go_wp2_with fail
                      refine (H3.out _).mono ?_
                      rintro e x21 ⟨rfl, hb⟩
                      have D8 := Lib.hid (below_trans D7.out hb); clear hb H3 D7
                      go_wp2_with fail
                      go_ret
                      exact ⟨rfl, D8.out⟩
end Go.Proofs.YtkjmocdhhndlgaaGreatDoor
