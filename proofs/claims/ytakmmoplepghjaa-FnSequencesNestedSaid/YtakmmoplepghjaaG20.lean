/- Law FnSequencesNested: as FnSequencesNestedOfAll's, its numbers drawn on the way. (By tools/gen20.py.) -/
import Derived.Test.YtakmmoplepghjaaG17
import Derived.Test.YtakmmoplepghjaaG14
import Derived.Test.Ytakmmoplepghjaau3
import Derived.Test.Ytakmmoplepghjaau4
import Derived.Deep.DeepCutAuto
namespace Go.Proofs.Ytakmmoplepghjaa
open Go.RowKit Go.BigFrame Go.Deep
set_option linter.unusedSimpArgs false
set_option linter.unusedVariables false
set_option maxRecDepth 4000

set_option maxRecDepth 1000000 in
set_option maxHeartbeats 16000000 in
theorem law_FnSequencesNested (code : Value) (cs : List Int) (more : Value) (ms0 : List Int) (w : World) (hcs : ArgY w code cs) (hms : ArgY w more ms0) :
    Calls Try.prog 5 #[code, more] w fun e w' => e = .returned (.bool true) ∧ Below w.heap.size w w' := by
  have HMS0 := Lib.hid hms
  have HBIG := Lib.hid (big_any w code more cs ms0 hcs hms)
  have HD0 := Lib.hid (drawNestedOf_c w code cs hcs)
  clear hcs hms
  go_enter Try.func5, Try.ntmps5
  go_wp2_with fail
  refine HBIG.out.mono ?_
  rintro e wb ⟨b, rfl, rfl⟩
  clear HBIG
  cases b
  case true => (go_wp2_with fail; go_ret; exact ⟨rfl, Below.refl _ _⟩)
  go_wp2_with fail
  refine HD0.out.mono ?_
  rintro e wd ⟨n, rfl, hwn, hbd⟩
  have BD := Lib.hid hbd
  clear hbd HD0
  obtain ⟨y, hy⟩ : ∃ y, y = nN n := ⟨_, rfl⟩
  obtain ⟨z, hz⟩ : ∃ z, z = gN n := ⟨_, rfl⟩
  obtain ⟨a, ha⟩ : ∃ a, a = nV n := ⟨_, rfl⟩
  obtain ⟨b, hb⟩ : ∃ b, b = sV wil n := ⟨_, rfl⟩
  have h0 := fun W => implNestedOf_any n W hwn
  have h1 := fun W => specNestedOf_any n W
  have h2 := fun W => implWildOf_any n W hwn
  have h3 := fun W => specWildOf_any n W
  simp only [← hy, ← hz, ← ha, ← hb] at h0 h1 h2 h3
  have H0 := Lib.hid h0; have H1 := Lib.hid h1; have H2 := Lib.hid h2; have H3 := Lib.hid h3
  have HY := Lib.hid hy; have HZ := Lib.hid hz; have HA := Lib.hid ha; have HB := Lib.hid hb; have HWN := Lib.hid hwn
  have ey : (y != y) = false := by simp
  have ez : (z != z) = false := by simp
  have ea : (a != a) = false := by simp
  have eb : (b != b) = false := by simp
  clear h0 h1 h2 h3 hy hz ha hb hwn
  go_wp2_with fail
  refine (H0.out _).mono ?_
  rintro e w1 ⟨rfl, hb⟩
  have B0 := Lib.hid (below_trans BD.out hb); clear hb BD
  go_wp2_with fail
  refine (H1.out _).mono ?_
  rintro e w2 ⟨rfl, hb⟩
  have B1 := Lib.hid (below_trans B0.out hb); clear hb B0
  go_wp2_with fail
  refine (H2.out _).mono ?_
  rintro e w3 ⟨rfl, hb⟩
  have B2 := Lib.hid (below_trans B1.out hb); clear hb B1
  go_wp2_with fail
  refine (H3.out _).mono ?_
  rintro e w4 ⟨rfl, hb⟩
  have B3 := Lib.hid (below_trans B2.out hb); clear hb B2
  clear H0 H1 H2 H3
  obtain ⟨bb, hbb⟩ : ∃ bb, bb = (y && decide (0 < n)) := ⟨_, rfl⟩
  have HBB := Lib.hid hbb
  clear hbb
  go_upto_region 10 with fail
  go_cut [127] from 123 to 127 (fun u wx => u = .bool bb ∧ Hid (Below w.heap.size w wx))
  case first => as_aux_lemma =>
    cases y with
    | false =>
      obtain rfl : bb = false := HBB.out
      go_wp2_with fail
      go_meet
      case rel => exact ⟨rfl, Lib.hid B3.out⟩
    | true =>
      have hd : decide (0 < n) = bb := by rw [HBB.out, Bool.true_and]
      go_wp2_with fail
      go_meet
      case rel => exact ⟨by rw [← hd], Lib.hid B3.out⟩
  case rest => as_aux_lemma =>
   obtain ⟨rfl, hcut⟩ := hcut
   clear B3
   have B3 := Lib.hid hcut.out
   clear hcut
   go_upto_if 127 with fail
   go_cut [] from 127 to 127 (fun wx => Hid (Below w.heap.size w wx))
   case first => as_aux_lemma =>
    clear ez ea eb HB HZ
    cases bb with
    | false =>
      go_wp2_with fail
      go_meet
      case rel => exact Lib.hid B3.out
    | true =>
      have hyy : y = true ∧ 0 < n := by have := HBB.out; simpa using this.symm
      obtain ⟨rfl, hn0⟩ := hyy
      obtain ⟨M, rfl, hM9⟩ := nN_open HY.out.symm
      have e1 : a = ((nes M : Nat) : Int) := by rw [HA.out, nV_ok HY.out.symm]
      by_cases hM : M = 0
      · omega
      · obtain ⟨N, hN⟩ : ∃ N, N = M - 1 := ⟨_, rfl⟩
        have hMN : (M : Int) - 1 = (N : Int) := by omega
        have hM0 : 0 < M := by omega
        have hr := nes_rec M hM0 (by omega)
        have hs := nes_step1 M hM0 (by omega)
        rw [← hN] at hr hs
        have hPl := (nes_in N (by omega)).1
        have hIl := (nes_in (nes N) (by omega)).1
        have g0 : nN ((N : Nat) : Int) = true := by unfold nN; simp; omega
        have g1 : nN ((nes N : Nat) : Int) = true := by unfold nN; simp; omega
        have k0 := fun W => implNestedOf_any (N : Int) W (WalkArith.wf_i64 (by omega))
        have k1 := fun W => implNestedOf_any ((nes N : Nat) : Int) W (WalkArith.wf_i64 (by omega))
        rw [g0, nV_ok g0] at k0
        rw [g1, nV_ok g1] at k1
        obtain ⟨X, hX⟩ : ∃ X, X = nes M := ⟨_, rfl⟩
        rw [← hX] at e1 hr hs
        subst e1
        obtain ⟨I, hI⟩ : ∃ I, I = nes (nes N) := ⟨_, rfl⟩
        rw [← hI] at k1 hr hIl
        obtain ⟨P, hP⟩ : ∃ P, P = nes N := ⟨_, rfl⟩
        rw [← hP] at k0 k1 hs hPl hIl
        have b1 : ((X : Int) != (M : Int) - (I : Int)) = false := by rw [bne_eq_false_iff_eq]; omega
        have K0 := Lib.hid k0; have K1 := Lib.hid k1
        have hI9 : I ≤ 3000 := by omega
        have hP9 : P ≤ 3000 := by omega
        clear k0 k1 hX hI hP hN hr g0 g1 hPl hIl HA HY
        by_cases hXP : X = P
        · have b2 : ((X : Int) != (P : Int)) = false := by rw [bne_eq_false_iff_eq]; omega
          clear hXP hs
          as_aux_lemma =>
            go_wp2_with fail
            refine (K0.out _).mono ?_
            rintro e w5 ⟨rfl, hb⟩
            have B4 := Lib.hid (below_trans B3.out hb); clear hb
            go_wp2_with fail
            refine (K1.out _).mono ?_
            rintro e w6 ⟨rfl, hb⟩
            have B5 := Lib.hid (below_trans B4.out hb); clear hb
            go_wp2_with fail
            go_meet
            case rel => exact Lib.hid B5.out
        · have b2 : ((X : Int) != (P : Int)) = true := by rw [bne_iff_ne]; omega
          have b3 : ((X : Int) != (P : Int) + 1) = false := by rw [bne_eq_false_iff_eq]; omega
          clear hXP hs
          as_aux_lemma =>
            go_wp2_with fail
            refine (K0.out _).mono ?_
            rintro e w5 ⟨rfl, hb⟩
            have B4 := Lib.hid (below_trans B3.out hb); clear hb
            go_wp2_with fail
            refine (K1.out _).mono ?_
            rintro e w6 ⟨rfl, hb⟩
            have B5 := Lib.hid (below_trans B4.out hb); clear hb
            go_wp2_with fail
            go_meet
            case rel => exact Lib.hid B5.out
   case rest => as_aux_lemma =>
    clear HA HY B3 ey ea eb HBB
    have B3 := Lib.hid hcut.out
    clear hcut
    obtain ⟨bc, hbc⟩ : ∃ bc, bc = (z && decide (2 < n)) := ⟨_, rfl⟩
    have HBC := Lib.hid hbc
    clear hbc
    go_upto_region 15 with fail
    go_cut [167] from 163 to 167 (fun u wx => u = .bool bc ∧ Hid (Below w.heap.size w wx))
    case first => as_aux_lemma =>
     cases z with
     | false =>
      obtain rfl : bc = false := HBC.out
      go_wp2_with fail
      go_meet
      case rel => exact ⟨rfl, Lib.hid B3.out⟩
     | true =>
      have hd : decide (2 < n) = bc := by rw [HBC.out, Bool.true_and]
      go_wp2_with fail
      go_meet
      case rel => exact ⟨by rw [← hd], Lib.hid B3.out⟩
    case rest => as_aux_lemma =>
    obtain ⟨rfl, hcut⟩ := hcut
    clear B3
    have B3 := Lib.hid hcut.out
    clear hcut
    go_upto_if 167 with fail
    go_cut [] from 167 to 167 (fun wx => Hid (Below w.heap.size w wx))
    case first => as_aux_lemma =>
      clear ez
      cases bc with
      | false =>
        go_wp2_with fail
        go_meet
        case rel => exact Lib.hid B3.out
      | true =>
        have hyy : z = true ∧ 2 < n := by have := HBC.out; simpa using this.symm
        obtain ⟨rfl, hn0⟩ := hyy
        obtain ⟨M, rfl, hM1, hM9⟩ := gN_open HZ.out.symm
        have e1 : b = ((wil M : Nat) : Int) := by rw [HB.out, sV_ok HZ.out.symm]
        by_cases hM : 2 < M
        · obtain ⟨N, hN⟩ : ∃ N, N = M - 1 := ⟨_, rfl⟩
          obtain ⟨L, hL⟩ : ∃ L, L = M - 2 := ⟨_, rfl⟩
          have hMN : (M : Int) - 1 = (N : Int) := by omega
          have hML : (M : Int) - 2 = (L : Int) := by omega
          have hr := wil_rec M hM hM9
          rw [← hN, ← hL] at hr
          have hBl := wil_in N (by omega)
          have hCl := wil_in L (by omega)
          have hB1 := hBl.2.1 (by omega)
          have hC1 := hCl.2.1 (by omega)
          have hB9 := hBl.2.2
          have hC9 := hCl.2.2
          obtain ⟨r, hrd⟩ : ∃ r, r = M - wil N := ⟨_, rfl⟩
          obtain ⟨t, htd⟩ : ∃ t, t = M - wil L := ⟨_, rfl⟩
          rw [← hrd, ← htd] at hr
          have hx9 := (wil_in r (by omega)).2.2
          have hy9 := (wil_in t (by omega)).2.2
          have gd : ∀ i : Nat, 1 ≤ i → i ≤ 3000 → ∀ W, Calls Try.prog 32 #[.int .i64 (i : Int)] W fun e w' => e = .returned (.tuple #[.int .i64 ((wil i : Nat) : Int), .bool true]) ∧ Below W.heap.size W w' := by
            intro i h1 h2 W
            have g0 : gN ((i : Nat) : Int) = true := by unfold gN; simp; omega
            have := implWildOf_any (i : Int) W (WalkArith.wf_i64 (by omega))
            rwa [g0, sV_ok g0] at this
          have K0 := Lib.hid (gd N (by omega) (by omega)); have K1 := Lib.hid (gd L (by omega) (by omega)); have K2 := Lib.hid (gd r (by omega) (by omega)); have K3 := Lib.hid (gd t (by omega) (by omega))
          have hMb : (M : Int) - ((wil N : Nat) : Int) = (r : Int) := by omega
          have hMc : (M : Int) - ((wil L : Nat) : Int) = (t : Int) := by omega
          have b1 : (((wil r : Nat) : Int) + ((wil t : Nat) : Int) != ((wil M : Nat) : Int)) = false := by rw [bne_eq_false_iff_eq]; omega
          have hr9 : r ≤ 3000 := by omega
          have ht9 : t ≤ 3000 := by omega
          clear hrd htd hr hBl hCl hB1 hC1 hN hL gd
          generalize wil M = xM at *
          generalize wil r = xr at *
          generalize wil t = xt at *
          generalize wil N = xN at *
          generalize wil L = xL at *
          subst e1
          go_wp2_with fail
          refine (K0.out _).mono ?_
          rintro e w5 ⟨rfl, hb⟩
          have B4 := Lib.hid (below_trans B3.out hb); clear hb
          go_wp2_with fail
          refine (K1.out _).mono ?_
          rintro e w6 ⟨rfl, hb⟩
          have B5 := Lib.hid (below_trans B4.out hb); clear hb
          go_wp2_with fail
          refine (K2.out _).mono ?_
          rintro e w7 ⟨rfl, hb⟩
          have B6 := Lib.hid (below_trans B5.out hb); clear hb
          go_wp2_with fail
          refine (K3.out _).mono ?_
          rintro e w8 ⟨rfl, hb⟩
          have B7 := Lib.hid (below_trans B6.out hb); clear hb
          go_wp2_with fail
          go_meet
          case rel => exact Lib.hid B7.out
        · omega
    case rest => as_aux_lemma =>
      clear HB HZ B3 ez HWN HBC
      have B3 := Lib.hid hcut.out
      clear hcut
      have HDR := Lib.hid (drawNestedTimes_c wc more ms0 (argY_below HMS0.out B3.out))
      go_wp2_with fail
      refine HDR.out.mono ?_
      rintro e wv ⟨v, rfl, hwx, hb⟩
      have BDR := Lib.hid (below_trans B3.out hb); clear hb HDR hwx
      obtain ⟨y, hy⟩ : ∃ y, y = ntN v := ⟨_, rfl⟩
      obtain ⟨a, ha⟩ : ∃ a, a = ntV v := ⟨_, rfl⟩
      have h0 := fun W => implNestedTimes_any v W
      have h1 := fun W => specNestedTimes_any v W
      simp only [← hy, ← ha] at h0 h1
      have H0 := Lib.hid h0
      have H1 := Lib.hid h1
      have HY := Lib.hid hy
      have HA := Lib.hid ha
      have ey : (y != y) = false := by simp
      have ea : (a != a) = false := by simp
      clear h0 h1 hy ha
      go_wp2_with fail
      refine (H0.out _).mono ?_
      rintro e x0 ⟨rfl, hb⟩
      have C0 := Lib.hid (below_trans BDR.out hb); clear hb BDR H0
      go_wp2_with fail
      refine (H1.out _).mono ?_
      rintro e x1 ⟨rfl, hb⟩
      have C1 := Lib.hid (below_trans C0.out hb); clear hb C0 H1
      have HDR := Lib.hid (drawFigureOf_c x1 more ms0 (argY_below HMS0.out C1.out))
      go_wp2_with fail
      refine HDR.out.mono ?_
      rintro e wf0 ⟨f, rfl, hwx, hb⟩
      have BDR := Lib.hid (below_trans C1.out hb); clear hb HDR hwx
      obtain ⟨z, hz⟩ : ∃ z, z = fN f := ⟨_, rfl⟩
      obtain ⟨b, hb⟩ : ∃ b, b = fV f := ⟨_, rfl⟩
      obtain ⟨c, hc⟩ : ∃ c, c = stV f := ⟨_, rfl⟩
      have h2 := fun W => implFigureOf_any f W
      have h3 := fun W => specFigureOf_any f W
      have h4 := fun W => implStepOf_any f W
      have h5 := fun W => specStepOf_any f W
      simp only [← hz, ← hb, ← hc] at h2 h3 h4 h5
      have H2 := Lib.hid h2
      have H3 := Lib.hid h3
      have H4 := Lib.hid h4
      have H5 := Lib.hid h5
      have HZ := Lib.hid hz
      have HB := Lib.hid hb
      have HC := Lib.hid hc
      have ez : (z != z) = false := by simp
      have eb : (b != b) = false := by simp
      have ec : (c != c) = false := by simp
      clear h2 h3 h4 h5 hz hb hc
      go_wp2_with fail
      refine (H2.out _).mono ?_
      rintro e x2 ⟨rfl, hb⟩
      have C2 := Lib.hid (below_trans BDR.out hb); clear hb BDR H2
      go_wp2_with fail
      refine (H3.out _).mono ?_
      rintro e x3 ⟨rfl, hb⟩
      have C3 := Lib.hid (below_trans C2.out hb); clear hb C2 H3
      go_wp2_with fail
      refine (H4.out _).mono ?_
      rintro e x4 ⟨rfl, hb⟩
      have C4 := Lib.hid (below_trans C3.out hb); clear hb C3 H4
      go_wp2_with fail
      refine (H5.out _).mono ?_
      rintro e x5 ⟨rfl, hb⟩
      have C5 := Lib.hid (below_trans C4.out hb); clear hb C4 H5
      have HDR := Lib.hid (drawIsFigure_c x5 more ms0 (argY_below HMS0.out C5.out))
      go_wp2_with fail
      refine HDR.out.mono ?_
      rintro e wk0 ⟨k, rfl, hwx, hb⟩
      have BDR := Lib.hid (below_trans C5.out hb); clear hb HDR hwx
      obtain ⟨t, ht⟩ : ∃ t, t = iN k := ⟨_, rfl⟩
      obtain ⟨d, hd⟩ : ∃ d, d = iV k := ⟨_, rfl⟩
      have h6 := fun W => implIsFigure_any k W
      have h7 := fun W => specIsFigure_any k W
      simp only [← ht, ← hd] at h6 h7
      have H6 := Lib.hid h6
      have H7 := Lib.hid h7
      have HT := Lib.hid ht
      have HD := Lib.hid hd
      have et : (t != t) = false := by simp
      have ed : (d != d) = false := by simp
      clear h6 h7 ht hd
      go_wp2_with fail
      refine (H6.out _).mono ?_
      rintro e x6 ⟨rfl, hb⟩
      have C6 := Lib.hid (below_trans BDR.out hb); clear hb BDR H6
      go_wp2_with fail
      refine (H7.out _).mono ?_
      rintro e x7 ⟨rfl, hb⟩
      have C7 := Lib.hid (below_trans C6.out hb); clear hb C6 H7
      go_upto_region 33 with fail
      go_cut [314] from 261 to 314 (fun u wx => u = .bool false ∧ Hid (Below w.heap.size w wx))
      case first => as_aux_lemma =>
        clear HZ HB HC
        cases y with
        | false =>
          go_wp2_with fail
          go_meet
          case rel => exact ⟨rfl, Lib.hid C7.out⟩
        | true =>
          obtain ⟨N, rfl, hN9⟩ := ntN_open HY.out.symm
          have e1 : a = ((allS' 0 (2 * N + 1) (ntH N) : Nat) : Int) := by rw [HA.out, ntV_ok HY.out.symm]
          rcases nt_one N hN9 with h1 | h1
          · rw [h1] at e1
            subst e1
            clear h1
            go_wp2_with fail
            go_meet
            case rel => exact ⟨rfl, Lib.hid C7.out⟩
          · rw [h1] at e1
            subst e1
            clear h1
            go_wp2_with fail
            go_meet
            case rel => exact ⟨rfl, Lib.hid C7.out⟩
      case rest => as_aux_lemma =>
        obtain ⟨rfl, hcut⟩ := hcut
        have B3 := Lib.hid hcut.out
        clear hcut C7 HY HA ey ea eb ec et ed HT
        obtain ⟨bd, hbd⟩ : ∃ bd, bd = (z && decide (f < 1000)) := ⟨_, rfl⟩
        have HBD := Lib.hid hbd
        clear hbd
        go_upto_region 35 with fail
        go_cut [319] from 315 to 319 (fun u wx => u = .bool bd ∧ Hid (Below w.heap.size w wx))
        case first => as_aux_lemma =>
         cases z with
         | false =>
          obtain rfl : bd = false := HBD.out
          go_wp2_with fail
          go_meet
          case rel => exact ⟨rfl, Lib.hid B3.out⟩
         | true =>
          have hd : decide (f < 1000) = bd := by rw [HBD.out, Bool.true_and]
          go_wp2_with fail
          go_meet
          case rel => exact ⟨by rw [← hd], Lib.hid B3.out⟩
        case rest => as_aux_lemma =>
        obtain ⟨rfl, hcut⟩ := hcut
        clear B3
        have B3 := Lib.hid hcut.out
        clear hcut
        go_upto_if 319 with fail
        go_cut [] from 319 to 319 (fun wx => Hid (Below w.heap.size w wx))
        case first => as_aux_lemma =>
          clear ez
          cases bd with
          | false =>
            go_wp2_with fail
            go_meet
            case rel => exact Lib.hid B3.out
          | true =>
            have hyy : z = true ∧ f < 1000 := by have := HBD.out; simpa using this.symm
            obtain ⟨rfl, hn0⟩ := hyy
            obtain ⟨F, rfl, hF1, hF9⟩ := fN_open HZ.out.symm
            have e1 : b = ((fig (F - 1) : Nat) : Int) := by rw [HB.out, fV_ok HZ.out.symm]
            have e2 : c = ((stp F : Nat) : Int) := by rw [HC.out, stV_ok HZ.out.symm]
            by_cases hF : F < 1000
            · obtain ⟨G, rfl⟩ : ∃ G, F = G + 1 := ⟨F - 1, by omega⟩
              rw [Nat.add_sub_cancel] at e1
              have hfs := fig_succ G
              have hup : stp (G + 1) + 1 ≤ stp (G + 2) ∧ stp (G + 2) ≤ stp (G + 1) + 2 := stp_up (G + 1)
              have hst := stp_ge (G + 1)
              have hs1 := (stp_ge G).1
              have hfl := fig_le6 (k := G + 1) (by omega)
              have hfl0 := fig_le6 (k := G) (by omega)
              have hfp : 1 ≤ fig G := by have := fig_up 0 G; rw [Nat.zero_add, fig_zero] at this; omega
              have g1 : fN ((G + 2 : Nat) : Int) = true := by unfold fN; simp; omega
              have k0 := fun W => implFigureOf_any ((G + 2 : Nat) : Int) W
              have k1 := fun W => implStepOf_any ((G + 2 : Nat) : Int) W
              rw [g1, fV_ok g1, show G + 2 - 1 = G + 1 from rfl] at k0
              rw [g1, stV_ok g1] at k1
              rw [show ((G + 2 : Nat) : Int) = (G : Int) + 1 + 1 by omega] at k0 k1
              have gi : ∀ x : Nat, 1 ≤ x → x ≤ 100000 → ∀ u, (figL 449).contains x = u → ∀ W, Calls Try.prog 43 #[.int .i64 (x : Int)] W fun e w' => e = .returned (.tuple #[.bool u, .bool true]) ∧ Below W.heap.size W w' := by
                intro x h1 h2 u hu W
                have g0 : iN ((x : Nat) : Int) = true := by unfold iN; simp; omega
                have := implIsFigure_any (x : Int) W
                rwa [g0, iV_ok g0, hu] at this
              have k2 := gi (stp (G + 1)) (by omega) (by omega) false (stp_out G)
              have k3 : fig G ≤ 100000 → _ := fun h => gi (fig G) hfp h true (fig_in G h)
              have k4 : ∀ x : Nat, stp (G + 1) < x → x < stp (G + 1 + 1) → _ := fun x h1 h2 => gi x (by omega) (by have hx2 : x < stp (G + 2) := h2; omega) true (between_in (G + 1) x h1 h2 (by have hx2 : x < stp (G + 2) := h2; omega))
              have b1 : (((fig (G + 1) : Nat) : Int) != ((fig G : Nat) : Int) + ((stp (G + 1) : Nat) : Int)) = false := by rw [bne_eq_false_iff_eq]; omega
              have hS0 : stp (G + 1) ≤ 2000 := by omega
              have hS1 : stp (G + 1) < stp (G + 2) := by omega
              have hS2 : stp (G + 2) ≤ 2002 := by omega
              have hFG : fig G ≤ 1100000 := hfl0
              have K0 := Lib.hid k0; have K1 := Lib.hid k1; have K2 := Lib.hid k2; have K3 := Lib.hid k3
              have K4 : Hid (∀ x : Nat, stp (G + 1) < x → x < stp (G + 2) → ∀ W, Calls Try.prog 43 #[.int .i64 (x : Int)] W fun e w' => e = .returned (.tuple #[.bool true, .bool true]) ∧ Below W.heap.size W w') := Lib.hid k4
              clear k0 k1 k2 k3 k4 gi hfs hup hst hs1 hfl hfl0 hfp g1 HB HC HZ
              obtain ⟨s0, hs0⟩ : ∃ s0, s0 = stp (G + 1) := ⟨_, rfl⟩
              obtain ⟨s2, hs2⟩ : ∃ s2, s2 = stp (G + 2) := ⟨_, rfl⟩
              obtain ⟨g0, hg0⟩ : ∃ g0, g0 = fig G := ⟨_, rfl⟩
              obtain ⟨g2, hg2⟩ : ∃ g2, g2 = fig (G + 1) := ⟨_, rfl⟩
              simp only [← hs0, ← hs2, ← hg0, ← hg2] at e1 e2 b1 hS0 hS1 hS2 hFG K0 K1 K2 K3 K4
              subst e1 e2
              clear hs0 hs2 hg0 hg2
              have hF2 : (G : Int) + 1 < 1000 := by omega
              go_wp2_with fail
              refine (K0.out _).mono ?_
              rintro e y0 ⟨rfl, hb⟩
              have B4 := Lib.hid (below_trans B3.out hb); clear hb B3
              go_wp2_with fail
              refine (K1.out _).mono ?_
              rintro e y1 ⟨rfl, hb⟩
              have B5 := Lib.hid (below_trans B4.out hb); clear hb B4
              go_wp2_with fail
              refine (K2.out _).mono ?_
              rintro e y2 ⟨rfl, hb⟩
              have B6 := Lib.hid (below_trans B5.out hb); clear hb B5
              by_cases hg : g0 ≤ 100000
              · have hgi : (g0 : Int) ≤ 100000 := by omega
                have KF := Lib.hid (K3.out hg)
                go_wp2_with fail
                refine (KF.out _).mono ?_
                rintro e y3 ⟨rfl, hb⟩
                have B7 := Lib.hid (below_trans B6.out hb); clear hb B6
                go_wp2_with fail
                go_loopw [53] (fun xv wr => ∃ x : Nat, s0 + 1 ≤ x ∧ x ≤ s2 ∧ xv = .int .i64 (x : Int) ∧ Hid (Below w.heap.size w wr)) (fun xv _ => s2 - (intOf xv).toNat)
                case atStart => exact ⟨s0 + 1, by omega, by omega, by go_num, Lib.hid B7.out⟩
                case round => as_aux_lemma =>
                  obtain ⟨x, hx1, hx2, rfl, HW⟩ := hrel
                  by_cases hlt : x < s2
                  · have KX := Lib.hid (K4.out x (by omega) hlt)
                    go_wp2_with fail
                    refine (KX.out _).mono ?_
                    rintro e y4 ⟨rfl, hb⟩
                    have B8 := Lib.hid (below_trans HW.out hb); clear hb
                    go_wp2_with fail
                    go_roundw
                    case rel => exact ⟨x + 1, by omega, by omega, by go_num, Lib.hid B8.out⟩
                    case measure => simp [intOf] <;> omega
                  · have hxe : ¬ ((x : Int) < (s2 : Int)) := by omega
                    go_wp2_with fail
                    go_meet
                    case rel => exact Lib.hid HW.out
              · have hgi : ¬ ((g0 : Int) ≤ 100000) := by omega
                go_wp2_with fail
                go_loopw [53] (fun xv wr => ∃ x : Nat, s0 + 1 ≤ x ∧ x ≤ s2 ∧ xv = .int .i64 (x : Int) ∧ Hid (Below w.heap.size w wr)) (fun xv _ => s2 - (intOf xv).toNat)
                case atStart => exact ⟨s0 + 1, by omega, by omega, by go_num, Lib.hid B6.out⟩
                case round => as_aux_lemma =>
                  obtain ⟨x, hx1, hx2, rfl, HW⟩ := hrel
                  by_cases hlt : x < s2
                  · have KX := Lib.hid (K4.out x (by omega) hlt)
                    go_wp2_with fail
                    refine (KX.out _).mono ?_
                    rintro e y4 ⟨rfl, hb⟩
                    have B8 := Lib.hid (below_trans HW.out hb); clear hb
                    go_wp2_with fail
                    go_roundw
                    case rel => exact ⟨x + 1, by omega, by omega, by go_num, Lib.hid B8.out⟩
                    case measure => simp [intOf] <;> omega
                  · have hxe : ¬ ((x : Int) < (s2 : Int)) := by omega
                    go_wp2_with fail
                    go_meet
                    case rel => exact Lib.hid HW.out
            · omega
        case rest => as_aux_lemma =>
          clear HZ HB HC ez B3 HBD
          have B3 := Lib.hid hcut.out
          clear hcut
          have HDR := Lib.hid (drawHalvedPair_c wc more ms0 (argY_below HMS0.out B3.out))
          go_wp2_with fail
          refine HDR.out.mono ?_
          rintro e wh0 ⟨h, rfl, hwx, hb⟩
          have BDR := Lib.hid (below_trans B3.out hb); clear hb HDR hwx
          obtain ⟨z, hz⟩ : ∃ z, z = hpB h := ⟨_, rfl⟩
          obtain ⟨a, ha⟩ : ∃ a, a = hpV h := ⟨_, rfl⟩
          obtain ⟨b, hb⟩ : ∃ b, b = hpU h := ⟨_, rfl⟩
          obtain ⟨y, hy⟩ : ∃ y, y = hvB h := ⟨_, rfl⟩
          obtain ⟨c, hc⟩ : ∃ c, c = hvV h := ⟨_, rfl⟩
          have h0 := fun W => implHalvedPair_any h W
          have h1 := fun W => specHalvedPair_any h W
          have h2 := fun W => implHalvedOf_any h W
          have h3 := fun W => specHalvedOf_any h W
          simp only [← hz, ← ha, ← hb, ← hy, ← hc] at h0 h1 h2 h3
          have H0 := Lib.hid h0
          have H1 := Lib.hid h1
          have H2 := Lib.hid h2
          have H3 := Lib.hid h3
          have HZ := Lib.hid hz
          have HA := Lib.hid ha
          have HB := Lib.hid hb
          have HY := Lib.hid hy
          have HC := Lib.hid hc
          have ez : (z != z) = false := by simp
          have ea : (a != a) = false := by simp
          have eb : (b != b) = false := by simp
          have ey : (y != y) = false := by simp
          have ec : (c != c) = false := by simp
          clear h0 h1 h2 h3 hz ha hb hy hc
          go_wp2_with fail
          refine (H0.out _).mono ?_
          rintro e z0 ⟨rfl, hb⟩
          have D0 := Lib.hid (below_trans BDR.out hb); clear hb BDR H0
          go_wp2_with fail
          refine (H1.out _).mono ?_
          rintro e z1 ⟨rfl, hb⟩
          have D1 := Lib.hid (below_trans D0.out hb); clear hb D0 H1
          go_wp2_with fail
          refine (H2.out _).mono ?_
          rintro e z2 ⟨rfl, hb⟩
          have D2 := Lib.hid (below_trans D1.out hb); clear hb D1 H2
          go_wp2_with fail
          refine (H3.out _).mono ?_
          rintro e z3 ⟨rfl, hb⟩
          have D3 := Lib.hid (below_trans D2.out hb); clear hb D2 H3
          have HDR := Lib.hid (drawHalvedRank_c z3 more ms0 (argY_below HMS0.out D3.out))
          go_wp2_with fail
          refine HDR.out.mono ?_
          rintro e wp0 ⟨p, q, rfl, hb⟩
          have BDR := Lib.hid (below_trans D3.out hb); clear hb HDR
          obtain ⟨t, ht⟩ : ∃ t, t = hrB p q := ⟨_, rfl⟩
          obtain ⟨d, hd⟩ : ∃ d, d = hrV p q := ⟨_, rfl⟩
          have h4 := fun W => implHalvedRank_any p q W
          have h5 := fun W => specHalvedRank_any p q W
          simp only [← ht, ← hd] at h4 h5
          have H4 := Lib.hid h4
          have H5 := Lib.hid h5
          have HT := Lib.hid ht
          have HD := Lib.hid hd
          have et : (t != t) = false := by simp
          have ed : (d != d) = false := by simp
          clear h4 h5 ht hd
          go_wp2_with fail
          refine (H4.out _).mono ?_
          rintro e z4 ⟨rfl, hb⟩
          have D4 := Lib.hid (below_trans BDR.out hb); clear hb BDR H4
          go_wp2_with fail
          refine (H5.out _).mono ?_
          rintro e z5 ⟨rfl, hb⟩
          have D5 := Lib.hid (below_trans D4.out hb); clear hb D4 H5
          go_upto_region 62 with fail
          go_cut [473] from 434 to 473 (fun u wx => u = .bool false ∧ Hid (Below w.heap.size w wx))
          case first => as_aux_lemma =>
            cases z with
            | false =>
              go_wp2_with fail
              go_meet
              case rel => exact ⟨rfl, Lib.hid D5.out⟩
            | true =>
              obtain ⟨H, rfl, hH1, hH9⟩ := hp_open HZ.out.symm
              obtain rfl : y = true := by rw [HY.out, (hv_ok H hH9).1]
              go_wp2_with fail
              go_meet
              case rel => exact ⟨rfl, Lib.hid D5.out⟩
          case rest => as_aux_lemma =>
            obtain ⟨rfl, hcut⟩ := hcut
            have B3 := Lib.hid hcut.out
            clear hcut D5 ey ez ea eb ec et ed
            go_upto_if 474 with fail
            go_cut [] from 474 to 474 (fun wx => Hid (Below w.heap.size w wx))
            case first => as_aux_lemma =>
              clear HT HD
              cases z with
              | false =>
                go_wp2_with fail
                go_meet
                case rel => exact Lib.hid B3.out
              | true =>
                obtain ⟨H, rfl, hH1, hH9⟩ := hp_open HZ.out.symm
                have e1 : a = (((halv H).1 : Nat) : Int) := by rw [HA.out, (hp_ok H hH1 hH9).2.1]
                have e2 : b = (((halv H).2 : Nat) : Int) := by rw [HB.out, (hp_ok H hH1 hH9).2.2]
                have e3 : c = (((halv H).1 : Nat) : Int) := by rw [HC.out, (hv_ok H hH9).2]
                have hle := halv_le H
                have hG := fun W => fCommon_any W (halv H).1 (halv H).2 (by omega) (by omega)
                rw [halv_gcd H] at hG
                have hO := fun W => implHalvedOf_any ((H / 2 : Nat) : Int) W
                rw [(hv_ok (H / 2) (by omega)).1, (hv_ok (H / 2) (by omega)).2] at hO
                have hR : (halv H).1 ≤ 1000 → (halv H).2 ≤ 1000 → ∀ W, Calls Try.prog 51 #[.int .i64 (((halv H).1 : Nat) : Int), .int .i64 (((halv H).2 : Nat) : Int)] W fun e w' => e = .returned (.tuple #[.int .i64 (H : Int), .bool true]) ∧ Below W.heap.size W w' := by
                  intro hA hB W
                  have := implHalvedRank_any (((halv H).1 : Nat) : Int) (((halv H).2 : Nat) : Int) W
                  rwa [(hr_halv H hH1 hH9 hA hB).1, (hr_halv H hH1 hH9 hA hB).2] at this
                have hside := halv_side H hH1
                have hhalf := halv_half H
                obtain ⟨A, hA⟩ : ∃ A, A = (halv H).1 := ⟨_, rfl⟩
                obtain ⟨B, hB⟩ : ∃ B, B = (halv H).2 := ⟨_, rfl⟩
                obtain ⟨C, hC⟩ : ∃ C, C = (halv (H / 2)).1 := ⟨_, rfl⟩
                simp only [← hA, ← hB, ← hC] at e1 e2 e3 hG hO hR hside hhalf hle
                subst e1 e2 e3
                have hq : (H : Int).tdiv 2 = ((H / 2 : Nat) : Int) := by rw [Int.tdiv_eq_ediv_of_nonneg (by omega)]; omega
                have eA : ((A : Int) != (A : Int)) = false := by simp
                have eH : ((H : Int) != (H : Int)) = false := by simp
                have HG := Lib.hid hG; have HO := Lib.hid hO; have HR := Lib.hid hR; have HSD := Lib.hid hside; have HHF := Lib.hid hhalf
                have hA9 : A ≤ 1000000000 := by omega
                have hB9 : B ≤ 1000000001 := by omega
                clear hG hO hR hside hhalf hA hB hC hle HZ HY HA HB HC
                by_cases hp2 : H % 2 = 1
                · have hm : (H : Int).tmod 2 = 1 := by rw [Int.tmod_eq_emod_of_nonneg (by omega)]; omega
                  by_cases hlt : B < A
                  · have hgt : decide ((B : Int) < (A : Int)) = true := by simp; omega
                    clear hp2
                    as_aux_lemma =>
                      go_wp2_with fail
                      refine (HG.out _).mono ?_
                      rintro e y0 ⟨rfl, hb⟩
                      have B4 := Lib.hid (below_trans B3.out hb); clear hb
                      go_wp2_with fail
                      refine (HO.out _).mono ?_
                      rintro e y1 ⟨rfl, hb⟩
                      have B5 := Lib.hid (below_trans B4.out hb); clear hb
                      by_cases hA1 : A ≤ 1000
                      · have hA2 : (A : Int) ≤ 1000 := by omega
                        by_cases hB1 : B ≤ 1000
                        · have hB2 : (B : Int) ≤ 1000 := by omega
                          have KR := Lib.hid (HR.out hA1 hB1)
                          go_wp2_with fail
                          refine (KR.out _).mono ?_
                          rintro e y2 ⟨rfl, hb⟩
                          have B6 := Lib.hid (below_trans B5.out hb); clear hb
                          go_wp2_with fail
                          go_meet
                          case rel => exact Lib.hid B6.out
                        · have hB2 : ¬ (B : Int) ≤ 1000 := by omega
                          go_wp2_with fail
                          all_goals
                            go_meet
                            case rel => exact Lib.hid B5.out
                      · have hA2 : ¬ (A : Int) ≤ 1000 := by omega
                        go_wp2_with fail
                        all_goals
                          go_meet
                          case rel => exact Lib.hid B5.out
                  · have hH : H = 1 := by have := HSD.out.1 hp2; omega
                    subst hH
                    have hgt : decide ((B : Int) < (A : Int)) = false := by simp; omega
                    clear hp2
                    as_aux_lemma =>
                      go_wp2_with fail
                      refine (HG.out _).mono ?_
                      rintro e y0 ⟨rfl, hb⟩
                      have B4 := Lib.hid (below_trans B3.out hb); clear hb
                      go_wp2_with fail
                      refine (HO.out _).mono ?_
                      rintro e y1 ⟨rfl, hb⟩
                      have B5 := Lib.hid (below_trans B4.out hb); clear hb
                      by_cases hA1 : A ≤ 1000
                      · have hA2 : (A : Int) ≤ 1000 := by omega
                        by_cases hB1 : B ≤ 1000
                        · have hB2 : (B : Int) ≤ 1000 := by omega
                          have KR := Lib.hid (HR.out hA1 hB1)
                          go_wp2_with fail
                          refine (KR.out _).mono ?_
                          rintro e y2 ⟨rfl, hb⟩
                          have B6 := Lib.hid (below_trans B5.out hb); clear hb
                          go_wp2_with fail
                          go_meet
                          case rel => exact Lib.hid B6.out
                        · have hB2 : ¬ (B : Int) ≤ 1000 := by omega
                          go_wp2_with fail
                          all_goals
                            go_meet
                            case rel => exact Lib.hid B5.out
                      · have hA2 : ¬ (A : Int) ≤ 1000 := by omega
                        go_wp2_with fail
                        all_goals
                          go_meet
                          case rel => exact Lib.hid B5.out
                · have hm : (H : Int).tmod 2 = 0 := by rw [Int.tmod_eq_emod_of_nonneg (by omega)]; omega
                  have hlt : ¬ B < A := fun h => hp2 (HSD.out.2 (.inl h))
                  have hne : ¬ H = 1 := fun h => hp2 (HSD.out.2 (.inr h))
                  have hgt : decide ((B : Int) < (A : Int)) = false := by simp; omega
                  have hn1 : ((H : Int) == 1) = false := by rw [beq_eq_false_iff_ne]; omega
                  obtain rfl : A = C := (HHF.out (by omega)).symm
                  clear hp2
                  as_aux_lemma =>
                    go_wp2_with fail
                    refine (HG.out _).mono ?_
                    rintro e y0 ⟨rfl, hb⟩
                    have B4 := Lib.hid (below_trans B3.out hb); clear hb
                    go_wp2_with fail
                    refine (HO.out _).mono ?_
                    rintro e y1 ⟨rfl, hb⟩
                    have B5 := Lib.hid (below_trans B4.out hb); clear hb
                    by_cases hA1 : A ≤ 1000
                    · have hA2 : (A : Int) ≤ 1000 := by omega
                      by_cases hB1 : B ≤ 1000
                      · have hB2 : (B : Int) ≤ 1000 := by omega
                        have KR := Lib.hid (HR.out hA1 hB1)
                        go_wp2_with fail
                        refine (KR.out _).mono ?_
                        rintro e y2 ⟨rfl, hb⟩
                        have B6 := Lib.hid (below_trans B5.out hb); clear hb
                        go_wp2_with fail
                        go_meet
                        case rel => exact Lib.hid B6.out
                      · have hB2 : ¬ (B : Int) ≤ 1000 := by omega
                        go_wp2_with fail
                        all_goals
                          go_meet
                          case rel => exact Lib.hid B5.out
                    · have hA2 : ¬ (A : Int) ≤ 1000 := by omega
                      go_wp2_with fail
                      all_goals
                        go_meet
                        case rel => exact Lib.hid B5.out
            case rest => as_aux_lemma =>
              have B4 := Lib.hid hcut.out
              clear hcut B3 HZ HY HA HB HC
              cases t with
              | false =>
                go_wp2_with fail
                go_ret
                exact ⟨rfl, B4.out⟩
              | true =>
                obtain ⟨R, P, Q, rfl, rfl, hR, g0, g1, g2⟩ := hr_back p q HT.out.symm
                have e1 : d = (R : Int) := by rw [HD.out, hR]
                subst e1
                have k0 := fun W => implHalvedPair_any (R : Int) W
                rw [g0, g1, g2] at k0
                have K0 := Lib.hid k0
                have eP : ((P : Int) == (P : Int)) = true := by simp
                have eQ : ((Q : Int) == (Q : Int)) = true := by simp
                clear k0 g0 g1 g2 hR HT HD
                go_wp2_with fail
                refine (K0.out _).mono ?_
                rintro e y9 ⟨rfl, hb⟩
                have B5 := Lib.hid (below_trans B4.out hb); clear hb B4
                go_wp2_with fail
                go_ret
                exact ⟨rfl, B5.out⟩
end Go.Proofs.Ytakmmoplepghjaa
