/- Law FnWordsHeard: as FnWordsHeardOfAll's, its words and numbers drawn on the way. (By tools/genw15.py.) -/
import Derived.Test.YtdlhahigiooddaaW11
import Derived.Test.Ytdlhahigiooddaau7
import Derived.Deep.DeepCutAuto
namespace Go.Proofs.Ytdlhahigiooddaa
open Go.RowKit Go.BigFrame Go.Shelf Go.Deep
set_option linter.unusedSimpArgs false
set_option linter.unusedVariables false
set_option maxRecDepth 4000

theorem timesG_len {l m : List UInt8} {n : Int} (h : timesG l n = some m) : m.length ≤ 400 := by
  unfold timesG at h
  cases h2 : wayGO saidO 20 l n with
  | none => rw [h2] at h; cases h
  | some ls =>
    rw [h2] at h
    have e : ls.getLastD [] = m := by injection h
    unfold wayGO at h2
    split at h2
    · rename_i hc
      have hg := good_size hc.1
      rw [bs_size] at hg
      have hm := wayG_mem saidO (fun a b hab => by
        unfold saidO at hab
        split at hab
        · rename_i hh
          injection hab with e2
          have := good_size hh.2
          rw [bs_size, e2] at this; exact this
        · cases hab) n.toNat l hg ls h2
      have hlen := wayG_len saidO _ _ _ h2
      have hne : ls ≠ [] := by intro e0; rw [e0] at hlen; simp at hlen
      rw [← e, List.getLastD_eq_getLast?, List.getLast?_eq_some_getLast hne]
      exact hm _ (List.getLast_mem hne)
    · cases h2

set_option maxHeartbeats 1000000 in
theorem drawHearTimes_c (w : World) (cv : Value) (ns : List Int) (ha : ArgY w cv ns) :
    Calls Try.prog 44 #[cv] w fun e w' => TextD w e w' := by
  have HP := Lib.hid (wordOf_c w _ w.heap.size 0 5 cv ns ha (cur_new w cv) (by omega) (by omega) (by omega))
  have HA := Lib.hid ha
  obtain ⟨A, C, rfl, _⟩ := ha
  go_enter Try.func44, Try.ntmps44
  go_wp2_with fail
  refine HP.out.mono ?_
  rintro e w1 ⟨t, rfl, ht, hcu⟩
  have HC := Lib.hid hcu
  clear hcu HP
  have HQ := Lib.hid (pick_c w w1 w.heap.size 40 6 _ ns HA.out HC.out (by omega) (by omega) (by omega))
  go_wp2_with fail
  refine HQ.out.mono ?_
  rintro e w2 ⟨x, rfl, hx, hcu, hg⟩
  have HC2 := Lib.hid hcu; clear hcu hg HQ HC
  have h3 := specTimesG_any t (x : Int) w2 (by unfold maxLen; omega)
  have hsz : ((timesG t.data.toList (x : Int)).getD []).length ≤ 402 := by
    cases h : timesG t.data.toList (x : Int) with
    | none => simp
    | some l =>
      have := timesG_len h
      simp; omega
  simp only [strOk_eqW] at h3
  generalize hL : bs ((timesG t.data.toList (x : Int)).getD []) = L at h3
  have hLs : L.size ≤ 402 := by rw [← hL, bs_size]; exact hsz
  generalize (timesG t.data.toList (x : Int)).isSome = z at h3
  have H3 := Lib.hid h3
  clear h3 hL hsz
  go_wp2_with fail
  refine H3.out.mono ?_
  rintro e w3 ⟨rfl, hb⟩
  have HC3 := Lib.hid (HC2.out.later hb).below; clear hb
  cases z with
  | true =>
    go_wp2_with fail
    go_ret
    exact ⟨L, rfl, hLs, HC3.out⟩
  | false =>
    go_wp2_with fail
    go_ret
    exact ⟨t, rfl, ht, HC3.out⟩

set_option maxRecDepth 100000 in
set_option maxHeartbeats 16000000 in
theorem law_FnWordsHeard (code : Value) (cs : List Int) (more : Value) (ms0 : List Int) (w : World) (hcs : ArgY w code cs) (hms : ArgY w more ms0) :
    Calls Try.prog 5 #[code, more] w fun e w' => e = .returned (.bool true) ∧ Below w.heap.size w w' := by
  have HMS0 := Lib.hid hms
  have HBIG := Lib.hid (big_any w code more cs ms0 hcs hms)
  have HD0 := Lib.hid (drawHearWord_c w code cs hcs)
  clear hcs hms
  go_enter Try.func5, Try.ntmps5
  go_wp2_with fail
  refine HBIG.out.mono ?_
  rintro e wb ⟨b, rfl, rfl⟩
  clear HBIG
  cases b
  case true => (go_wp2_with fail; go_ret; exact ⟨rfl, Below.refl _ _⟩)
  go_wp2_with fail
  refine HD0.out.mono ?_
  rintro e wd ⟨wt, rfl, hwt, hbd⟩
  have BD := Lib.hid hbd
  clear hbd HD0
  have hwt' : wt.size ≤ maxLen := by unfold maxLen; omega
  have h0 := fun W => implHearWord_any wt W hwt'
  have h1 := fun W => specHearWord_any wt W hwt'
  clear hwt'
  obtain ⟨z, hz⟩ : ∃ z, z = (hearO wt.data.toList).isSome := ⟨_, rfl⟩
  obtain ⟨O, hO⟩ : ∃ O, O = bs ((hearO wt.data.toList).getD []) := ⟨_, rfl⟩
  simp only [strOk_eqW, ← hz, ← hO] at h0 h1
  have H0 := Lib.hid h0; have H1 := Lib.hid h1; have HZ := Lib.hid hz; have HO := Lib.hid hO
  have ez : (z != z) = false := by simp
  have eO : (O.toList != O.toList) = false := by simp
  have ew : (wt.toList != wt.toList) = false := by simp
  clear h0 h1 hz hO
  go_wp2_with fail
  refine (H0.out _).mono ?_
  rintro e w1 ⟨rfl, hb⟩
  have B0 := Lib.hid (below_trans BD.out hb); clear hb BD
  go_wp2_with fail
  refine (H1.out _).mono ?_
  rintro e w2 ⟨rfl, hb⟩
  have B1 := Lib.hid (below_trans B0.out hb); clear hb B0 H0 H1
  go_upto_if 76 with fail
  go_cut [] from 76 to 76 (fun wx => Hid (Below w.heap.size w wx))
  case first => as_aux_lemma =>
    cases z with
    | false =>
      go_wp2_with fail
      go_meet
      case rel => exact Lib.hid B1.out
    | true =>
      obtain ⟨t, ht⟩ := Option.isSome_iff_exists.1 HZ.out.symm
      have hO2 : O = bs t := by rw [HO.out, ht]; rfl
      have hsz : O.size ≤ 400 := by rw [hO2]; exact good_size (hearO_good ht)
      have k0 := fun W => implSayWord_any O W (by unfold maxLen; omega)
      rw [hO2, bs_list, ← hO2, hear_say ht] at k0
      unfold strOk at k0
      dsimp only at k0
      rw [bs_back] at k0
      have K0 := Lib.hid k0
      clear k0 HZ HO ht hO2 ez eO
      go_wp2_with fail
      refine (K0.out _).mono ?_
      rintro e w3 ⟨rfl, hb⟩
      have B2 := Lib.hid (below_trans B1.out hb); clear hb B1
      go_wp2_with fail
      go_meet
      case rel => exact Lib.hid B2.out
  case rest => as_aux_lemma =>
    clear HZ HO B1 ez eO ew
    have B00 := Lib.hid hcut.out
    clear hcut
    have HD1 := Lib.hid (drawWayOfWord_c wc more ms0 (argY_below HMS0.out B00.out))
    go_wp2_with fail
    refine HD1.out.mono ?_
    rintro e wm ⟨xt, times, rfl, hxt, hwf, hbm⟩
    have HXT := Lib.hid (show xt.size ≤ maxLen by unfold maxLen; omega)
    have B0 := Lib.hid (below_trans B00.out hbm)
    clear hbm HD1 B00 hwf
    obtain ⟨o, ho⟩ : ∃ o, o = wayGO saidO 20 xt.data.toList times := ⟨_, rfl⟩
    obtain ⟨z, hz⟩ : ∃ z, z = o.isSome := ⟨_, rfl⟩
    obtain ⟨ls, hls⟩ : ∃ ls, ls = o.getD [] := ⟨_, rfl⟩
    obtain ⟨L, hL⟩ : ∃ L, L = bs ((timesG xt.data.toList times).getD []) := ⟨_, rfl⟩
    have htz : (timesG xt.data.toList times).isSome = z := by rw [hz, ho]; unfold timesG; cases wayGO saidO 20 xt.data.toList times <;> rfl
    have hopen : ∀ (W W' : World) (e : Ending), StrsOk o W W' e → ∃ v, e = .returned (.tuple #[v, .bool z]) ∧ Strs W' W.heap.size v ls ∧ Below W.heap.size W W' := by
      rintro W W' e ⟨v, h1, h2, h3, _⟩
      exact ⟨v, by rw [hz]; exact h1, by rw [hls]; exact h2, h3⟩
    have h0 := fun (W : World) => (implWord_any xt times W HXT.out)
    have h1 := fun (W : World) => (specWord_any xt times W HXT.out)
    have h2 := fun W => implTimesG_any xt times W HXT.out
    have h3 := fun W => specTimesG_any xt times W HXT.out
    rw [← ho] at h0 h1
    simp only [strOk_eqW, htz, ← hL] at h2 h3
    have H0 := Lib.hid h0; have H1 := Lib.hid h1; have H2 := Lib.hid h2; have H3 := Lib.hid h3; have HOP := Lib.hid hopen
    have HZ := Lib.hid hz; have HO := Lib.hid ho; have HLS := Lib.hid hls; have HL := Lib.hid hL
    have ez : (z != z) = false := by simp
    have eL : (L.toList != L.toList) = false := by simp
    clear h0 h1 h2 h3 hopen hz ho hls hL htz
    go_wp2_with fail
    refine (H0.out _).mono ?_
    intro e x0 hx
    obtain ⟨v0, rfl, hi, hb⟩ := HOP.out _ _ _ hx
    have I0 := Lib.hid hi; have B1 := Lib.hid hb; clear hx hi hb H0
    go_wp2_with fail
    refine (H1.out _).mono ?_
    intro e x1 hx
    obtain ⟨v1, rfl, hi, hb⟩ := HOP.out _ _ _ hx
    have I1 := Lib.hid hi; have J0 := Lib.hid (own_below I0.out hb); have B2 := Lib.hid (below_trans B1.out hb); clear hx hi hb H1 I0 B1
    go_wp2_with fail
    refine (H2.out _).mono ?_
    rintro e x2 ⟨rfl, hb⟩
    have BB := Lib.hid hb; clear hb H2
    go_wp2_with fail
    refine (H3.out _).mono ?_
    rintro e x3 ⟨rfl, hb⟩
    have BB2 := Lib.hid (below_trans BB.out hb); clear hb H3 BB
    have I2 := Lib.hid (own_below J0.out BB2.out)
    have I3 := Lib.hid (own_below I1.out BB2.out)
    have B3 := Lib.hid (below_trans B0.out (below_trans B2.out BB2.out))
    clear I1 J0 B2 BB2 B0 HOP
    go_wp2_with fail
    refine (fTexts_same _ _ _ v0 v1 ls I2.out I3.out).mono ?_
    rintro e x4 ⟨rfl, hb⟩
    have B4 := Lib.hid (below_trans B3.out hb); have I4 := Lib.hid (own_below I2.out hb); clear hb B3 I2 I3
    go_upto_if 142 with fail
    go_cut [] from 142 to 142 (fun wx => Hid (Below w.heap.size w wx))
    case first => as_aux_lemma =>
      cases z with
      | false =>
        go_wp2_with fail
        go_meet
        case rel => exact Lib.hid B4.out
      | true =>
        obtain ⟨ls2, hls2⟩ := Option.isSome_iff_exists.1 HZ.out.symm
        have e1 : ls = ls2 := by rw [HLS.out, hls2]; rfl
        subst e1
        have hw : wayGO saidO 20 xt.data.toList times = some ls := by rw [← HO.out, hls2]
        have hlast := last_atG _ _ _ hw
        have hLv : L = bs (ls.getLastD []) := by rw [HL.out]; unfold timesG; rw [hw]; rfl
        obtain ⟨T, rfl⟩ : ∃ T : Nat, times = (T : Int) := ⟨times.toNat, by omega⟩
        have hwl : wayG saidO T xt.data.toList = some ls := by
          unfold wayGO at hw
          split at hw
          · exact hw
          · cases hw
        have hsteps := wayG_steps T _ _ hwl
        have hlen : ls.length = T + 1 := wayG_len saidO _ _ _ hwl
        rcases strs_open I4.out with ⟨_, h0⟩ | ⟨g, cap, rfl, hgB, hgw, hn9, hcp, hce, _⟩
        · rw [h0] at hlen; simp at hlen
        have c0 : x4.cell? ⟨g, 0, none⟩ = some (.string xt) := by
          rw [hce 0 (by omega)]
          have h1 := hsteps.1
          rw [List.getElem?_eq_getElem (by omega)] at h1
          rw [Option.some.inj h1, bs_back]
        have cT : x4.cell? ⟨g, T, none⟩ = some (.string L) := by
          have hl : ls.getLastD [] = ls.getD T [] := by rw [List.getLastD_eq_getLast?, List.getLast?_eq_getElem?, show ls.length - 1 = T by omega, List.getD_eq_getElem?_getD]
          rw [hce T (by omega), hLv, hl, List.getD_eq_getElem?_getD, List.getElem?_eq_getElem (by omega)]; rfl
        have HCE := Lib.hid (show ∀ i, i ≤ T → x4.cell? ⟨g, i, none⟩ = some (.string (bs (ls.getD i []))) from fun i hi => by
          rw [hce i (by omega), List.getD_eq_getElem?_getD, List.getElem?_eq_getElem (by omega)]; rfl)
        have HST := Lib.hid (show ∀ i, i < T → saidO (ls.getD i []) = some (ls.getD (i + 1) []) from fun i hi => by
          obtain ⟨a, b, h1, h2, h3⟩ := hsteps.2 i hi
          rw [List.getD_eq_getElem?_getD, List.getD_eq_getElem?_getD, h1, h2]; exact h3)
        have hT9 : T ≤ 20 := by omega
        have ex : (xt.toList != xt.toList) = false := by simp
        clear hce hlast hLv hwl hsteps hw hls2 HZ HO HLS HL I4 ez hn9
        generalize ls.length = nn at *
        subst hlen
        have hTc : ((T : Int) + 1 != (T : Int) + 1) = false := by simp
        go_wp2_with fail
        go_loopw [22] (fun iv wr => ∃ i : Nat, 1 ≤ i ∧ i ≤ T + 1 ∧ iv = .int .i64 (i : Int) ∧ Hid (Below x4.heap.size x4 wr)) (fun iv _ => T + 1 - (intOf iv).toNat)
        case atStart => exact ⟨1, by omega, by omega, rfl, Lib.hid (Below.refl _ _)⟩
        case round => as_aux_lemma =>
          obtain ⟨i, hi1, hi2, rfl, HW⟩ := hrel
          by_cases hlt : i ≤ T
          · obtain ⟨j, hj⟩ : ∃ j, j = i - 1 := ⟨_, rfl⟩
            have hij : (i : Int) - 1 = (j : Int) := by omega
            have hjT : j < T + 1 := by omega
            have hsaid := HST.out j (by omega)
            rw [show j + 1 = i by omega] at hsaid
            obtain ⟨A, hA⟩ : ∃ A, A = bs (ls.getD j []) := ⟨_, rfl⟩
            obtain ⟨Bt, hBt⟩ : ∃ Bt, Bt = bs (ls.getD i []) := ⟨_, rfl⟩
            have c1 : wr.cell? ⟨g, j, none⟩ = some (.string A) := by rw [hA]; exact (HW.out.cell (p := ⟨g, j, none⟩) hgw).trans (HCE.out j (by omega))
            have hAl : A.data.toList = ls.getD j [] := by rw [hA, bs_list]
            have hAs : A.size ≤ maxLen := by
              have hgd : goodL (ls.getD j []) = true := by
                unfold saidO speakL at hsaid
                split at hsaid
                · rename_i hc; have := hc.1; rw [Bool.and_eq_true] at this; exact this.1
                · cases hsaid
              have := good_size hgd
              rw [hA]; unfold maxLen; omega
            have k0 := fun W => implSayWord_any A W hAs
            rw [hAl, hsaid] at k0
            unfold strOk at k0
            simp only [← hBt] at k0
            have K0 := Lib.hid k0
            have eB : (Bt.toList != Bt.toList) = false := by simp
            have p1 : (j : Int) < (T : Int) + 1 := by omega
            have p2 : (i : Int) < (T : Int) + 1 := by omega
            have p3 : (i : Int) ≤ (T : Int) := by omega
            have c2w := HCE.out i (by omega)
            rw [← hBt] at c2w
            have C2 := Lib.hid c2w
            clear k0 hA hBt hAl hAs hsaid hj c2w
            go_wp2_with fail
            refine (K0.out _).mono ?_
            rintro e w5 ⟨rfl, hb⟩
            have hb5 := HW.out.trans (hb.mono HW.out.size)
            have c2 : w5.cell? ⟨g, i, none⟩ = some (.string Bt) := (hb5.cell (p := ⟨g, i, none⟩) hgw).trans C2.out
            have HB5 := Lib.hid hb5
            clear hb hb5
            go_wp2_with fail
            go_roundw
            case rel => exact ⟨i + 1, by omega, by omega, by go_num, Lib.hid HB5.out⟩
            case measure => simp [intOf] <;> omega
          · have p3 : ¬ ((i : Int) ≤ (T : Int)) := by omega
            go_wp2_with fail
            go_meet
            case rel => exact Lib.hid (below_trans B4.out HW.out)
    case rest => as_aux_lemma =>
      clear HZ HO HLS HL I4 B4 ez eL
      have B00 := Lib.hid hcut.out
      clear hcut
      have HD1 := Lib.hid (drawHearTimes_c wc more ms0 (argY_below HMS0.out B00.out))
      go_wp2_with fail
      refine HD1.out.mono ?_
      rintro e wm ⟨yt, rfl, hyt, hbm⟩
      have HYT := Lib.hid (show yt.size ≤ maxLen by unfold maxLen; omega)
      have B0 := Lib.hid (below_trans B00.out hbm)
      clear hbm HD1 B00
      have hg := fun W => implIsWord_any yt W HYT.out
      obtain ⟨z, hz⟩ : ∃ z, z = goodL yt.data.toList := ⟨_, rfl⟩
      obtain ⟨D, hD⟩ : ∃ D, D = bs (if goodL yt.data.toList = true then (htGo 20 yt.data.toList).1 else []) := ⟨_, rfl⟩
      obtain ⟨N, hN⟩ : ∃ N : Nat, N = (if goodL yt.data.toList = true then (htGo 20 yt.data.toList).2 else 0) := ⟨_, rfl⟩
      have h0 := fun W => implHearTimes_any yt W HYT.out
      have h1 := fun W => specHearTimes_any yt W HYT.out
      simp only [htV_eq, ← hD, ← hN] at h0 h1
      rw [← hz] at h0 h1 hg
      have H0 := Lib.hid h0; have H1 := Lib.hid h1; have HG := Lib.hid hg
      have HZ := Lib.hid hz; have HD := Lib.hid hD; have HN := Lib.hid hN
      have ez : (z != z) = false := by simp
      have eD : (D.toList != D.toList) = false := by simp
      have eN : ((N : Int) != (N : Int)) = false := by simp
      have ey : (yt.toList != yt.toList) = false := by simp
      clear h0 h1 hg hz hD hN
      go_wp2_with fail
      refine (H0.out _).mono ?_
      rintro e x0 ⟨rfl, hb⟩
      have B1 := Lib.hid (below_trans B0.out hb); clear hb H0 B0
      go_wp2_with fail
      refine (H1.out _).mono ?_
      rintro e x1 ⟨rfl, hb⟩
      have B2 := Lib.hid (below_trans B1.out hb); clear hb H1 B1
      go_wp2_with fail
      refine (HG.out _).mono ?_
      rintro e x2 ⟨rfl, rfl⟩
      go_upto_if 220 with fail
      go_cut [] from 220 to 220 (fun wx => Hid (Below w.heap.size w wx))
      case first => as_aux_lemma =>
        cases z with
        | false =>
          go_wp2_with fail
          go_meet
          case rel => exact Lib.hid B2.out
        | true =>
          have hgood : goodL yt.data.toList = true := HZ.out.symm
          have hD2 : D = bs (htGo 20 yt.data.toList).1 := by rw [HD.out, if_pos hgood]
          have hN2 : N = (htGo 20 yt.data.toList).2 := by rw [HN.out, if_pos hgood]
          have hgd := htGo_good 20 _ hgood
          have hDl : D.data.toList = (htGo 20 yt.data.toList).1 := by rw [hD2, bs_list]
          have hDs : D.size ≤ maxLen := by have := good_size hgd; rw [hD2]; unfold maxLen; omega
          have k0 := fun W => implTimesG_any D (N : Int) W hDs
          have k1 := fun W => implHearWord_any D W hDs
          rw [hDl, hN2, back_times hgood] at k0
          rw [hDl] at k1
          rw [← hN2] at k0
          obtain ⟨b, hb⟩ : ∃ b, b = (hearO (htGo 20 yt.data.toList).1).isSome := ⟨_, rfl⟩
          obtain ⟨E, hE⟩ : ∃ E, E = bs ((hearO (htGo 20 yt.data.toList).1).getD []) := ⟨_, rfl⟩
          simp only [strOk_eqW, ← hb, ← hE] at k1
          unfold strOk at k0
          dsimp only at k0
          rw [bs_back] at k0
          have hN20 : N ≤ 20 := by rw [hN2]; exact htGo_le 20 _
          have hend : N < 20 → b = false := by
            intro h
            rw [hb, htGo_end 20 _ (by rw [← hN2]; exact h)]; rfl
          have K0 := Lib.hid k0; have K1 := Lib.hid k1
          clear k0 k1 hD2 hN2 hDl hDs hgd hgood hb hE HZ HD HN ez eD eN
          by_cases hlt : N < 20
          · have hb0 := hend hlt
            subst hb0
            have p1 : (N : Int) < 20 := by omega
            clear hend
            go_wp2_with fail
            refine (K0.out _).mono ?_
            rintro e w3 ⟨rfl, hb⟩
            have B3 := Lib.hid (below_trans B2.out hb); clear hb B2
            go_wp2_with fail
            refine (K1.out _).mono ?_
            rintro e w4 ⟨rfl, hb⟩
            have B4 := Lib.hid (below_trans B3.out hb); clear hb B3
            go_wp2_with fail
            go_meet
            case rel => exact Lib.hid B4.out
          · have p1 : ¬ (N : Int) < 20 := by omega
            clear hend
            go_wp2_with fail
            refine (K0.out _).mono ?_
            rintro e w3 ⟨rfl, hb⟩
            have B3 := Lib.hid (below_trans B2.out hb); clear hb B2
            go_wp2_with fail
            refine (K1.out _).mono ?_
            rintro e w4 ⟨rfl, hb⟩
            have B4 := Lib.hid (below_trans B3.out hb); clear hb B3
            go_wp2_with fail
            go_meet
            case rel => exact Lib.hid B4.out
      case rest => as_aux_lemma =>
        clear HZ HD HN B2 ez eD eN ey
        have B00 := Lib.hid hcut.out
        clear hcut
        have HD1 := Lib.hid (drawCountWords_c wc more ms0 (argY_below HMS0.out B00.out))
        go_wp2_with fail
        refine HD1.out.mono ?_
        rintro e wm ⟨length, digits, longest, rfl, hw1, hw2, hw3, hbm⟩
        have B0 := Lib.hid (below_trans B00.out hbm)
        clear hbm HD1 B00 hw1 hw2 hw3
        obtain ⟨y, hy⟩ : ∃ y, y = cwB length digits longest := ⟨_, rfl⟩
        obtain ⟨V, hV⟩ : ∃ V, V = cwV length digits longest := ⟨_, rfl⟩
        have h0 := (cw_values length digits longest).2
        have h1 := (cw_values length digits longest).1
        simp only [← hy, ← hV] at h0 h1
        have H0 := Lib.hid h0; have H1 := Lib.hid h1
        have HY := Lib.hid hy; have HV := Lib.hid hV
        have ey : (y != y) = false := by simp
        have eV : ((V : Int) != (V : Int)) = false := by simp
        clear h0 h1 hy hV
        go_wp2_with fail
        refine (H0.out _).mono ?_
        rintro e x0 ⟨rfl, hb⟩
        have B1 := Lib.hid (below_trans B0.out hb); clear hb H0 B0
        go_wp2_with fail
        refine (H1.out _).mono ?_
        rintro e x1 ⟨rfl, hb⟩
        have B2' := Lib.hid (below_trans B1.out hb); clear hb H1 B1
        have HD1 := Lib.hid (drawCountHeard_c x1 more ms0 (argY_below HMS0.out B2'.out))
        go_wp2_with fail
        refine HD1.out.mono ?_
        rintro e wl ⟨l, d, rfl, hw1, hw2, hbm⟩
        have B2 := Lib.hid (below_trans B2'.out hbm)
        clear hbm HD1 B2' hw1 hw2
        obtain ⟨t, ht⟩ : ∃ t, t = (inB l 1 18 && inB d 1 9) := ⟨_, rfl⟩
        obtain ⟨X, hX⟩ : ∃ X, X = (if t = true then heardV l d else 0) := ⟨_, rfl⟩
        have h2 := fun W => implCountHeard_any l d W
        have h3 := fun W => specCountHeard_any l d W
        unfold intOk3 at h2 h3
        simp only [← ht, ← hX] at h2 h3
        have H2 := Lib.hid h2; have H3 := Lib.hid h3; have HT := Lib.hid ht; have HX := Lib.hid hX
        have et : (t != t) = false := by simp
        have eX : (X != X) = false := by simp
        clear h2 h3 ht hX
        go_wp2_with fail
        refine (H2.out _).mono ?_
        rintro e x2 ⟨rfl, rfl⟩
        go_wp2_with fail
        refine (H3.out _).mono ?_
        rintro e x3 ⟨rfl, rfl⟩
        go_upto_if 301 with fail
        go_cut [] from 301 to 301 (fun wx => Hid (Below w.heap.size w wx))
        case first => as_aux_lemma =>
          cases y with
          | false =>
            go_wp2_with fail
            go_meet
            case rel => exact Lib.hid B2.out
          | true =>
            have hc := HY.out.symm
            have h3 := cwB_iff.1 hc
            obtain ⟨N, rfl⟩ : ∃ N : Nat, length = (N : Int) := ⟨length.toNat, by omega⟩
            obtain ⟨D, rfl⟩ : ∃ D : Nat, digits = (D : Int) := ⟨digits.toNat, by omega⟩
            obtain ⟨L, rfl⟩ : ∃ L : Nat, longest = (L : Int) := ⟨longest.toNat, by omega⟩
            obtain ⟨f1, f2, f3⟩ := cw_nat N D L hc
            rw [← HV.out] at f1 f2 f3
            have HP := Lib.hid (show ∀ j, j ≤ N → D ^ j ≤ 150094635296999121 from fun j hj => pow_in D j (by omega) (by omega))
            have hFP := fun W => fPower_any W (D - 1) (N - 1) (by omega) (by omega)
            rw [show ((D - 1 : Nat) : Int) = (D : Int) - 1 by omega, show ((N - 1 : Nat) : Int) = (N : Int) - 1 by omega] at hFP
            obtain ⟨P, hPd⟩ : ∃ P, P = D ^ N := ⟨_, rfl⟩
            obtain ⟨Q, hQd⟩ : ∃ Q, Q = (D - 1) ^ (N - 1) := ⟨_, rfl⟩
            rw [← hPd] at f1 f2
            rw [← hQd] at f3 hFP
            have hQ9 : Q ≤ 150094635296999121 := by rw [hQd]; exact pow_in (D - 1) (N - 1) (by omega) (by omega)
            have hP9 : P ≤ 150094635296999121 := by rw [hPd]; exact HP.out N (Nat.le_refl _)
            have HPD := Lib.hid hPd; have HFP := Lib.hid hFP
            have hD9 : D ≤ 9 := by omega
            have hN9 : N ≤ 18 := by omega
            have hN1 : 1 ≤ N := by omega
            have hL9 : L ≤ 18 := by omega
            have F2 := Lib.hid f2; have F3 := Lib.hid f3
            clear hFP hPd hQd hc h3 HY HV HT HX ey eV f2 f3
            go_wp2_with fail
            go_loopw [49, 50] (fun av kv wr => ∃ k A : Nat, k ≤ N ∧ kv = .int .i64 (k : Int) ∧ av = .int .i64 (A : Int) ∧ Hid (A = D ^ k ∧ Below w.heap.size w wr)) (fun _ kv => fun _ => N - (intOf kv).toNat)
            case atStart => exact ⟨0, 1, Nat.zero_le _, rfl, rfl, Lib.hid ⟨rfl, B2.out⟩⟩
            case round => as_aux_lemma =>
              obtain ⟨k, A, hk, rfl, rfl, HW⟩ := hrel
              by_cases hlt : k < N
              · have hp1 := HP.out k (by omega)
                have hp2 := HP.out (k + 1) (by omega)
                have hst : A * D = D ^ (k + 1) := by rw [HW.out.1, Nat.pow_succ]
                rw [← HW.out.1] at hp1
                rw [← hst] at hp2
                obtain ⟨A2, hA2⟩ : ∃ A2, A2 = A * D := ⟨_, rfl⟩
                have hAi : (A : Int) * (D : Int) = (A2 : Int) := by rw [hA2]; push_cast; rfl
                rw [← hA2] at hp2 hst
                have HST := Lib.hid hst
                have p1 : (k : Int) < (N : Int) := by omega
                clear hst hA2
                go_wp2_with fail
                go_roundw
                case rel => exact ⟨k + 1, A2, by omega, by go_num, rfl, Lib.hid ⟨HST.out, HW.out.2⟩⟩
                case measure => simp [intOf] <;> omega
              · obtain rfl : k = N := by omega
                have hAP : A = P := by rw [HW.out.1, HPD.out]
                subst hAP
                have hle : ¬ ((A : Int) < (V : Int)) := by omega
                by_cases hNL : k ≤ L
                · have hVA : V = A := F2.out hNL
                  have e1 : ((V : Int) != (A : Int)) = false := by rw [hVA]; simp
                  have p2 : (k : Int) ≤ (L : Int) := by omega
                  clear hVA
                  by_cases hL1 : L = 1
                  · subst hL1
                    have hk1 : ¬ ((1 : Int) < (k : Int)) := by omega
                    go_wp2_with fail
                    go_meet
                    case rel => exact Lib.hid HW.out.2
                  · have e2 : ((L : Int) == 1) = false := by rw [beq_eq_false_iff_ne]; omega
                    go_wp2_with fail
                    go_meet
                    case rel => exact Lib.hid HW.out.2
                · have p2 : ¬ ((k : Int) ≤ (L : Int)) := by omega
                  by_cases hL1 : L = 1
                  · have hVQ := F3.out hL1
                    subst hL1
                    have hk1 : (1 : Int) < (k : Int) := by omega
                    have hm : (D : Int) * (Q : Int) = (V : Int) := by rw [hVQ]; push_cast; rfl
                    have e1 : ((V : Int) != (V : Int)) = false := by simp
                    clear hVQ
                    go_wp2_with fail
                    refine (HFP.out _).mono ?_
                    rintro e w5 ⟨rfl, rfl⟩
                    go_wp2_with fail
                    go_meet
                    case rel => exact Lib.hid HW.out.2
                  · have e2 : ((L : Int) == 1) = false := by rw [beq_eq_false_iff_ne]; omega
                    go_wp2_with fail
                    go_meet
                    case rel => exact Lib.hid HW.out.2
        case rest => as_aux_lemma =>
          clear HY HV B2 ey eV et eX
          have B3 := Lib.hid hcut.out
          clear hcut
          cases t with
          | false =>
            go_wp2_with fail
            go_ret
            exact ⟨rfl, B3.out⟩
          | true =>
            have hb := HT.out.symm
            have hb2 : (1 ≤ l ∧ l ≤ 18) ∧ (1 ≤ d ∧ d ≤ 9) := by
              unfold inB at hb
              simpa using hb
            obtain ⟨K, rfl⟩ : ∃ K : Nat, l = (K : Int) := ⟨l.toNat, by omega⟩
            obtain ⟨D, rfl⟩ : ∃ D : Nat, d = (D : Int) := ⟨d.toNat, by omega⟩
            have hcw : cwB (K : Int) (D : Int) 18 = true := cwB_iff.2 ⟨hb2.1, hb2.2, by omega⟩
            have hk := (cw_values (K : Int) (D : Int) 18).2
            have hwh := (cw_nat K D 18 hcw).2.1 (by omega)
            have hle := heard_le K D (by omega) (by omega)
            have hXv : X = heardV (K : Int) (D : Int) := by rw [HX.out, if_pos rfl]
            rw [hcw] at hk
            obtain ⟨V, hV⟩ : ∃ V, V = cwV (K : Int) (D : Int) 18 := ⟨_, rfl⟩
            have hV2 : cwV (K : Int) (D : Int) ((18 : Nat) : Int) = V := hV.symm
            rw [hV2] at hwh
            rw [← hV] at hk
            rw [← hwh, ← hXv] at hle
            have K0 := Lib.hid hk
            have hXV : X ≤ (V : Int) := hle
            have hodd : K % 2 = 1 → X = 0 := by
              intro h
              rw [hXv]; unfold heardV; rw [if_pos (by omega)]
            clear hk hwh hle hXv hV hV2 hcw hb hb2 HT HX
            by_cases hev : K % 2 = 1
            · have hX0 := hodd hev
              subst hX0
              have hm : (K : Int).tmod 2 = 1 := by rw [Int.tmod_eq_emod_of_nonneg (by omega)]; omega
              clear hodd hev
              go_wp2_with fail
              refine (K0.out _).mono ?_
              rintro e w5 ⟨rfl, hb⟩
              have B4 := Lib.hid (below_trans B3.out hb); clear hb B3
              go_wp2_with fail
              go_ret
              exact ⟨rfl, B4.out⟩
            · have hm : (K : Int).tmod 2 = 0 := by rw [Int.tmod_eq_emod_of_nonneg (by omega)]; omega
              clear hodd hev
              go_wp2_with fail
              refine (K0.out _).mono ?_
              rintro e w5 ⟨rfl, hb⟩
              have B4 := Lib.hid (below_trans B3.out hb); clear hb B3
              go_wp2_with fail
              go_ret
              exact ⟨rfl, B4.out⟩
end Go.Proofs.Ytdlhahigiooddaa
