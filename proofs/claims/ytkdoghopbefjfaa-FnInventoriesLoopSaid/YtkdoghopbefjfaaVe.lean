/- Law FnInventoriesLoop. (By tools/genvd.py.) -/
import Derived.Test.YtkdoghopbefjfaaMc
import Derived.Test.YtkdoghopbefjfaaVf
import Derived.Test.YtkdoghopbefjfaaVg
import Derived.Deep.DeepCutAuto
import Derived.Deep.QuietTactic
import Derived.BigQuiet
import Derived.Laws.Cover1
namespace Go.Proofs.Ytkdoghopbefjfaa
open Go.RowKit Go.BigFrame Go.Deep
set_option linter.unusedSimpArgs false
set_option linter.unusedVariables false
set_option maxRecDepth 4000

set_option maxRecDepth 100000 in
set_option maxHeartbeats 16000000 in
theorem law_FnInventoriesLoop (code : Value) (cs : List Int) (more : Value) (ms0 : List Int) (w : World) (hcs : ArgY w code cs) (hms : ArgY w more ms0) :
    Calls Try.prog 3 #[code, more] w fun e w' => e = .returned (.bool true) ∧ Below w.heap.size w w' := by
  have HMS0 := Lib.hid hms; have HCS0 := Lib.hid hcs
  have HBIG := Lib.hid (big_any w code more cs ms0 hcs hms)
  clear hcs hms
  go_enter Try.func3, Try.ntmps3
  go_wp2_with fail
  refine HBIG.out.mono ?_
  rintro e wx ⟨b, rfl, rfl⟩
  clear HBIG
  cases b
  case true => (go_wp2_with fail; go_ret; exact ⟨rfl, Below.refl _ _⟩)
  obtain ⟨x0, hx0⟩ : ∃ x, x = w := ⟨_, rfl⟩
  subst hx0
  have C0 := Lib.hid (Below.refl x0.heap.size x0)
  have HDR := Lib.hid (drawLoopOfInventory_c x0 code cs HCS0.out)
  go_wp2_with fail
  refine HDR.out.mono ?_
  rintro e x1 ⟨wb, rfl, hz, hb⟩
  have hzwb : wb.size ≤ maxLen := by unfold maxLen; omega
  have HZwb := Lib.hid hz; clear hz
  have C1 := Lib.hid (below_trans C0.out hb)
  clear hb C0 HDR
  have hs20 : wb.size ≤ 1048576 := by have := HZwb.out; omega
  clear HCS0
  obtain ⟨K, hK⟩ : ∃ K, 1000000010 ≤ K := ⟨1000000010, Nat.le_refl _⟩
  obtain ⟨O, hO⟩ : ∃ O, O = loopO K wb.data.toList := ⟨_, rfl⟩
  obtain ⟨ob, hob⟩ : ∃ b, b = O.isSome := ⟨_, rfl⟩
  obtain ⟨p0, hp0⟩ : ∃ b, b = tailV O := ⟨_, rfl⟩
  obtain ⟨c0, hc0⟩ : ∃ b, b = cycV O := ⟨_, rfl⟩
  obtain ⟨LW, hLW⟩ : ∃ b, b = wordsO O := ⟨_, rfl⟩
  obtain ⟨iv, hiv⟩ : ∃ b, b = (invO wb.data.toList).getD [] := ⟨_, rfl⟩
  obtain ⟨ib, hib⟩ : ∃ b, b = (invO wb.data.toList).isSome := ⟨_, rfl⟩
  obtain ⟨cb, hcb⟩ : ∃ b, b = goodL wb.data.toList := ⟨_, rfl⟩
  obtain ⟨CL, hCL⟩ : ∃ b, b = (if goodL wb.data.toList = true then some (ti (tal wb.data.toList)) else none).getD [] := ⟨_, rfl⟩
  have kA := fun (W : World) => implLoopOfInventory_any wb W hzwb K hK
  have kB := fun (W : World) => specLoopOfInventory_any wb W hzwb K hK
  rw [← hO, ← hob, ← hp0, ← hc0] at kA kB
  have kC := fun (W : World) => implLoopWords_any wb W hzwb K hK
  have kD := fun (W : World) => specLoopWords_any wb W hzwb K hK
  unfold WordsOk at kC kD
  rw [← hO, ← hob, ← hLW] at kC kD
  have kE := fun (W : World) => implInventoryOf_any wb W hzwb
  have kF := fun (W : World) => specInventoryOf_any wb W hzwb
  rw [strOk_eq, ← hiv, ← hib] at kE kF
  have kG := fun (W : World) => implCountsOf_any wb W hzwb
  have kH := fun (W : World) => specCountsOf_any wb W hzwb
  unfold IntsAOk at kG kH
  rw [goodL_isSome, ← hCL, ← hcb] at kG kH
  have kI := fun (W : World) => implIsWord_any wb W hzwb
  rw [← hcb] at kI
  have hoi : ob = true → ib = true := fun h => by
    rw [hib]
    rw [hob, hO] at h
    exact (loopO_inv h hK).2
  have KA := Lib.hid kA
  have KB := Lib.hid kB
  have KC := Lib.hid kC
  have KD := Lib.hid kD
  have KE := Lib.hid kE
  have KF := Lib.hid kF
  have KG := Lib.hid kG
  have KH := Lib.hid kH
  have KI := Lib.hid kI
  have HK := Lib.hid hK; have HO := Lib.hid hO; have HOB := Lib.hid hob; have HP0 := Lib.hid hp0; have HC0 := Lib.hid hc0; have HLW := Lib.hid hLW; have HIV := Lib.hid hiv; have HIB := Lib.hid hib; have HCB := Lib.hid hcb; have HCL := Lib.hid hCL; have HOI := Lib.hid hoi
  clear kA kB kC kD kE kF kG kH kI hK hO hob hp0 hc0 hLW hiv hib hcb hCL hoi
  go_wp2_with fail
  refine (KA.out _).mono ?_
  rintro e x2 ⟨rfl, hb⟩
  have C2 := Lib.hid (below_trans C1.out hb)
  clear hb C1 KA
  go_wp2_with fail
  refine (KB.out _).mono ?_
  rintro e x3 ⟨rfl, hb⟩
  have C3 := Lib.hid (below_trans C2.out hb)
  clear hb C2 KB
  go_wp2_with fail
  refine (KC.out _).mono ?_
  rintro e x4 ⟨v1, rfl, ha, hb⟩
  have W1 := Lib.hid ha
  have C4 := Lib.hid (below_trans C3.out hb)
  clear hb C3 ha KC
  go_wp2_with fail
  refine (KD.out _).mono ?_
  rintro e x5 ⟨v2, rfl, ha, hb⟩
  replace W1 := Lib.hid (strsO_below W1.out hb)
  have W2 := Lib.hid ha
  have C5 := Lib.hid (below_trans C4.out hb)
  clear hb C4 ha KD
  go_wp2_with fail
  refine (KE.out _).mono ?_
  rintro e x6 ⟨rfl, hb⟩
  replace W1 := Lib.hid (strsO_below W1.out hb)
  replace W2 := Lib.hid (strsO_below W2.out hb)
  have C6 := Lib.hid (below_trans C5.out hb)
  clear hb C5 KE
  go_wp2_with fail
  refine (KF.out _).mono ?_
  rintro e x7 ⟨rfl, hb⟩
  replace W1 := Lib.hid (strsO_below W1.out hb)
  replace W2 := Lib.hid (strsO_below W2.out hb)
  have C7 := Lib.hid (below_trans C6.out hb)
  clear hb C6 KF
  go_wp2_with fail
  refine (KG.out _).mono ?_
  rintro e x8 ⟨v3, rfl, ha, hb, _⟩
  replace W1 := Lib.hid (strsO_below W1.out hb)
  replace W2 := Lib.hid (strsO_below W2.out hb)
  have T1 := Lib.hid ha
  have C8 := Lib.hid (below_trans C7.out hb)
  clear hb C7 ha KG
  go_wp2_with fail
  refine (KH.out _).mono ?_
  rintro e x9 ⟨v4, rfl, ha, hb, _⟩
  replace W1 := Lib.hid (strsO_below W1.out hb)
  replace W2 := Lib.hid (strsO_below W2.out hb)
  replace T1 := Lib.hid (intsA_below T1.out hb)
  have T2 := Lib.hid ha
  have C9 := Lib.hid (below_trans C8.out hb)
  clear hb C8 ha KH
  have e1 : (ob != ob) = false := by simp
  have e2 : (p0 != p0) = false := by simp
  have e3 : (c0 != c0) = false := by simp
  have e4 : (ib != ib) = false := by simp
  have e5 : ((bs iv).toList != (bs iv).toList) = false := by simp
  have e6 : (cb != cb) = false := by simp
  go_upto_region 12 with fail
  go_cut [186] from 124 to 186 (fun u wx => u = .bool false ∧ Hid (Below x9.heap.size x9 wx))
  case first => as_aux_lemma =>
    go_wp2_with fail
    refine (fTexts_same _ _ _ _ _ _ W1.out W2.out).mono ?_
    rintro e z1 ⟨rfl, hb⟩
    have D1 := Lib.hid hb
    replace T1 := Lib.hid (intsA_below T1.out hb); replace T2 := Lib.hid (intsA_below T2.out hb)
    clear hb
    go_wp2_with fail
    refine (fSame_selfV _ _ _ _ _ _ T1.out T2.out).mono ?_
    rintro e z2 ⟨rfl, hb⟩
    have D2 := Lib.hid (below_trans D1.out hb)
    clear hb D1
    go_wp2_with fail
    refine (KI.out _).mono ?_
    rintro e z3 ⟨rfl, rfl⟩
    cases ob with
    | false =>
      clear HOI
      go_wp2_with fail
      go_meet
      case rel => exact ⟨rfl, D2⟩
    | true =>
      obtain rfl : ib = true := HOI.out rfl
      clear HOI
      go_wp2_with fail
      go_meet
      case rel => exact ⟨rfl, D2⟩
  case rest => as_aux_lemma =>
    obtain ⟨rfl, E0⟩ := hcut
    clear W2 T2 KI e1 e2 e3 e4 e5 e6
    obtain ⟨x10, hxx⟩ : ∃ x, x = wc := ⟨_, rfl⟩
    subst hxx
    replace W1 := Lib.hid (strsO_below W1.out E0.out)
    replace T1 := Lib.hid (intsA_below T1.out E0.out)
    have C10 := Lib.hid (below_trans C9.out E0.out)
    clear E0 C9
    go_upto_if 187 with fail
    go_cut [] from 187 to 187 (fun wx => Hid (Below x10.heap.size x10 wx))
    case first => as_aux_lemma =>
      cases cb with
      | false =>
        go_wp2_with fail
        go_meet
        case rel => exact below_refl _
      | true =>
        have hg := HCB.out.symm
        have hCLe : CL = ti (tal wb.data.toList) := by rw [HCL.out, if_pos hg]; rfl
        obtain ⟨ts, hts⟩ : ∃ ts, ts = tal wb.data.toList := ⟨_, rfl⟩
        have h9 : ts.length = 9 := by rw [hts]; exact tal_len _
        have hsum : ts.sum = wb.size := by rw [hts, tal_good_sum hg, size_list]
        have hle : ∀ x ∈ ts, x ≤ 400 := fun x hx => by
          rw [hts] at hx
          have h1 := tal_le _ x hx
          have h2 := (good_digs hg).2.2
          omega
        have hmx : decide (mxT ts 9 ≤ 9) = ib := by
          have := mxT_all (ts := ts)
          rw [h9] at this
          rw [this, HIB.out, invO_some hg, hts]
        have T1' := T1.out
        rw [hCLe, ← hts] at T1'
        have hT := T1'
        obtain ⟨g, cp, rfl, hcp, hcp9, hgx, hcl⟩ := intsV_at T1' h9 (by omega)
        have kS := fun (W : World) (u : Value) (ha : ArgL W u (ti ts)) => fSum_any W u ts ha (by omega) (fun x hx => by have := hle x hx; omega)
        rw [hsum] at kS
        have KS := Lib.hid kS; have HTL := Lib.hid hT; have HCLl := Lib.hid hcl; have HLE := Lib.hid hle; have H9 := Lib.hid h9; have HMX := Lib.hid hmx
        have es : ((wb.size : Int) != (wb.size : Int)) = false := by simp
        clear hg hCLe hts hsum hle hmx kS hT T1' hcl h9 T1 HCB HCL HOI HO HOB HP0 HC0 HLW HIV HIB
        go_wp2_with fail
        go_loop [24, 190] (fun mv iv => ∃ i m : Nat, i ≤ 9 ∧ iv = .int .i64 i ∧ mv = .int .i64 (m : Int) ∧ m ≤ 400 ∧ Hid (m = mxT ts i)) (fun _ iv => 9 - (intOf iv).toNat)
        case atStart => exact ⟨0, 0, Nat.zero_le _, rfl, rfl, by omega, Lib.hid rfl⟩
        case round => as_aux_lemma =>
          obtain ⟨i, m, hi, rfl, rfl, hm4, HM⟩ := hrel
          by_cases hlt : i < 9
          · have hil : i < ts.length := by rw [H9.out]; exact hlt
            have hx4 := HLE.out _ (List.getElem_mem hil)
            obtain ⟨X, hX⟩ : ∃ X, X = ts[i] := ⟨_, rfl⟩
            rw [← hX] at hx4
            have d1 : x10.cell? ⟨g, i, none⟩ = some (.int .i64 ((X : Nat) : Int)) := HCLl.out i X (by rw [hX]; exact List.getElem?_eq_getElem hil)
            have hstep : mxT ts (i + 1) = if X > mxT ts i then X else mxT ts i := by show (if ts.getD i 0 > mxT ts i then ts.getD i 0 else mxT ts i) = _; rw [show ts.getD i 0 = X by rw [hX]; simp [List.getD, hil]]
            rw [← HM.out] at hstep
            by_cases hx : X > m
            · rw [if_pos hx] at hstep
              have m1 : (X : Int) > (m : Int) := by omega
              have HS := Lib.hid hstep
              clear hX hstep hx
              go_wp2_with fail
              go_round
              case rel => exact ⟨i + 1, X, by omega, by go_num, rfl, hx4, Lib.hid HS.out.symm⟩
              case measure => simp [intOf] <;> omega
            · rw [if_neg hx] at hstep
              have m1 : ¬ (X : Int) > (m : Int) := by omega
              have HS := Lib.hid hstep
              clear hX hstep hx
              go_wp2_with fail
              go_round
              case rel => exact ⟨i + 1, m, by omega, by go_num, rfl, hm4, Lib.hid HS.out.symm⟩
              case measure => simp [intOf] <;> omega
          · obtain rfl : i = 9 := by omega
            have hmx := HMX.out
            rw [← HM.out] at hmx
            go_wp2_with fail
            refine (KS.out _ _ (argL_of_intsA HTL.out)).mono ?_
            rintro e z1 ⟨rfl, rfl⟩
            by_cases hm9 : m ≤ 9
            · rw [decide_eq_true hm9] at hmx
              subst hmx
              have m1 : (m : Int) ≤ 9 := by omega
              go_wp2_with fail
              go_meet
              case rel => exact below_refl _
            · rw [decide_eq_false hm9] at hmx
              subst hmx
              have m1 : ¬ (m : Int) ≤ 9 := by omega
              go_wp2_with fail
              go_meet
              case rel => exact below_refl _
    case rest => as_aux_lemma =>
      obtain ⟨x11, hxx⟩ : ∃ x, x = wc := ⟨_, rfl⟩
      subst hxx
      replace W1 := Lib.hid (strsO_below W1.out hcut.out)
      replace T1 := Lib.hid (intsA_below T1.out hcut.out)
      have C11 := Lib.hid (below_trans C10.out hcut.out)
      clear hcut C10
      go_upto_if 215 with fail
      go_cut [] from 215 to 215 (fun wx => Hid (Below x11.heap.size x11 wx))
      case first => as_aux_lemma =>
        cases ib with
        | false =>
          go_wp2_with fail
          go_meet
          case rel => exact below_refl _
        | true =>
          obtain ⟨m, hm⟩ := Option.isSome_iff_exists.1 HIB.out.symm
          obtain rfl : iv = m := by rw [HIV.out, hm]; rfl
          obtain ⟨hg, hgm, _, hii, hev, h18, hpair⟩ := inv_facts hm
          have hCLe : CL = ti (tal wb.data.toList) := by rw [HCL.out, if_pos hg]; rfl
          obtain ⟨ts, hts⟩ : ∃ ts, ts = tal wb.data.toList := ⟨_, rfl⟩
          have h9 : ts.length = 9 := by rw [hts]; exact tal_len _
          rw [← hts] at hpair
          have T1' := T1.out
          rw [hCLe, ← hts] at T1'
          obtain ⟨g, cp, rfl, hcp, hcp9, hgx, hcl⟩ := intsV_at T1' h9 (by omega)
          obtain ⟨N, hN⟩ : ∃ N, N = iv.length := ⟨_, rfl⟩
          obtain ⟨A, hA⟩ : ∃ A, A = bs iv := ⟨_, rfl⟩
          have hAN : A.size = N := by rw [hA, bs_size, hN]
          have kI := fun (W : World) => implIsInventory_any A W (by rw [hAN, hN]; unfold maxLen; omega)
          rw [show A.data.toList = iv by rw [hA]; exact bs_list iv, hii, hgm] at kI
          have hdig := (good_digs hgm).1
          have hat : ∀ j, 2 * j + 1 < N → ∃ (h1 : 2 * j < A.size) (h2 : 2 * j + 1 < A.size) (c d : Nat), d < 9 ∧ c ≤ 9 ∧ A[2 * j].toNat = 48 + c ∧ A[2 * j + 1].toNat = 49 + d ∧ ts[d]? = some c := by
            intro j hj
            have hj1 : 2 * j + 1 < iv.length := by rw [← hN]; exact hj
            have g1 := List.all_eq_true.1 hdig _ (List.getElem_mem (show 2 * j < iv.length by omega))
            have g2 := List.all_eq_true.1 hdig _ (List.getElem_mem hj1)
            unfold digB at g1 g2
            rw [decide_eq_true_eq] at g1 g2
            have hp := hpair j hj1
            subst hA
            have hz1 : 2 * j < (bs iv).size := by omega
            have hz2 : 2 * j + 1 < (bs iv).size := by omega
            have hb1 : (bs iv)[2 * j].toNat = iv[2 * j].toNat := congrArg UInt8.toNat (bs_at iv (2 * j) hz1 (by omega))
            have hb2 : (bs iv)[2 * j + 1].toNat = iv[2 * j + 1].toNat := congrArg UInt8.toNat (bs_at iv (2 * j + 1) hz2 hj1)
            exact ⟨hz1, hz2, iv[2 * j].toNat - 48, iv[2 * j + 1].toNat - 49, by omega, by omega, by omega, by omega, hp⟩
          rw [← hA]
          have KI := Lib.hid kI; have HAT := Lib.hid hat; have HCLl := Lib.hid hcl; have HAN := Lib.hid hAN; have HA := Lib.hid hA
          have hev2 : N % 2 = 0 := by rw [hN]; exact hev
          have hN18 : N ≤ 18 := by rw [hN]; exact h18
          clear hm hg hgm hii hev h18 hpair hCLe hts h9 T1' hcl hN hA hAN kI hdig hat T1 HCL HOI HO HOB HP0 HC0 HLW HIV HIB HCB
          go_wp2_with fail
          refine (KI.out _).mono ?_
          rintro e z1 ⟨rfl, hb⟩
          have D1 := Lib.hid hb
          clear hb KI
          go_wp2_with fail
          go_loopw [29] (fun iw wr => ∃ j I : Nat, I = 2 * j ∧ I ≤ N ∧ iw = .int .i64 (I : Int) ∧ Hid (Below z1.heap.size z1 wr)) (fun iw _ => N - (intOf iw).toNat)
          case atStart => exact ⟨0, 0, rfl, Nat.zero_le _, rfl, below_refl _⟩
          case round => as_aux_lemma =>
            obtain ⟨j, I, hI, hIN, rfl, HW⟩ := hrel
            have hAN := HAN.out
            by_cases hlt : I < N
            · obtain ⟨t1, t2, c, d, hd9, hc9, a1, a2, hts⟩ := HAT.out j (by omega)
              obtain ⟨J, hJ⟩ : ∃ J, J = I + 1 := ⟨_, rfl⟩
              have hJI : (I : Int) + 1 = (J : Int) := by omega
              have hIA : I < A.size := by omega
              have hJA : J < A.size := by omega
              have b1 : A[I].toNat = 48 + c := by simp only [hI]; exact a1
              have b2 : A[J].toNat = 49 + d := by simp only [hJ, hI]; exact a2
              have hIA2 : (I : Int) < (A.size : Int) := by omega
              have f1 : ((A[I].toNat : Nat) : Int) - 48 = (c : Int) := by omega
              have f2 : ((A[J].toNat : Nat) : Int) - 49 = (d : Int) := by omega
              have f3 : ((c : Int) % 256) = (c : Int) := by omega
              have f4 : ((d : Int) % 256) = (d : Int) := by omega
              have b3 : 48 ≤ A[I].toNat := by omega
              have b4 : 49 ≤ A[J].toNat := by omega
              have d1 : wr.cell? ⟨g, d, none⟩ = some (.int .i64 ((c : Nat) : Int)) := ((below_trans D1.out HW.out).cell (p := ⟨g, d, none⟩) hgx).trans (HCLl.out d c hts)
              have ec : ((c : Int) != (c : Int)) = false := by simp
              have HI := Lib.hid hI
              clear a1 a2 t1 t2 b1 b2 hI hJ hts hAN
              go_wp2_with fail
              go_quiet (fail)
              go_wp2_with fail
              go_roundw
              case rel => exact ⟨j + 1, I + 2, by have := HI.out; omega, by have := HI.out; omega, by go_num, HW.out.trans (belowN _ _ _)⟩
              case measure => simp [intOf] <;> omega
            · obtain rfl : I = N := by omega
              have hIe : ¬ ((I : Int) < (A.size : Int)) := by omega
              clear hAN hI
              go_wp2_with fail
              have hA := HA.out
              clear HA
              subst hA
              go_meet
              case rel => exact Lib.hid (below_trans D1.out HW.out)
      case rest => as_aux_lemma =>
        clear T1 HCL HCB HIV HIB HOI
        obtain ⟨x12, hxx⟩ : ∃ x, x = wc := ⟨_, rfl⟩
        subst hxx
        replace W1 := Lib.hid (strsO_below W1.out hcut.out)
        have C12 := Lib.hid (below_trans C11.out hcut.out)
        clear hcut C11
        go_upto_if 247 with fail
        go_cut [] from 247 to 247 (fun wx => Hid (Below x12.heap.size x12 wx))
        case first => as_aux_lemma =>
          cases ob with
          | false =>
            go_wp2_with fail
            go_meet
            case rel => exact below_refl _
          | true =>
            obtain ⟨⟨W, pt⟩, hOe⟩ := Option.isSome_iff_exists.1 HOB.out.symm
            have hloop : loopO K wb.data.toList = some (W, pt) := by rw [← HO.out]; exact hOe
            obtain ⟨s, c, hc1, hpc, hW9, hg, hs0, hgood, hWs, hper, hstep, hlo⟩ := inv_loop HK.out hloop
            have hp0 : p0 = (pt : Int) := by rw [HP0.out, hOe]; rfl
            have hc0 : c0 = (c : Int) := by rw [HC0.out, hOe]; show ((W.length : Nat) : Int) - ((pt : Nat) : Int) = _; omega
            subst hp0
            subst hc0
            have hLe : LW = W.drop pt := by rw [HLW.out, hOe]; rfl
            have hLl : LW.length = c := by rw [hLe, List.length_drop]; omega
            have hLs : ∀ i, i < c → LW[i]? = some (s (pt + i)) := fun i hi => by
              rw [hLe, List.getElem?_drop, List.getElem?_eq_getElem (by omega), hWs _ (by omega)]
            obtain ⟨AW, CW, rfl, hc9, hcw⟩ := sO_at W1.out hLl
            have hcell : ∀ i, i < c → ∃ g o, AW = some ⟨g, o, none⟩ ∧ g < x12.heap.size ∧ x12.cell? ⟨g, o + i, none⟩ = some (.string (bs (s (pt + i)))) := fun i hi => hcw i _ (hLs i hi)
            obtain ⟨Sm, hSm⟩ : ∃ q, q = pt + c := ⟨_, rfl⟩
            have hpcI : (pt : Int) + (c : Int) = (Sm : Int) := by omega
            have hsz : ∀ j, (bs (s j)).size ≤ maxLen := fun j => by rw [bs_size]; have := (good_digs (hgood j)).2.2; unfold maxLen; omega
            have k1 : ∀ (j : Nat) (W : World), Calls Try.prog 13 #[.string (bs (s j))] W fun e w' => e = .returned (.tuple #[.string (bs (s (j + 1))), .bool true]) ∧ Below W.heap.size W w' := fun j W => by
              have := implInventoryOf_any (bs (s j)) W (hsz j)
              rw [bs_list, hstep j] at this
              exact this
            have k2 : ∀ (i : Nat), i < c → ∀ (W : World), Calls Try.prog 9 #[.string (bs (s (pt + i)))] W fun e w' => e = .returned (.tuple #[.int .i64 0, .int .i64 (c : Int), .bool true]) ∧ Below W.heap.size W w' := fun i hi W => by
              have := implLoopOfInventory_any (bs (s (pt + i))) W (hsz _) K HK.out
              rw [bs_list, hlo i hi] at this
              unfold tailV cycV at this
              simp only [Option.getD_some, List.length_map, List.length_range, Option.isSome_some] at this
              simpa using this
            have hperc : s (pt + c) = s pt := by have := hper 0; rwa [Nat.zero_add, Nat.add_zero] at this
            have hway : (0 : Int) ≤ (Sm : Int) → (Sm : Int) ≤ 40 → ∀ (W : World), Calls Try.prog 22 #[.string wb, .int .i64 (Sm : Int)] W fun e w' => ∃ v, e = .returned (.tuple #[v, .bool true]) ∧ StrsO w' W.heap.size v ((List.range (Sm + 1)).map s) ∧ Below W.heap.size W w' := fun g1 g2 W => by
              have := implInventory_good wb (Sm : Int) W hzwb hg g1 g2
              rw [← hs0, Int.toNat_natCast, wayG_at hstep Sm] at this
              exact this.mono fun e w' h => by
                obtain ⟨v, q1, q2, q3⟩ := strsOk_O h
                exact ⟨v, q1, q2, q3⟩
            have K1 := Lib.hid k1; have K2 := Lib.hid k2; have HWAY := Lib.hid hway; have HCE := Lib.hid hcell; have HPC := Lib.hid hperc; have HSm := Lib.hid hSm
            have ec : ((c : Int) != (c : Int)) = false := by simp
            have hc1' : ¬ (c : Int) < 1 := by omega
            have hpt' : ¬ (pt : Int) < 0 := by omega
            have hc9' : c ≤ 1000000001 := by omega
            have hpt9 : pt ≤ 1000000001 := by omega
            clear hOe hloop hpc hW9 hg hs0 hgood hWs hper hstep hlo hLe hLl hLs hcw hcell hsz k1 k2 hperc hway hSm W1 HO HOB HP0 HC0 HLW HK
            go_wp2_with fail
            go_loopw [262] (fun iw wr => ∃ i : Nat, i ≤ c ∧ iw = .int .i64 (i : Int) ∧ Hid (Below x12.heap.size x12 wr)) (fun iw _ => c - (intOf iw).toNat)
            case atStart => exact ⟨0, Nat.zero_le _, rfl, below_refl _⟩
            case round => as_aux_lemma =>
              obtain ⟨i, hi, rfl, HW⟩ := hrel
              by_cases hlt : i < c
              · obtain ⟨J, hJ⟩ : ∃ J, J = if i + 1 < c then i + 1 else 0 := ⟨_, rfl⟩
                have hJc : J < c := by rw [hJ]; split <;> omega
                obtain ⟨g, o, hA, hg, hce⟩ := HCE.out i hlt
                obtain ⟨g', o', hA', _, hce'⟩ := HCE.out J hJc
                rw [hA] at hA'
                obtain ⟨rfl, rfl⟩ : g = g' ∧ o = o' := by simpa using hA'
                have hnx : s (pt + J) = s (pt + i + 1) := by
                  rw [hJ]
                  split
                  · rw [Nat.add_assoc]
                  · rw [Nat.add_zero, ← HPC.out]; congr 1; omega
                rw [hnx] at hce'
                obtain ⟨X, hX⟩ : ∃ X, X = bs (s (pt + i)) := ⟨_, rfl⟩
                obtain ⟨Y, hY⟩ : ∃ Y, Y = bs (s (pt + i + 1)) := ⟨_, rfl⟩
                have k1 := fun (W : World) => K1.out (pt + i) W
                have k2 := fun (W : World) => K2.out i hlt W
                rw [← hX, ← hY] at k1
                rw [← hX] at k2
                rw [← hX] at hce
                rw [← hY] at hce'
                have d1 : wr.cell? ⟨g, o + i, none⟩ = some (.string X) := (HW.out.cell (p := ⟨g, o + i, none⟩) hg).trans hce
                have hmod : ((i : Int) + 1).tmod (c : Int) = (J : Int) := by
                  rw [Int.tmod_eq_emod_of_nonneg (by omega)]
                  rw [hJ]
                  split
                  · rw [Int.emod_eq_of_lt (by omega) (by omega)]; omega
                  · rw [show ((i : Int) + 1) = (c : Int) by omega, Int.emod_self]; rfl
                have hi1 : (i : Int) + 1 = ((i + 1 : Nat) : Int) := by omega
                have hcne : (c : Int) ≠ 0 := by omega
                have hcne2 : ¬ c = 0 := by omega
                have eY : (Y.toList != Y.toList) = false := by simp
                have L1 := Lib.hid k1; have L2 := Lib.hid k2; have HCJ := Lib.hid hce'; have HMOD := Lib.hid hmod
                subst hA
                clear k1 k2 hce hce' hJ hnx hX hY hA' hi1 hmod
                go_wp2_with fail
                refine (L1.out _).mono ?_
                rintro e z1 ⟨rfl, hb⟩
                have HW1 := Lib.hid (below_trans HW.out hb)
                clear hb L1 d1
                go_wp2_with fail
                refine (L2.out _).mono ?_
                rintro e z2 ⟨rfl, hb⟩
                have HW2 := Lib.hid (below_trans HW1.out hb)
                have d2 : z2.cell? ⟨g, o + J, none⟩ = some (.string Y) := (HW2.out.cell (p := ⟨g, o + J, none⟩) hg).trans HCJ.out
                clear hb L2 HW1 HW HCJ
                have hmod := HMOD.out
                go_wp2_with fail
                go_roundw
                case rel => exact ⟨i + 1, by omega, by go_num, HW2⟩
                case measure => simp [intOf] <;> omega
              · obtain rfl : i = c := by omega
                obtain ⟨y0, hy0⟩ : ∃ x, x = wr := ⟨_, rfl⟩
                subst hy0
                clear hlt hi K1 K2
                go_upto_if 308 with fail
                go_cut [] from 308 to 308 (fun wx => Hid (Below y0.heap.size y0 wx))
                case first => as_aux_lemma =>
                  by_cases h40 : (Sm : Int) ≤ 40
                  · obtain ⟨g, o, hA, hg, hce⟩ := HCE.out 0 (by omega)
                    obtain ⟨X, hX⟩ : ∃ X, X = bs (s pt) := ⟨_, rfl⟩
                    rw [Nat.add_zero, Nat.add_zero, ← hX] at hce
                    obtain ⟨R, hR⟩ : ∃ R, R = Sm + 1 := ⟨_, rfl⟩
                    have kW := fun (W : World) => HWAY.out (by omega) h40 W
                    have KW := Lib.hid kW
                    have HCEq := Lib.hid hce
                    subst hA
                    clear kW HWAY hce
                    go_wp2_with fail
                    refine (KW.out _).mono ?_
                    rintro e z1 ⟨v5, rfl, ha, hb⟩
                    obtain ⟨A5, C5, rfl, hR9, hc5⟩ := sO_at ha (N := R) (by rw [List.length_map, List.length_range, hR])
                    have hrow : ∀ j, j < R → ((List.range (Sm + 1)).map s)[j]? = some (s j) := fun j hj => by
                      rw [List.getElem?_map, List.getElem?_range (by omega)]; rfl
                    obtain ⟨g5, o5, hA5, hg5, q1⟩ := hc5 pt _ (hrow pt (by have := HSm.out; omega))
                    obtain ⟨g6, o6, hA6, _, q2⟩ := hc5 Sm _ (hrow Sm (by omega))
                    rw [hA5] at hA6
                    obtain ⟨rfl, rfl⟩ : g5 = g6 ∧ o5 = o6 := by simpa using hA6
                    rw [← hX] at q1
                    have hse : bs (s Sm) = X := by rw [hX, HSm.out, HPC.out]
                    rw [hse] at q2
                    have d0 : z1.cell? ⟨g, o, none⟩ = some (.string X) := ((below_trans HW.out hb).cell (p := ⟨g, o, none⟩) hg).trans HCEq.out
                    have eX : (X.toList != X.toList) = false := by simp
                    have hptR : pt < R := by have := HSm.out; omega
                    have hSR : Sm < R := by omega
                    have hi0 : 0 < i := by omega
                    have D1 := Lib.hid hb
                    subst hA5
                    clear hA6 hrow hc5 ha hb hse hX hR KW HCEq HPC HSm
                    go_wp2_with fail
                    go_quiet (fail)
                    go_wp2_with fail
                    go_meet
                    case rel => exact Lib.hid (D1.out.trans (belowN _ _ _))
                  · go_wp2_with fail
                    go_meet
                    case rel => exact below_refl _
                case rest => as_aux_lemma =>
                  go_wp2_with fail
                  go_meet
                  case rel => exact Lib.hid (below_trans HW.out hcut.out)
        case rest => as_aux_lemma =>
          clear W1 HO HOB HP0 HC0 HLW HK
          obtain ⟨x13, hxx⟩ : ∃ x, x = wc := ⟨_, rfl⟩
          subst hxx
          have C13 := Lib.hid (below_trans C12.out hcut.out)
          clear hcut C12
          have HDR := Lib.hid (drawIsOwnInventory_c x13 more ms0 (argY_below HMS0.out C13.out))
          go_wp2_with fail
          refine HDR.out.mono ?_
          rintro e x14 ⟨sb, rfl, hz, hb⟩
          have hzsb : sb.size ≤ maxLen := by unfold maxLen; omega
          have HZsb := Lib.hid hz; clear hz
          have C14 := Lib.hid (below_trans C13.out hb)
          clear hb C13 HDR
          obtain ⟨gs, hgs⟩ : ∃ b, b = goodL sb.data.toList := ⟨_, rfl⟩
          obtain ⟨oi, hoi⟩ : ∃ b, b = (goodL sb.data.toList && isOwnL sb.data.toList) := ⟨_, rfl⟩
          obtain ⟨ii, hii⟩ : ∃ b, b = isInvL sb.data.toList := ⟨_, rfl⟩
          have kA := fun (W : World) => implIsOwnInventory_any sb W hzsb
          have kB := fun (W : World) => specIsOwnInventory_any sb W hzsb
          have kC := fun (W : World) => implIsInventory_any sb W hzsb
          have kD := fun (W : World) => specIsInventory_any sb W hzsb
          rw [← hoi, ← hgs] at kA kB
          rw [← hii, ← hgs] at kC kD
          have hoo : oi = true → ii = true := fun h => by
            rw [hoi, Bool.and_eq_true] at h
            have hinv : invO sb.data.toList = some sb.data.toList := of_decide_eq_true h.2
            rw [hii]; exact (inv_facts hinv).2.2.2.1
          have KA := Lib.hid kA; have KB := Lib.hid kB; have KC := Lib.hid kC; have KD := Lib.hid kD; have HGS := Lib.hid hgs; have HOI := Lib.hid hoi; have HOO := Lib.hid hoo
          clear kA kB kC kD hgs hoi hii hoo
          go_wp2_with fail
          refine (KA.out _).mono ?_
          rintro e x15 ⟨rfl, hb⟩
          have C15 := Lib.hid (below_trans C14.out hb)
          clear hb C14 KA
          go_wp2_with fail
          refine (KB.out _).mono ?_
          rintro e x16 ⟨rfl, hb⟩
          have C16 := Lib.hid (below_trans C15.out hb)
          clear hb C15 KB
          go_wp2_with fail
          refine (KC.out _).mono ?_
          rintro e x17 ⟨rfl, hb⟩
          have C17 := Lib.hid (below_trans C16.out hb)
          clear hb C16 KC
          go_wp2_with fail
          refine (KD.out _).mono ?_
          rintro e x18 ⟨rfl, hb⟩
          have C18 := Lib.hid (below_trans C17.out hb)
          clear hb C17 KD
          have HDR := Lib.hid (drawAllOwn_c x18 more ms0 (argY_below HMS0.out C18.out))
          go_wp2_with fail
          refine HDR.out.mono ?_
          rintro e x19 ⟨n, rfl, hb⟩
          have C19 := Lib.hid (below_trans C18.out hb)
          clear hb C18 HDR
          obtain ⟨ao, hao⟩ : ∃ b, b = (ownO n).isSome := ⟨_, rfl⟩
          obtain ⟨AL, hAL⟩ : ∃ b, b = (ownO n).getD [] := ⟨_, rfl⟩
          have kA := fun (W : World) => (implAllOwn_any W n).mono fun _ _ h => strsOk_O h
          have kB := fun (W : World) => (specAllOwn_any W n).mono fun _ _ h => strsOk_O h
          rw [← hao, ← hAL] at kA kB
          have KA := Lib.hid kA; have KB := Lib.hid kB; have HAO := Lib.hid hao; have HAL := Lib.hid hAL
          clear kA kB hao hAL
          go_wp2_with fail
          refine (KA.out _).mono ?_
          rintro e x20 ⟨v6, rfl, ha, hb⟩
          have A1 := Lib.hid ha
          have C20 := Lib.hid (below_trans C19.out hb)
          clear hb C19 ha KA
          go_wp2_with fail
          refine (KB.out _).mono ?_
          rintro e x21 ⟨v7, rfl, ha, hb⟩
          replace A1 := Lib.hid (strsO_below A1.out hb)
          have A2 := Lib.hid ha
          have C21 := Lib.hid (below_trans C20.out hb)
          clear hb C20 ha KB
          have HDR := Lib.hid (drawHearInventory_c x21 more ms0 (argY_below HMS0.out C21.out))
          go_wp2_with fail
          refine HDR.out.mono ?_
          rintro e x22 ⟨hhb, rfl, hz, hb⟩
          replace A1 := Lib.hid (strsO_below A1.out hb)
          replace A2 := Lib.hid (strsO_below A2.out hb)
          have hzhhb : hhb.size ≤ maxLen := by unfold maxLen; omega
          have HZhhb := Lib.hid hz; clear hz
          have C22 := Lib.hid (below_trans C21.out hb)
          clear hb C21 HDR
          obtain ⟨ho, hho⟩ : ∃ b, b = (hearLO hhb.data.toList).isSome := ⟨_, rfl⟩
          obtain ⟨HL, hHL⟩ : ∃ b, b = (hearLO hhb.data.toList).getD [] := ⟨_, rfl⟩
          have kA := fun (W : World) => implHearInventory_any hhb W hzhhb
          have kB := fun (W : World) => specHearInventory_any hhb W hzhhb
          unfold HeardOk at kA kB
          rw [← hho, ← hHL] at kA kB
          have KA := Lib.hid kA; have KB := Lib.hid kB; have HHL := Lib.hid hHL
          clear kA kB hho hHL
          go_wp2_with fail
          refine (KA.out _).mono ?_
          rintro e x23 ⟨v8, rfl, ha, hb⟩
          replace A1 := Lib.hid (strsO_below A1.out hb)
          replace A2 := Lib.hid (strsO_below A2.out hb)
          have H1 := Lib.hid ha
          have C23 := Lib.hid (below_trans C22.out hb)
          clear hb C22 ha KA
          go_wp2_with fail
          refine (KB.out _).mono ?_
          rintro e x24 ⟨v9, rfl, ha, hb⟩
          replace A1 := Lib.hid (strsO_below A1.out hb)
          replace A2 := Lib.hid (strsO_below A2.out hb)
          replace H1 := Lib.hid (strsO_below H1.out hb)
          have H2 := Lib.hid ha
          have C24 := Lib.hid (below_trans C23.out hb)
          clear hb C23 ha KB
          have HDR := Lib.hid (drawWayOfInventory_c x24 more ms0 (argY_below HMS0.out C24.out))
          go_wp2_with fail
          refine HDR.out.mono ?_
          rintro e x25 ⟨vb, tm, rfl, hz, hb⟩
          replace A1 := Lib.hid (strsO_below A1.out hb)
          replace A2 := Lib.hid (strsO_below A2.out hb)
          replace H1 := Lib.hid (strsO_below H1.out hb)
          replace H2 := Lib.hid (strsO_below H2.out hb)
          have hzvb : vb.size ≤ maxLen := by unfold maxLen; omega
          have HZvb := Lib.hid hz; clear hz
          have C25 := Lib.hid (below_trans C24.out hb)
          clear hb C24 HDR
          obtain ⟨wo, hwo⟩ : ∃ b, b = (wayGO invO 40 vb.data.toList tm).isSome := ⟨_, rfl⟩
          obtain ⟨WL, hWL⟩ : ∃ b, b = (wayGO invO 40 vb.data.toList tm).getD [] := ⟨_, rfl⟩
          have kA := fun (W : World) => (implInventory_any vb tm W hzvb).mono fun _ _ h => strsOk_O h
          have kB := fun (W : World) => (specInventory_any vb tm W hzvb).mono fun _ _ h => strsOk_O h
          rw [← hwo, ← hWL] at kA kB
          have KA := Lib.hid kA; have KB := Lib.hid kB
          clear kA kB hwo hWL
          go_wp2_with fail
          refine (KA.out _).mono ?_
          rintro e x26 ⟨v10, rfl, ha, hb⟩
          replace A1 := Lib.hid (strsO_below A1.out hb)
          replace A2 := Lib.hid (strsO_below A2.out hb)
          replace H1 := Lib.hid (strsO_below H1.out hb)
          replace H2 := Lib.hid (strsO_below H2.out hb)
          have V1 := Lib.hid ha
          have C26 := Lib.hid (below_trans C25.out hb)
          clear hb C25 ha KA
          go_wp2_with fail
          refine (KB.out _).mono ?_
          rintro e x27 ⟨v11, rfl, ha, hb⟩
          replace A1 := Lib.hid (strsO_below A1.out hb)
          replace A2 := Lib.hid (strsO_below A2.out hb)
          replace H1 := Lib.hid (strsO_below H1.out hb)
          replace H2 := Lib.hid (strsO_below H2.out hb)
          replace V1 := Lib.hid (strsO_below V1.out hb)
          have V2 := Lib.hid ha
          have C27 := Lib.hid (below_trans C26.out hb)
          clear hb C26 ha KB
          have e1 : (gs != gs) = false := by simp
          have e2 : (oi != oi) = false := by simp
          have e3 : (ii != ii) = false := by simp
          have e4 : (ao != ao) = false := by simp
          have e5 : (ho != ho) = false := by simp
          have e6 : (wo != wo) = false := by simp
          go_upto_region 62 with fail
          go_cut [461] from 404 to 461 (fun u wx => u = .bool false ∧ Hid (Below x27.heap.size x27 wx))
          case first => as_aux_lemma =>
            go_wp2_with fail
            refine (fTexts_same _ _ _ _ _ _ A1.out A2.out).mono ?_
            rintro e z1 ⟨rfl, hb⟩
            have D1 := Lib.hid hb
            replace H1 := Lib.hid (strsO_below H1.out hb); replace H2 := Lib.hid (strsO_below H2.out hb)
            replace V1 := Lib.hid (strsO_below V1.out hb); replace V2 := Lib.hid (strsO_below V2.out hb)
            clear hb
            go_wp2_with fail
            refine (fTexts_same _ _ _ _ _ _ H1.out H2.out).mono ?_
            rintro e z2 ⟨rfl, hb⟩
            have D2 := Lib.hid (below_trans D1.out hb)
            replace V1 := Lib.hid (strsO_below V1.out hb); replace V2 := Lib.hid (strsO_below V2.out hb)
            clear hb D1
            go_wp2_with fail
            refine (fTexts_same _ _ _ _ _ _ V1.out V2.out).mono ?_
            rintro e z3 ⟨rfl, hb⟩
            have D3 := Lib.hid (below_trans D2.out hb)
            clear hb D2
            cases oi with
            | false =>
              go_wp2_with fail
              go_meet
              case rel => exact ⟨rfl, D3⟩
            | true =>
              obtain rfl : ii = true := HOO.out rfl
              go_wp2_with fail
              go_meet
              case rel => exact ⟨rfl, D3⟩
          case rest => as_aux_lemma =>
            obtain ⟨rfl, E0⟩ := hcut
            clear A2 H2 V1 V2 HOO e1 e2 e3 e4 e5 e6
            obtain ⟨x28, hxx⟩ : ∃ x, x = wc := ⟨_, rfl⟩
            subst hxx
            replace A1 := Lib.hid (strsO_below A1.out E0.out)
            replace H1 := Lib.hid (strsO_below H1.out E0.out)
            have C28 := Lib.hid (below_trans C27.out E0.out)
            clear E0 C27
            obtain ⟨hown1, hown2, hown3⟩ := own_list HAL.out
            obtain ⟨hhe1, hhe2⟩ := heard_list HHL.out
            obtain ⟨NA, hNA⟩ : ∃ N, N = AL.length := ⟨_, rfl⟩
            obtain ⟨NH, hNH⟩ : ∃ N, N = HL.length := ⟨_, rfl⟩
            obtain ⟨AA, CA, rfl, hna9, hca⟩ := sO_at A1.out hNA.symm
            obtain ⟨AH, CH, rfl, hnh9, hch⟩ := sO_at H1.out hNH.symm
            have hkown : ∀ i (hi : i < AL.length) (W : World), Calls Try.prog 24 #[.string (bs AL[i])] W fun e w' => e = .returned (.tuple #[.bool true, .bool true]) ∧ Below W.heap.size W w' := fun i hi W => by
              obtain ⟨q1, q2, q3⟩ := hown1 _ (List.getElem_mem hi)
              have := implIsOwnInventory_any (bs AL[i]) W (by rw [bs_size]; unfold maxLen; omega)
              rw [bs_list, q1, q2] at this
              exact this
            have hkinv : ∀ i (hi : i < HL.length) (W : World), Calls Try.prog 13 #[.string (bs HL[i])] W fun e w' => e = .returned (.tuple #[.string hhb, .bool true]) ∧ Below W.heap.size W w' := fun i hi W => by
              obtain ⟨q1, q3⟩ := hhe1 _ (List.getElem_mem hi)
              have := implInventoryOf_any (bs HL[i]) W (by rw [bs_size]; unfold maxLen; omega)
              rw [bs_list, q1, strOk_eq, Option.getD_some, bs_self] at this
              exact this
            have HOWN2 := Lib.hid hown2; have HOWN3 := Lib.hid hown3; have HHE2 := Lib.hid hhe2; have HKO := Lib.hid hkown; have HKI := Lib.hid hkinv; have HNA := Lib.hid hNA; have HNH := Lib.hid hNH; have HCA := Lib.hid hca; have HCH := Lib.hid hch
            clear hown1 hown2 hown3 hhe1 hhe2 hkown hkinv hNA hNH hca hch A1 H1 HAL HHL
            go_wp2_with fail
            go_loopw [464] (fun iw wr => ∃ i : Nat, i ≤ NA ∧ iw = .int .i64 (i : Int) ∧ Hid (Below x28.heap.size x28 wr)) (fun iw _ => NA - (intOf iw).toNat)
            case atStart => exact ⟨0, Nat.zero_le _, rfl, below_refl _⟩
            case round => as_aux_lemma =>
              obtain ⟨i, hi, rfl, HW⟩ := hrel
              by_cases hlt : i < NA
              · have hil : i < AL.length := by rw [← HNA.out]; exact hlt
                obtain ⟨g, o, hA, hg, hce⟩ := HCA.out i _ (List.getElem?_eq_getElem hil)
                have k1 := fun (W : World) => HKO.out i hil W
                obtain ⟨X, hX⟩ : ∃ X, X = bs AL[i] := ⟨_, rfl⟩
                rw [← hX] at hce k1
                have d1 : wr.cell? ⟨g, o + i, none⟩ = some (.string X) := (HW.out.cell (p := ⟨g, o + i, none⟩) hg).trans hce
                have L1 := Lib.hid k1; have HX := Lib.hid hX
                clear k1 hce hX
                by_cases h0 : i = 0
                · subst hA
                  have e2 : ¬ (i : Int) > 0 := by omega
                  have e3 : ¬ 0 < i := by omega
                  have H0 := Lib.hid h0
                  clear h0
                  go_wp2_with fail
                  refine (L1.out _).mono ?_
                  rintro e z2 ⟨rfl, hb⟩
                  have HW2 := Lib.hid (below_trans HW.out hb); clear hb L1
                  go_wp2_with fail
                  go_roundw
                  case rel => exact ⟨i + 1, by omega, by go_num, HW2⟩
                  case measure => simp [intOf] <;> omega
                · obtain ⟨J, hJ⟩ : ∃ J, J = i - 1 := ⟨_, rfl⟩
                  have hJl : J < AL.length := by omega
                  have e2 : (i : Int) > 0 := by omega
                  have e3 : 0 < i := by omega
                  have eJ : (i : Int) - 1 = (J : Int) := by omega
                  have hJN : J < NA := by omega
                  obtain ⟨g', o', hA', _, hce'⟩ := HCA.out J _ (List.getElem?_eq_getElem hJl)
                  rw [hA] at hA'
                  obtain ⟨rfl, rfl⟩ : g = g' ∧ o = o' := by simpa using hA'
                  have hls := HOWN2.out i hil e3
                  have hJ1 : AL[i - 1]'(Nat.lt_of_le_of_lt (Nat.sub_le _ _) hil) = AL[J] := by congr 1; omega
                  rw [hJ1] at hls
                  obtain ⟨Y, hY⟩ : ∃ Y, Y = bs AL[J] := ⟨_, rfl⟩
                  have hcmp : Op.bytesLess Y.toList X.toList = true := by rw [hY, HX.out, cmp_bs]; exact decide_eq_true hls
                  have hcmpn : (!Op.bytesLess Y.toList X.toList) = false := by rw [hcmp]; rfl
                  rw [← hY] at hce'
                  have HCJ := Lib.hid hce'; have HJ := Lib.hid hJ
                  subst hA
                  clear hls hJ1 hY hce' hA' hJ
                  go_wp2_with fail
                  refine (L1.out _).mono ?_
                  rintro e z2 ⟨rfl, hb⟩
                  have HW2 := Lib.hid (below_trans HW.out hb); clear hb L1
                  have d2 : z2.cell? ⟨g, o + J, none⟩ = some (.string Y) := (HW2.out.cell (p := ⟨g, o + J, none⟩) hg).trans HCJ.out
                  go_wp2_with fail
                  go_roundw
                  case rel => exact ⟨i + 1, by omega, by go_num, HW2⟩
                  case measure => simp [intOf] <;> omega
              · obtain rfl : i = NA := by omega
                obtain ⟨y0, hy0⟩ : ∃ x, x = wr := ⟨_, rfl⟩
                subst hy0
                obtain ⟨pb, hpb⟩ : ∃ b, b = (gs && oi && ao) := ⟨_, rfl⟩
                have HPB := Lib.hid hpb
                clear hpb hlt hi
                go_upto_region 71 with fail
                go_cut [500] from 494 to 500 (fun u wx => u = .bool pb ∧ wx = y0)
                case first =>
                  cases gs with
                  | false =>
                    obtain rfl : pb = false := HPB.out
                    go_wp2_with fail
                    go_meet
                    case rel => exact ⟨rfl, rfl⟩
                  | true =>
                    cases oi with
                    | false =>
                      obtain rfl : pb = false := HPB.out
                      go_wp2_with fail
                      go_meet
                      case rel => exact ⟨rfl, rfl⟩
                    | true =>
                      obtain rfl : pb = ao := HPB.out
                      go_wp2_with fail
                      go_meet
                      case rel => exact ⟨rfl, rfl⟩
                case rest =>
                  obtain ⟨rfl, hwq⟩ := hcut
                  replace hwq := hwq.symm
                  subst hwq
                  go_upto_if 500 with fail
                  go_cut [] from 500 to 500 (fun wx => Hid (Below y0.heap.size y0 wx))
                  case first => as_aux_lemma =>
                    cases pb with
                    | false =>
                      go_wp2_with fail
                      go_meet
                      case rel => exact below_refl _
                    | true =>
                      have hp3 := HPB.out.symm
                      rw [Bool.and_eq_true, Bool.and_eq_true] at hp3
                      obtain ⟨⟨hp0', hp1⟩, hp2⟩ := hp3
                      obtain ⟨N6, hN6, h6, hiff⟩ := HOWN3.out (by rw [← HAO.out]; exact hp2)
                      have hso : isOwnL sb.data.toList = true := by
                        have := HOI.out
                        rw [hp1] at this
                        have := this.symm
                        rw [Bool.and_eq_true] at this
                        exact this.2
                      have hfin := hiff _ hso
                      have hdg : ∀ k (h : k < sb.size), 48 ≤ sb[k].toNat ∧ sb[k].toNat ≤ 57 := fun k h => by
                        obtain ⟨h2, e⟩ := byte_at sb k h
                        have hinv : invO sb.data.toList = some sb.data.toList := of_decide_eq_true hso
                        have hd := (good_digs (inv_facts hinv).1).1
                        have g1 := List.all_eq_true.1 hd _ (List.getElem_mem h2)
                        unfold digB at g1
                        rw [decide_eq_true_eq] at g1
                        rw [e]; omega
                      obtain ⟨NS, hNS⟩ : ∃ N, N = sb.size := ⟨_, rfl⟩
                      have HDG := Lib.hid hdg; have HFIN := Lib.hid hfin; have HNS := Lib.hid hNS; have HN6 := Lib.hid hN6
                      have hNS9 : NS ≤ 9223372036854775807 := by rw [hNS]; unfold maxLen at hzsb; omega
                      clear hp0' hp1 hp2 hiff hso hfin hdg hNS hN6 HPB HOI HAO
                      go_wp2_with fail
                      go_loop [68, 69] (fun bv iv => ∃ (k : Nat) (b : Bool), k ≤ NS ∧ iv = .int .i64 (k : Int) ∧ bv = .bool b ∧ Hid (b = (sb.data.toList.take k).any (hiC n))) (fun _ iv => NS - (intOf iv).toNat)
                      case atStart => exact ⟨0, false, Nat.zero_le _, rfl, rfl, Lib.hid rfl⟩
                      case round => as_aux_lemma =>
                        obtain ⟨k, b, hk, rfl, rfl, HB⟩ := hrel
                        by_cases hlt : k < NS
                        · have hks : k < sb.size := by rw [← HNS.out]; exact hlt
                          obtain ⟨h2, e⟩ := byte_at sb k hks
                          have hst := hi_succ n sb.data.toList k h2
                          rw [← HB.out] at hst
                          have hltI : (k : Int) < (sb.size : Int) := by omega
                          cases b with
                          | true =>
                            rw [Bool.true_or] at hst
                            have HS := Lib.hid hst.symm
                            clear hst e
                            go_wp2_with fail
                            go_round
                            case rel => exact ⟨k + 1, true, by omega, by go_num, rfl, HS⟩
                            case measure => simp [intOf] <;> omega
                          | false =>
                            rw [Bool.false_or] at hst
                            obtain ⟨c1, c2⟩ := HDG.out k hks
                            obtain ⟨x, hx⟩ : ∃ x, x = sb[k].toNat - 48 := ⟨_, rfl⟩
                            have f1 : ((sb[k].toNat : Nat) : Int) - 48 = (x : Int) := by omega
                            have f3 : ((x : Int) % 256) = (x : Int) := by omega
                            have hcv : hiC n sb.data.toList[k] = decide ((x : Int) > n) := by
                              unfold hiC
                              rw [← e]
                              congr 1
                              rw [f1]
                            rw [hcv] at hst
                            by_cases hgt : (x : Int) > n
                            · rw [decide_eq_true hgt] at hst
                              have HS := Lib.hid hst.symm
                              clear hst e hcv hx
                              go_wp2_with fail
                              go_round
                              case rel => exact ⟨k + 1, true, by omega, by go_num, rfl, HS⟩
                              case measure => simp [intOf] <;> omega
                            · rw [decide_eq_false hgt] at hst
                              have HS := Lib.hid hst.symm
                              clear hst e hcv hx
                              go_wp2_with fail
                              go_round
                              case rel => exact ⟨k + 1, false, by omega, by go_num, rfl, HS⟩
                              case measure => simp [intOf] <;> omega
                        · obtain rfl : k = NS := by omega
                          have hltI : ¬ (k : Int) < (sb.size : Int) := by have := HNS.out; omega
                          have hfl : (sb.data.toList.take k) = sb.data.toList := List.take_of_length_le (by rw [size_list, ← HNS.out]; exact Nat.le_refl _)
                          have hbv := HB.out
                          rw [hfl] at hbv
                          have HBV := Lib.hid hbv
                          clear hfl hbv HB hlt
                          go_wp2_with fail
                          go_loop [70, 519] (fun fv iv => ∃ (q : Nat) (f : Bool), q ≤ i ∧ iv = .int .i64 (q : Int) ∧ fv = .bool f ∧ Hid (f = (AL.take q).any (fun t => decide (t = sb.data.toList)))) (fun _ iv => i - (intOf iv).toNat)
                          case atStart => exact ⟨0, false, Nat.zero_le _, rfl, rfl, Lib.hid rfl⟩
                          case round => as_aux_lemma =>
                            obtain ⟨q, f, hq, rfl, rfl, HFq⟩ := hrel
                            by_cases hlt : q < i
                            · have hql : q < AL.length := by rw [← HNA.out]; exact hlt
                              obtain ⟨g, o, hA, hg, hce⟩ := HCA.out q _ (List.getElem?_eq_getElem hql)
                              have hst := eq_succ sb.data.toList AL q hql
                              rw [← HFq.out] at hst
                              have hcq : ((bs AL[q]).toList == sb.toList) = decide (AL[q] = sb.data.toList) := by
                                have := bs_beq AL[q] sb.data.toList
                                rwa [bs_self] at this
                              obtain ⟨X, hX⟩ : ∃ X, X = bs AL[q] := ⟨_, rfl⟩
                              obtain ⟨bq, hbq⟩ : ∃ b, b = decide (AL[q] = sb.data.toList) := ⟨_, rfl⟩
                              rw [← hX] at hce hcq
                              rw [← hbq] at hst hcq
                              have d1 : y0.cell? ⟨g, o + q, none⟩ = some (.string X) := (HW.out.cell (p := ⟨g, o + q, none⟩) hg).trans hce
                              subst hA
                              clear hce hX hbq
                              cases f with
                              | true =>
                                rw [Bool.true_or] at hst
                                have HS := Lib.hid hst.symm
                                clear hst
                                go_wp2_with fail
                                go_round
                                case rel => exact ⟨q + 1, true, by omega, by go_num, rfl, HS⟩
                                case measure => simp [intOf] <;> omega
                              | false =>
                                rw [Bool.false_or] at hst
                                have HS := Lib.hid hst.symm
                                clear hst
                                go_wp2_with fail
                                go_round
                                case rel => exact ⟨q + 1, bq, by omega, by go_num, rfl, HS⟩
                                case measure => simp [intOf] <;> omega
                            · obtain rfl : q = i := by omega
                              have hfv := HFq.out
                              rw [List.take_of_length_le (by rw [← HNA.out]; exact Nat.le_refl _)] at hfv
                              have hne : (f == b) = false := by
                                have h1 : f = true ↔ sb.data.toList ∈ AL := by
                                  rw [hfv, List.any_eq_true]
                                  constructor
                                  · rintro ⟨t, ht, e⟩
                                    have := of_decide_eq_true e
                                    subst this; exact ht
                                  · intro h; exact ⟨_, h, decide_eq_true rfl⟩
                                have h2 : b = false ↔ ∀ ch ∈ sb.data.toList, ch.toNat ≤ 48 + N6 := by
                                  rw [HBV.out, List.any_eq_false]
                                  constructor
                                  · intro h ch hch
                                    have := h ch hch
                                    unfold hiC at this
                                    rw [decide_eq_true_eq] at this
                                    have := HN6.out
                                    omega
                                  · intro h ch hch
                                    unfold hiC
                                    rw [decide_eq_true_eq]
                                    have := h ch hch
                                    have := HN6.out
                                    omega
                                have h3 := HFIN.out
                                rw [← h1, ← h2] at h3
                                cases f <;> cases b <;> simp at h3 ⊢
                              clear hfv
                              go_wp2_with fail
                              go_meet
                              case rel => exact below_refl _
                  case rest => as_aux_lemma =>
                    have D0 := Lib.hid (below_trans HW.out hcut.out)
                    clear hcut HW HPB HOI HAO HOWN3 HOWN2 HKO HCA
                    obtain ⟨y1, hy1⟩ : ∃ x, x = wc := ⟨_, rfl⟩
                    subst hy1
                    go_wp2_with fail
                    go_loopw [535] (fun iw wr => ∃ i : Nat, i ≤ NH ∧ iw = .int .i64 (i : Int) ∧ Hid (Below x28.heap.size x28 wr)) (fun iw _ => NH - (intOf iw).toNat)
                    case atStart => exact ⟨0, Nat.zero_le _, rfl, D0⟩
                    case round => as_aux_lemma =>
                      obtain ⟨i, hi, rfl, HW⟩ := hrel
                      by_cases hlt : i < NH
                      · have hil : i < HL.length := by rw [← HNH.out]; exact hlt
                        obtain ⟨g, o, hA, hg, hce⟩ := HCH.out i _ (List.getElem?_eq_getElem hil)
                        have k1 := fun (W : World) => HKI.out i hil W
                        obtain ⟨X, hX⟩ : ∃ X, X = bs HL[i] := ⟨_, rfl⟩
                        rw [← hX] at hce k1
                        have d1 : wr.cell? ⟨g, o + i, none⟩ = some (.string X) := (HW.out.cell (p := ⟨g, o + i, none⟩) hg).trans hce
                        have eh : (hhb.toList != hhb.toList) = false := by simp
                        have L1 := Lib.hid k1; have HX := Lib.hid hX
                        clear k1 hce hX
                        by_cases h0 : i = 0
                        · subst hA
                          have e2 : ¬ (i : Int) > 0 := by omega
                          have e3 : ¬ 0 < i := by omega
                          have H0 := Lib.hid h0
                          clear h0
                          go_wp2_with fail
                          refine (L1.out _).mono ?_
                          rintro e z2 ⟨rfl, hb⟩
                          have HW2 := Lib.hid (below_trans HW.out hb); clear hb L1
                          go_wp2_with fail
                          go_roundw
                          case rel => exact ⟨i + 1, by omega, by go_num, HW2⟩
                          case measure => simp [intOf] <;> omega
                        · obtain ⟨J, hJ⟩ : ∃ J, J = i - 1 := ⟨_, rfl⟩
                          have hJl : J < HL.length := by omega
                          have e2 : (i : Int) > 0 := by omega
                          have e3 : 0 < i := by omega
                          have eJ : (i : Int) - 1 = (J : Int) := by omega
                          have hJN : J < NH := by omega
                          obtain ⟨g', o', hA', _, hce'⟩ := HCH.out J _ (List.getElem?_eq_getElem hJl)
                          rw [hA] at hA'
                          obtain ⟨rfl, rfl⟩ : g = g' ∧ o = o' := by simpa using hA'
                          have hls := HHE2.out i hil e3
                          have hJ1 : HL[i - 1]'(Nat.lt_of_le_of_lt (Nat.sub_le _ _) hil) = HL[J] := by congr 1; omega
                          rw [hJ1] at hls
                          obtain ⟨Y, hY⟩ : ∃ Y, Y = bs HL[J] := ⟨_, rfl⟩
                          have hcmp : Op.bytesLess Y.toList X.toList = true := by rw [hY, HX.out, cmp_bs]; exact decide_eq_true hls
                          have hcmpn : (!Op.bytesLess Y.toList X.toList) = false := by rw [hcmp]; rfl
                          rw [← hY] at hce'
                          have HCJ := Lib.hid hce'; have HJ := Lib.hid hJ
                          subst hA
                          clear hls hJ1 hY hce' hA' hJ
                          go_wp2_with fail
                          refine (L1.out _).mono ?_
                          rintro e z2 ⟨rfl, hb⟩
                          have HW2 := Lib.hid (below_trans HW.out hb); clear hb L1
                          have d2 : z2.cell? ⟨g, o + J, none⟩ = some (.string Y) := (HW2.out.cell (p := ⟨g, o + J, none⟩) hg).trans HCJ.out
                          go_wp2_with fail
                          go_roundw
                          case rel => exact ⟨i + 1, by omega, by go_num, HW2⟩
                          case measure => simp [intOf] <;> omega
                      · obtain rfl : i = NH := by omega
                        go_wp2_with fail
                        go_ret
                        exact ⟨rfl, below_trans C28.out HW.out⟩
end Go.Proofs.Ytkdoghopbefjfaa
