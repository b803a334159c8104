/- Law FnFormsCounted. (By tools/genyq.py.) -/
import Derived.Test.YtpglkgpaaflikaaYP
import Derived.Test.YtpglkgpaaflikaaYK
import Derived.Test.YtpglkgpaaflikaaYS
import Derived.Test.YtpglkgpaaflikaaYT
import Derived.Deep.DeepCutAuto
import Derived.Deep.QuietTactic
import Derived.BigQuiet
namespace Go.Proofs.Ytpglkgpaaflikaa
open Go.RowKit Go.BigFrame Go.Deep
set_option linter.unusedSimpArgs false
set_option linter.unusedVariables false
set_option maxRecDepth 4000

set_option maxRecDepth 100000 in
set_option maxHeartbeats 16000000 in
theorem law_FnFormsCounted (code : Value) (cs : List Int) (more : Value) (ms0 : List Int) (w : World) (hcs : ArgY w code cs) (hms : ArgY w more ms0) :
    Calls Try.prog 4 #[code, more] w fun e w' => e = .returned (.bool true) ∧ Below w.heap.size w w' := by
  have HMS0 := Lib.hid hms; have HCS0 := Lib.hid hcs
  have HBIG := Lib.hid (big_any w code more cs ms0 hcs hms)
  clear hcs hms
  go_enter Try.func4, Try.ntmps4
  go_wp2_with fail
  refine HBIG.out.mono ?_
  rintro e wb ⟨b, rfl, rfl⟩
  clear HBIG
  cases b
  case true => (go_wp2_with fail; go_ret; exact ⟨rfl, Below.refl _ _⟩)
  obtain ⟨x0, hx0⟩ : ∃ x, x = w := ⟨_, rfl⟩
  subst hx0
  have C0 := Lib.hid (Below.refl x0.heap.size x0)
  go_wp2_with fail
  refine (drawAllForms_c x0 code cs HCS0.out).mono ?_
  rintro e x1 ⟨n, rfl, hb⟩
  have C1 := Lib.hid (below_trans C0.out hb)
  clear hb C0
  obtain ⟨a, ha0⟩ : ∃ a, a = afB n := ⟨_, rfl⟩
  obtain ⟨L, hL⟩ : ∃ L, L = (afO n).getD [] := ⟨_, rfl⟩
  have sA : (afO n).isSome = a := by rw [ha0]; unfold afO; cases afB n <;> rfl
  have kA := fun (W : World) => implAllForms_any n W
  have kB := fun (W : World) => specAllForms_any n W
  unfold RROk at kA kB
  rw [sA, ← hL] at kA kB
  have KA := Lib.hid kA; have KB := Lib.hid kB; have HA := Lib.hid ha0; have HL := Lib.hid hL
  clear kA kB sA ha0 hL
  go_wp2_with fail
  refine (KA.out _).mono ?_
  rintro e x2 ⟨v1, vs1, rfl, ha, hb⟩
  have RA := Lib.hid ha
  have C2 := Lib.hid (below_trans C1.out hb)
  clear hb C1 ha KA
  go_wp2_with fail
  refine (KB.out _).mono ?_
  rintro e x3 ⟨v2, vs2, rfl, ha, hb⟩
  replace RA := Lib.hid (rr_below RA.out hb)
  have RB := Lib.hid ha
  have C3 := Lib.hid (below_trans C2.out hb)
  clear hb C2 ha KB
  go_wp2_with fail
  refine (drawCountForms_c x3 code cs (argY_below HCS0.out C3.out)).mono ?_
  rintro e x4 ⟨m, rfl, hb⟩
  replace RA := Lib.hid (rr_below RA.out hb); replace RB := Lib.hid (rr_below RB.out hb)
  have C4 := Lib.hid (below_trans C3.out hb)
  clear hb C3 HCS0
  obtain ⟨c, hc⟩ : ∃ c, c = cfV m := ⟨_, rfl⟩
  obtain ⟨cb, hcb⟩ : ∃ c, c = cfB m := ⟨_, rfl⟩
  have kA := fun (W : World) => implCountForms_any m W
  have kB := fun (W : World) => specCountForms_any m W
  rw [← hc, ← hcb] at kA kB
  have KA := Lib.hid kA; have KB := Lib.hid kB
  clear kA kB hc hcb
  go_wp2_with fail
  refine (KA.out _).mono ?_
  rintro e x5 ⟨rfl, hb⟩
  replace RA := Lib.hid (rr_below RA.out hb)
  replace RB := Lib.hid (rr_below RB.out hb)
  have C5 := Lib.hid (below_trans C4.out hb)
  clear hb C4 KA
  go_wp2_with fail
  refine (KB.out _).mono ?_
  rintro e x6 ⟨rfl, hb⟩
  replace RA := Lib.hid (rr_below RA.out hb)
  replace RB := Lib.hid (rr_below RB.out hb)
  have C6 := Lib.hid (below_trans C5.out hb)
  clear hb C5 KB
  have HDR := Lib.hid (drawRankOfForm_c x6 more ms0 (argY_below HMS0.out C6.out))
  go_wp2_with fail
  refine HDR.out.mono ?_
  rintro e x7 ⟨uf, fs, rfl, ha, hb⟩
  replace RA := Lib.hid (rr_below RA.out hb)
  replace RB := Lib.hid (rr_below RB.out hb)
  have ZF := Lib.hid ha
  have C7 := Lib.hid (below_trans C6.out hb)
  clear hb C6 ha HDR
  obtain ⟨A0, T0, rfl, hT0, hl0⟩ := argL_slice ZF.out
  obtain ⟨M0, hM0⟩ : ∃ N, N = fs.length := ⟨_, rfl⟩
  rw [← hM0] at hl0 ZF ⊢
  have HM0 := Lib.hid hM0
  clear hM0 hT0
  obtain ⟨r, hr⟩ : ∃ r, r = rkV fs := ⟨_, rfl⟩
  obtain ⟨rb, hrb⟩ : ∃ r, r = rkB fs := ⟨_, rfl⟩
  have kA := fun (W : World) (u : Value) (ha : ArgL W u fs) => implRankOfForm_arg W u fs ha
  have kB := fun (W : World) (u : Value) (ha : ArgL W u fs) => specRankOfForm_arg W u fs ha
  rw [← hr, ← hrb] at kA kB
  have KA := Lib.hid kA; have KB := Lib.hid kB; have HR := Lib.hid hr; have HRB := Lib.hid hrb
  clear kA kB hr hrb
  go_wp2_with fail
  refine (KA.out _ _ ZF.out).mono ?_
  rintro e x8 ⟨rfl, hb⟩
  replace RA := Lib.hid (rr_below RA.out hb)
  replace RB := Lib.hid (rr_below RB.out hb)
  replace ZF := Lib.hid (argL_below ZF.out hb)
  have C8 := Lib.hid (below_trans C7.out hb)
  clear hb C7 KA
  go_wp2_with fail
  refine (KB.out _ _ ZF.out).mono ?_
  rintro e x9 ⟨rfl, hb⟩
  replace RA := Lib.hid (rr_below RA.out hb)
  replace RB := Lib.hid (rr_below RB.out hb)
  replace ZF := Lib.hid (argL_below ZF.out hb)
  have C9 := Lib.hid (below_trans C8.out hb)
  clear hb C8 KB
  have e1 : (a != a) = false := by simp
  have e2 : (cb != cb) = false := by simp
  have e3 : (c != c) = false := by simp
  have e4 : (rb != rb) = false := by simp
  have e5 : (r != r) = false := by simp
  go_wp2_with fail
  refine (qRows_same _ _ _ _ _ _ _ _ RA.out RB.out).mono ?_
  rintro e x10 ⟨rfl, hb⟩
  replace RA := Lib.hid (rr_below RA.out hb)
  replace ZF := Lib.hid (argL_below ZF.out hb)
  have C10 := Lib.hid (below_trans C9.out hb)
  clear hb C9 e2 e3
  go_upto_if 138 with fail
  go_cut [] from 138 to 138 (fun wx => Hid (Below x10.heap.size x10 wx))
  case first => as_aux_lemma =>
    cases a with
    | false =>
      go_wp2_with fail
      go_meet
      case rel => exact below_refl _
    | true =>
      have hn : 1 ≤ n ∧ n ≤ 7 := of_decide_eq_true HA.out.symm
      obtain ⟨M, hM⟩ : ∃ M : Nat, n = (M : Int) := ⟨n.toNat, by omega⟩
      subst hM
      have h1 : 1 ≤ M := by omega
      have h7 : M ≤ 7 := by omega
      have hLM : L = allF M := by
        rw [HL.out]; unfold afO
        rw [if_pos HA.out.symm]; rfl
      obtain ⟨N, hN⟩ : ∃ N, N = L.length := ⟨_, rfl⟩
      have hN1 : 1 ≤ N := by rw [hN, hLM]; exact allF_pos M
      have hcnt : endN M 0 = N := by rw [hN, hLM, allF_cnt M h7]
      have hfa : ∀ (j : Nat) (h : j < L.length), isF L[j] = true ∧ L[j].length = M ∧ rkV L[j] = (j : Int) ∧ rkB L[j] = true ∧ plL L[j] = true ∧ (∀ hj : 0 < j, lesL (L[j - 1]'(Nat.lt_of_le_of_lt (Nat.sub_le _ _) h)) L[j] = true) := by
        subst hLM
        exact allF_facts M h1 h7
      have kc := fun (W : World) => implCountForms_any (M : Int) W
      have hcf : cfB (M : Int) = true := by unfold cfB; rw [decide_eq_true (by omega)]
      rw [show cfV (M : Int) = (N : Int) by unfold cfV; rw [if_pos hcf, Int.toNat_natCast, hcnt], hcf] at kc
      obtain ⟨g, cap, rfl, hN9, hcp, hg, hca⟩ := rr_at RA.out hN.symm hN1
      have KC := Lib.hid kc; have HFA := Lib.hid hfa; have HCA := Lib.hid hca; have HN := Lib.hid hN
      have eN : ((N : Int) != (N : Int)) = false := by simp
      clear kc hfa hca hN hLM hcnt hcf hn HL HA hl0
      go_wp2_with fail
      refine (KC.out _).mono ?_
      rintro e z1 ⟨rfl, hb⟩
      have D1 := Lib.hid hb
      clear hb KC
      go_wp2_with fail
      go_loopw [154] (fun iv wr => ∃ i : Nat, i ≤ N ∧ iv = .int .i64 i ∧ Hid (Below z1.heap.size z1 wr)) (fun iv _ => N - (intOf iv).toNat)
      case atStart => exact ⟨0, Nat.zero_le _, rfl, below_refl _⟩
      case round => as_aux_lemma =>
        obtain ⟨i, hi, rfl, HW⟩ := hrel
        by_cases hlt : i < N
        · have hil : i < L.length := by rw [← HN.out]; exact hlt
          obtain ⟨u, hu, hc⟩ := HCA.out i hil
          obtain ⟨f1, f2, f3, f4, f5, f6⟩ := HFA.out i hil
          obtain ⟨X, hX⟩ : ∃ X, X = L[i] := ⟨_, rfl⟩
          rw [← hX] at hu f1 f2 f3 f4 f5 f6
          have hcw : wr.cell? ⟨g, i, none⟩ = some u := ((below_trans D1.out HW.out).cell (p := ⟨g, i, none⟩) hg).trans hc
          obtain ⟨gu, cu, rfl, hcu, hMc, hgu, _⟩ := intsA_atM hu f2 h1
          have hUW : ∀ W : World, Below z1.heap.size z1 W → IntsA W _ (.slice (some ⟨gu, 0, none⟩) M cu) X := fun W hb => intsA_below hu (below_trans D1.out hb)
          have k1 := fun (W : World) (hb : Below z1.heap.size z1 W) => implIsForm_any W _ _ X (hUW W hb)
          have k2 := fun (W : World) (hb : Below z1.heap.size z1 W) => implRankOfForm_any W _ _ X (hUW W hb)
          rw [f1, f5] at k1
          rw [f3, f4] at k2
          have K1 := Lib.hid k1; have K2 := Lib.hid k2; have HU := Lib.hid hUW; have F6 := Lib.hid f6; have F2 := Lib.hid f2
          have eM : ((M : Int) != (M : Int)) = false := by simp
          have ei : ((i : Int) != (i : Int)) = false := by simp
          clear k1 k2 hUW hc hu f1 f2 f3 f4 f5 f6 hX
          go_wp2_with fail
          refine (K1.out _ HW.out).mono ?_
          rintro e z2 ⟨rfl, hb⟩
          have HW2 := Lib.hid (below_trans HW.out hb); clear hb
          go_wp2_with fail
          refine (K2.out _ HW2.out).mono ?_
          rintro e z3 ⟨rfl, hb⟩
          have HW3 := Lib.hid (below_trans HW2.out hb); clear hb HW2 K1 K2
          by_cases h0 : i = 0
          · have e1 : decide ((i : Int) > 0) = false := decide_eq_false (by omega)
            have e2 : ¬ (i : Int) > 0 := by omega
            have e3 : ¬ 0 < i := by omega
            have H0 := Lib.hid h0
            clear h0
            go_wp2_with fail
            go_roundw
            case rel => exact ⟨i + 1, by omega, by go_num, HW3⟩
            case measure => simp [intOf] <;> omega
          · obtain ⟨J, hJ⟩ : ∃ J, J = i - 1 := ⟨_, rfl⟩
            have hJl : J < L.length := by omega
            have e1 : decide ((i : Int) > 0) = true := decide_eq_true (by omega)
            have e2 : (i : Int) > 0 := by omega
            have e3 : 0 < i := by omega
            have eJ : (i : Int) - 1 = (J : Int) := by omega
            have hJN : J < N := by omega
            obtain ⟨u', hu', hc'⟩ := HCA.out J hJl
            obtain ⟨_, q2, _⟩ := HFA.out J hJl
            have hles := F6.out (by omega)
            have hJ1 : L[i - 1]'(by omega) = L[J] := by congr 1; omega
            rw [hJ1] at hles
            obtain ⟨Y, hY⟩ : ∃ Y, Y = L[J] := ⟨_, rfl⟩
            rw [← hY] at hles hu' q2
            have hcw' : z3.cell? ⟨g, J, none⟩ = some u' := ((below_trans D1.out HW3.out).cell (p := ⟨g, J, none⟩) hg).trans hc'
            have k3 := qLess_true z3 _ _ u' (.slice (some ⟨gu, 0, none⟩) M cu) Y X (intsA_below hu' (below_trans D1.out HW3.out)) (HU.out z3 HW3.out) (by rw [q2, F2.out]) hles (by rw [q2]; exact h1)
            have K3 := Lib.hid k3
            have HJ := Lib.hid hJ
            clear k3 hles hJ1 hY hu' hc' q2 hJ
            go_wp2_with fail
            refine K3.out.mono ?_
            rintro e z4 ⟨rfl, hb⟩
            have HW4 := Lib.hid (below_trans HW3.out hb); clear hb HW3 K3
            go_wp2_with fail
            go_roundw
            case rel => exact ⟨i + 1, by omega, by go_num, HW4⟩
            case measure => simp [intOf] <;> omega
        · obtain rfl : i = N := by omega
          go_wp2_with fail
          go_meet
          case rel => exact Lib.hid (below_trans D1.out HW.out)
  case rest => as_aux_lemma =>
    clear RA HA HL e1
    obtain ⟨x11, hxx⟩ : ∃ x, x = wc := ⟨_, rfl⟩
    subst hxx
    replace ZF := Lib.hid (argL_below ZF.out hcut.out)
    have C11 := Lib.hid (below_trans C10.out hcut.out)
    clear hcut C10
    go_upto_if 205 with fail
    go_cut [] from 205 to 205 (fun wx => Hid (Below x11.heap.size x11 wx))
    case first => as_aux_lemma =>
      cases rb with
      | false =>
        go_wp2_with fail
        go_meet
        case rel => exact below_refl _
      | true =>
        have hrb := HRB.out.symm
        have hr := rk_range hrb
        rw [← HR.out, ← HM0.out] at hr
        have hM20 : M0 ≤ 20 := by
          rw [HM0.out]
          unfold rkB at hrb
          rw [Bool.and_eq_true, decide_eq_true_eq] at hrb
          exact hrb.2
        have kc := fun (W : World) => implCountForms_any (M0 : Int) W
        have hcf : cfB (M0 : Int) = true := by unfold cfB; rw [decide_eq_true (by omega)]
        obtain ⟨E, hE⟩ : ∃ E : Int, E = ((endN M0 0 : Nat) : Int) := ⟨_, rfl⟩
        rw [show cfV (M0 : Int) = E by unfold cfV; rw [if_pos hcf, Int.toNat_natCast, hE], hcf] at kc
        rw [← hE] at hr
        have KC := Lib.hid kc
        have g1 : ¬ r < 0 := by omega
        have g2 : ¬ r ≥ E := by omega
        have g3 : decide (r < 0) = false := decide_eq_false g1
        have g4 : decide (r ≥ E) = false := decide_eq_false g2
        have g5 : decide (E ≤ r) = false := decide_eq_false g2
        clear kc hcf hE hrb hr HR HRB
        go_wp2_with fail
        refine (KC.out _).mono ?_
        rintro e z1 ⟨rfl, hb⟩
        have D1 := Lib.hid hb
        clear hb KC
        go_wp2_with fail
        go_meet
        case rel => exact D1
    case rest => as_aux_lemma =>
      clear HR HRB HM0 hl0 e4 e5 ZF
      obtain ⟨x12, hxx⟩ : ∃ x, x = wc := ⟨_, rfl⟩
      subst hxx
      have C12 := Lib.hid (below_trans C11.out hcut.out)
      clear hcut C11
      have HDR := Lib.hid (drawEckList_c x12 more ms0 (argY_below HMS0.out C12.out))
      go_wp2_with fail
      refine HDR.out.mono ?_
      rintro e x13 ⟨ux, xs, k, rfl, ha, hb⟩
      have ZX := Lib.hid ha
      have C13 := Lib.hid (below_trans C12.out hb)
      clear hb C12 ha HDR
      obtain ⟨A1, T1, rfl, hT1, hl1⟩ := argL_slice ZX.out
      obtain ⟨M1, hM1⟩ : ∃ N, N = xs.length := ⟨_, rfl⟩
      rw [← hM1] at hl1 ZX ⊢
      have HM1 := Lib.hid hM1
      clear hM1 hT1
      obtain ⟨z5, hz5⟩ : ∃ z, z = ebB xs k 1000 := ⟨_, rfl⟩
      obtain ⟨E, hE⟩ : ∃ E, E = (ebO xs k 1000).getD [] := ⟨_, rfl⟩
      have kA := fun (W : World) (u : Value) (ha : ArgL W u xs) => implEckList_arg W u xs k ha
      have kB := fun (W : World) (u : Value) (ha : ArgL W u xs) => specEckList_arg W u xs k ha
      unfold IntsAOk at kA kB
      rw [ebO_some, ← hE, ← hz5] at kA kB
      have KA := Lib.hid kA; have KB := Lib.hid kB; have HZ5 := Lib.hid hz5; have HE := Lib.hid hE
      clear kA kB hz5 hE
      go_wp2_with fail
      refine (KA.out _ _ ZX.out).mono ?_
      rintro e x14 ⟨v3, rfl, ha, hb, _⟩
      replace ZX := Lib.hid (argL_below ZX.out hb)
      have E1 := Lib.hid ha
      have C14 := Lib.hid (below_trans C13.out hb)
      clear hb C13 ha KA
      go_wp2_with fail
      refine (KB.out _ _ ZX.out).mono ?_
      rintro e x15 ⟨v4, rfl, ha, hb, _⟩
      replace ZX := Lib.hid (argL_below ZX.out hb)
      replace E1 := Lib.hid (intsA_below E1.out hb)
      have E2 := Lib.hid ha
      have C15 := Lib.hid (below_trans C14.out hb)
      clear hb C14 ha KB
      have HDR := Lib.hid (drawEckNumber_c x15 more ms0 (argY_below HMS0.out C15.out))
      go_wp2_with fail
      refine HDR.out.mono ?_
      rintro e x16 ⟨ul, ls, pa, rfl, ha, hb⟩
      replace ZX := Lib.hid (argL_below ZX.out hb)
      replace E1 := Lib.hid (intsA_below E1.out hb)
      replace E2 := Lib.hid (intsA_below E2.out hb)
      have ZL := Lib.hid ha
      have C16 := Lib.hid (below_trans C15.out hb)
      clear hb C15 ha HDR
      obtain ⟨z7, hz7⟩ : ∃ z, z = ebB ls pa 5000 := ⟨_, rfl⟩
      obtain ⟨nu, hnu⟩ : ∃ z, z = enV ls pa := ⟨_, rfl⟩
      obtain ⟨ze, hze⟩ : ∃ z, z = ezV ls pa := ⟨_, rfl⟩
      have kA := fun (W : World) (u : Value) (ha : ArgL W u ls) => implEckNumber_arg W u ls pa ha
      have kB := fun (W : World) (u : Value) (ha : ArgL W u ls) => specEckNumber_arg W u ls pa ha
      have kC := fun (W : World) (u : Value) (ha : ArgL W u ls) => implEckZeros_arg W u ls pa ha
      have kD := fun (W : World) (u : Value) (ha : ArgL W u ls) => specEckZeros_arg W u ls pa ha
      rw [← hz7, ← hnu] at kA kB
      rw [← hz7, ← hze] at kC kD
      have KA := Lib.hid kA; have KB := Lib.hid kB; have KC := Lib.hid kC; have KD := Lib.hid kD; have HZ7 := Lib.hid hz7; have HNU := Lib.hid hnu; have HZE := Lib.hid hze
      clear kA kB kC kD hz7 hnu hze
      go_wp2_with fail
      refine (KA.out _ _ ZL.out).mono ?_
      rintro e x17 ⟨rfl, hb⟩
      replace ZX := Lib.hid (argL_below ZX.out hb)
      replace E1 := Lib.hid (intsA_below E1.out hb)
      replace E2 := Lib.hid (intsA_below E2.out hb)
      replace ZL := Lib.hid (argL_below ZL.out hb)
      have C17 := Lib.hid (below_trans C16.out hb)
      clear hb C16 KA
      go_wp2_with fail
      refine (KB.out _ _ ZL.out).mono ?_
      rintro e x18 ⟨rfl, hb⟩
      replace ZX := Lib.hid (argL_below ZX.out hb)
      replace E1 := Lib.hid (intsA_below E1.out hb)
      replace E2 := Lib.hid (intsA_below E2.out hb)
      replace ZL := Lib.hid (argL_below ZL.out hb)
      have C18 := Lib.hid (below_trans C17.out hb)
      clear hb C17 KB
      go_wp2_with fail
      refine (KC.out _ _ ZL.out).mono ?_
      rintro e x19 ⟨rfl, hb⟩
      replace ZX := Lib.hid (argL_below ZX.out hb)
      replace E1 := Lib.hid (intsA_below E1.out hb)
      replace E2 := Lib.hid (intsA_below E2.out hb)
      replace ZL := Lib.hid (argL_below ZL.out hb)
      have C19 := Lib.hid (below_trans C18.out hb)
      clear hb C18 KC
      go_wp2_with fail
      refine (KD.out _ _ ZL.out).mono ?_
      rintro e x20 ⟨rfl, hb⟩
      replace ZX := Lib.hid (argL_below ZX.out hb)
      replace E1 := Lib.hid (intsA_below E1.out hb)
      replace E2 := Lib.hid (intsA_below E2.out hb)
      replace ZL := Lib.hid (argL_below ZL.out hb)
      have C20 := Lib.hid (below_trans C19.out hb)
      clear hb C19 KD
      have HDR := Lib.hid (drawEckFirst_c x20 more ms0 (argY_below HMS0.out C20.out))
      go_wp2_with fail
      refine HDR.out.mono ?_
      rintro e x21 ⟨up, ps, y, rfl, ha, hb⟩
      replace ZX := Lib.hid (argL_below ZX.out hb)
      replace E1 := Lib.hid (intsA_below E1.out hb)
      replace E2 := Lib.hid (intsA_below E2.out hb)
      replace ZL := Lib.hid (argL_below ZL.out hb)
      have ZP := Lib.hid ha
      have C21 := Lib.hid (below_trans C20.out hb)
      clear hb C20 ha HDR
      obtain ⟨fo, hfo⟩ : ∃ z, z = efO ps y := ⟨_, rfl⟩
      obtain ⟨fv, hfv⟩ : ∃ z, z = efV fo := ⟨_, rfl⟩
      obtain ⟨fb, hfb⟩ : ∃ z, z = fo.isSome := ⟨_, rfl⟩
      have kA := fun (W : World) (u : Value) (ha : ArgL W u ps) => implEckFirst_arg W u ps y ha
      have kB := fun (W : World) (u : Value) (ha : ArgL W u ps) => specEckFirst_arg W u ps y ha
      rw [← hfo, ← hfv, ← hfb] at kA kB
      have KA := Lib.hid kA; have KB := Lib.hid kB; have HFO := Lib.hid hfo; have HFV := Lib.hid hfv; have HFB := Lib.hid hfb
      clear kA kB hfo hfv hfb
      go_wp2_with fail
      refine (KA.out _ _ ZP.out).mono ?_
      rintro e x22 ⟨rfl, hb⟩
      replace ZX := Lib.hid (argL_below ZX.out hb)
      replace E1 := Lib.hid (intsA_below E1.out hb)
      replace E2 := Lib.hid (intsA_below E2.out hb)
      replace ZL := Lib.hid (argL_below ZL.out hb)
      replace ZP := Lib.hid (argL_below ZP.out hb)
      have C22 := Lib.hid (below_trans C21.out hb)
      clear hb C21 KA
      go_wp2_with fail
      refine (KB.out _ _ ZP.out).mono ?_
      rintro e x23 ⟨rfl, hb⟩
      replace ZX := Lib.hid (argL_below ZX.out hb)
      replace E1 := Lib.hid (intsA_below E1.out hb)
      replace E2 := Lib.hid (intsA_below E2.out hb)
      replace ZL := Lib.hid (argL_below ZL.out hb)
      replace ZP := Lib.hid (argL_below ZP.out hb)
      have C23 := Lib.hid (below_trans C22.out hb)
      clear hb C22 KB
      have HDR := Lib.hid (drawIsEck_c x23 more ms0 (argY_below HMS0.out C23.out))
      go_wp2_with fail
      refine HDR.out.mono ?_
      rintro e x24 ⟨us, ss, fr, rfl, ha, hb⟩
      replace ZX := Lib.hid (argL_below ZX.out hb)
      replace E1 := Lib.hid (intsA_below E1.out hb)
      replace E2 := Lib.hid (intsA_below E2.out hb)
      replace ZL := Lib.hid (argL_below ZL.out hb)
      replace ZP := Lib.hid (argL_below ZP.out hb)
      have ZS := Lib.hid ha
      have C24 := Lib.hid (below_trans C23.out hb)
      clear hb C23 ha HDR
      obtain ⟨iv, hiv⟩ : ∃ z, z = ieV ss fr := ⟨_, rfl⟩
      obtain ⟨ib, hib⟩ : ∃ z, z = ieB ss fr := ⟨_, rfl⟩
      have kA := fun (W : World) (u : Value) (ha : ArgL W u ss) => implIsEck_arg W u ss fr ha
      have kB := fun (W : World) (u : Value) (ha : ArgL W u ss) => specIsEck_arg W u ss fr ha
      rw [← hiv, ← hib] at kA kB
      have KA := Lib.hid kA; have KB := Lib.hid kB
      clear kA kB hiv hib
      go_wp2_with fail
      refine (KA.out _ _ ZS.out).mono ?_
      rintro e x25 ⟨rfl, hb⟩
      replace ZX := Lib.hid (argL_below ZX.out hb)
      replace E1 := Lib.hid (intsA_below E1.out hb)
      replace E2 := Lib.hid (intsA_below E2.out hb)
      replace ZL := Lib.hid (argL_below ZL.out hb)
      replace ZP := Lib.hid (argL_below ZP.out hb)
      replace ZS := Lib.hid (argL_below ZS.out hb)
      have C25 := Lib.hid (below_trans C24.out hb)
      clear hb C24 KA
      go_wp2_with fail
      refine (KB.out _ _ ZS.out).mono ?_
      rintro e x26 ⟨rfl, hb⟩
      replace ZX := Lib.hid (argL_below ZX.out hb)
      replace E1 := Lib.hid (intsA_below E1.out hb)
      replace E2 := Lib.hid (intsA_below E2.out hb)
      replace ZL := Lib.hid (argL_below ZL.out hb)
      replace ZP := Lib.hid (argL_below ZP.out hb)
      have C26 := Lib.hid (below_trans C25.out hb)
      clear hb C25 KB
      have e1 : (z5 != z5) = false := by simp
      have e2 : (z7 != z7) = false := by simp
      have e3 : (nu != nu) = false := by simp
      have e4 : (ze != ze) = false := by simp
      have e5 : (fb != fb) = false := by simp
      have e6 : (fv != fv) = false := by simp
      have e7 : (iv != iv) = false := by simp
      have e8 : (ib != ib) = false := by simp
      go_wp2_with fail
      refine (qSame_selfP _ _ _ _ _ _ E1.out E2.out).mono ?_
      rintro e x27 ⟨rfl, hb⟩
      replace ZX := Lib.hid (argL_below ZX.out hb)
      replace E1 := Lib.hid (intsA_below E1.out hb)
      replace ZL := Lib.hid (argL_below ZL.out hb)
      replace ZP := Lib.hid (argL_below ZP.out hb)
      have C27 := Lib.hid (below_trans C26.out hb)
      clear hb C26 e1 e2 e3 e4 e5 e6 e7 e8 ZS
      go_upto_if 357 with fail
      go_cut [] from 357 to 357 (fun wx => Hid (Below x27.heap.size x27 wx))
      case first => as_aux_lemma =>
        cases z5 with
        | false =>
          go_wp2_with fail
          go_meet
          case rel => exact below_refl _
        | true =>
          have hz5 := HZ5.out.symm
          have h0 := hz5
          unfold ebB at h0
          rw [Bool.and_eq_true, decide_eq_true_eq] at h0
          obtain ⟨hpl, hk1, hk9⟩ := h0
          obtain ⟨K, hK⟩ : ∃ K : Nat, k = (K : Int) := ⟨k.toNat, by omega⟩
          subst hK
          have hEu : E = upL (eckS xs) K := by rw [HE.out]; exact ebO_get hz5
          obtain ⟨hx1, hx60, _⟩ := plL_open hpl
          rw [← HM1.out] at hx1 hx60
          have hK1 : 1 ≤ K := by omega
          have hK9 : K ≤ 1000 := by omega
          obtain ⟨g0, o0, c0, Q0, hg0, hcl⟩ := argL_atM ZX.out HM1.out.symm hx1
          obtain ⟨q1, q2, q3⟩ : some ⟨g0, o0, none⟩ = A1 ∧ M1 = M1 ∧ c0 = T1 := by simpa only [Value.slice.injEq] using Q0.symm
          subst q1; subst q3; clear q2 Q0
          obtain ⟨g1, c1, rfl, hc1, hd1, hg1, hce⟩ := intsA_atM (N := K) E1.out (by rw [hEu, upL_len]) hK1
          have HCL := Lib.hid hcl; have HCE := Lib.hid hce; have HEU := Lib.hid hEu; have HPL := Lib.hid hpl
          have eK : ((K : Int) != (K : Int)) = false := by simp
          clear hcl hce hEu hpl hz5 hk1 hk9 HE HZ5 HZ7 HNU HZE HFO HFV HFB
          go_wp2_with fail
          go_loopw [364] (fun iv wr => ∃ i : Nat, i ≤ M1 ∧ iv = .int .i64 i ∧ Hid (Below x27.heap.size x27 wr)) (fun iv _ => M1 - (intOf iv).toNat)
          case atStart => exact ⟨0, Nat.zero_le _, rfl, below_refl _⟩
          case round => as_aux_lemma =>
            obtain ⟨i, hi, rfl, HW⟩ := hrel
            by_cases hlt : i < M1
            · have hil : i < xs.length := by rw [← HM1.out]; exact hlt
              obtain ⟨X, hX⟩ : ∃ X, X = eckS xs i := ⟨_, rfl⟩
              have b1 : xs[i]? = some X := by rw [hX, List.getElem?_eq_getElem hil, eckS_in hil]
              have d1 : wr.cell? ⟨g0, o0 + i, none⟩ = some (.int .i64 X) := (HW.out.cell (p := ⟨g0, o0 + i, none⟩) hg0).trans (HCL.out i X b1)
              by_cases hiK : i < K
              · obtain ⟨_, b2⟩ := eck_both (ns := xs) hil hiK
                rw [← HEU.out, ← hX] at b2
                have d2 : wr.cell? ⟨g1, i, none⟩ = some (.int .i64 X) := (HW.out.cell (p := ⟨g1, i, none⟩) hg1).trans (HCE.out i X b2)
                have eX : (X != X) = false := by simp
                have m1 : (i : Int) < (K : Int) := by omega
                clear b1 b2 hX
                go_wp2_with fail
                go_roundw
                case rel => exact ⟨i + 1, by omega, by go_num, HW⟩
                case measure => simp [intOf] <;> omega
              · have m1 : ¬ (i : Int) < (K : Int) := by omega
                clear b1 hX
                go_wp2_with fail
                go_roundw
                case rel => exact ⟨i + 1, by omega, by go_num, HW⟩
                case measure => simp [intOf] <;> omega
            · obtain rfl : i = M1 := by omega
              replace E1 := Lib.hid (intsA_below E1.out HW.out)
              replace ZX := Lib.hid (argL_below ZX.out HW.out)
              obtain ⟨y0, hy0⟩ : ∃ x, x = wr := ⟨_, rfl⟩
              subst hy0
              clear hlt hi
              go_upto_if 382 with fail
              go_cut [] from 382 to 382 (fun wx => Hid (Below y0.heap.size y0 wx))
              case first => as_aux_lemma =>
                by_cases h60 : (K : Int) ≤ 60
                · obtain ⟨s, hs⟩ : ∃ s : Nat, s = if i > K then K else i := ⟨_, rfl⟩
                  have hgo : ieB E (s : Int) = true → ieV E (s : Int) = true := by
                    rw [HEU.out]
                    exact eck_goes HPL.out (by rw [hs, HM1.out])
                  obtain ⟨b, hb⟩ : ∃ b, b = ieB E (s : Int) := ⟨_, rfl⟩
                  obtain ⟨v, hv⟩ : ∃ v, v = ieV E (s : Int) := ⟨_, rfl⟩
                  have kc := fun (W : World) (B : Nat) (u : Value) (ha : IntsA W B u E) => implIsEck_any W B u E (s : Int) ha
                  rw [← hb, ← hv] at kc
                  rw [← hb, ← hv] at hgo
                  have KC := Lib.hid kc; have HGO := Lib.hid hgo; have HS := Lib.hid hs
                  clear kc hgo hb hv hs
                  go_upto_if 387 with fail
                  go_cut [60] from 382 to 388 (fun u wx => u = .int .i64 (s : Int) ∧ wx = y0)
                  case first =>
                    by_cases hgt : (i : Int) > (K : Int)
                    · have e := HS.out
                      rw [if_pos (by omega)] at e
                      replace e := e.symm
                      subst e
                      go_wp2_with fail
                      go_meet
                      case rel => exact ⟨rfl, rfl⟩
                    · have e := HS.out
                      rw [if_neg (by omega)] at e
                      replace e := e.symm
                      subst e
                      go_wp2_with fail
                      go_meet
                      case rel => exact ⟨rfl, rfl⟩
                  case rest =>
                    obtain ⟨rfl, rfl⟩ := hcut
                    go_wp2_with fail
                    refine (KC.out _ _ _ E1.out).mono ?_
                    rintro e z1 ⟨rfl, hb⟩
                    have D1 := Lib.hid hb
                    clear hb KC
                    cases b with
                    | false =>
                      clear HGO
                      go_wp2_with fail
                      go_meet
                      case rel => exact D1
                    | true =>
                      have hvt := HGO.out rfl
                      subst hvt
                      clear HGO
                      go_wp2_with fail
                      go_meet
                      case rel => exact D1
                · go_wp2_with fail
                  go_meet
                  case rel => exact below_refl _
              case rest => as_aux_lemma =>
                replace E1 := Lib.hid (intsA_below E1.out hcut.out)
                replace ZX := Lib.hid (argL_below ZX.out hcut.out)
                have D0 := Lib.hid (below_trans HW.out hcut.out)
                clear hcut HW
                obtain ⟨y1, hy1⟩ : ∃ x, x = wc := ⟨_, rfl⟩
                subst hy1
                by_cases hgt : (K : Int) > 1
                · obtain ⟨r1, r2⟩ := eck_last (ns := xs) (K := K) HPL.out hK1 (by omega)
                  obtain ⟨J, hJ⟩ : ∃ J, J = K - 1 := ⟨_, rfl⟩
                  rw [← hJ] at r2
                  obtain ⟨X, hX⟩ : ∃ X, X = eckS xs J := ⟨_, rfl⟩
                  have b2 : E[J]? = some X := by
                    rw [HEU.out, hX, List.getElem?_eq_getElem (by rw [upL_len]; omega), upL_at (by omega)]
                  have d2 : y1.cell? ⟨g1, J, none⟩ = some (.int .i64 X) := (D0.out.cell (p := ⟨g1, J, none⟩) hg1).trans (HCE.out J X b2)
                  have kc := fun (W : World) (u : Value) (ha : ArgL W u xs) => implEckNumber_arg W u xs (K : Int) ha
                  rw [r1, r2, ← hX] at kc
                  have KC := Lib.hid kc
                  have eX : (X != X) = false := by simp
                  have eJ : (K : Int) - 1 = (J : Int) := by omega
                  have hJK : J < K := by omega
                  clear kc r1 r2 b2 hX hJ
                  go_wp2_with fail
                  refine (KC.out _ _ ZX.out).mono ?_
                  rintro e z1 ⟨rfl, hb⟩
                  have D1 := Lib.hid (below_trans D0.out hb)
                  have d3 : z1.cell? ⟨g1, J, none⟩ = some (.int .i64 X) := (hb.cell (p := ⟨g1, J, none⟩) (Nat.lt_of_lt_of_le hg1 D0.out.size)).trans d2
                  clear hb KC d2 D0
                  go_wp2_with fail
                  go_meet
                  case rel => exact D1
                · go_wp2_with fail
                  go_meet
                  case rel => exact D0
      case rest => as_aux_lemma =>
        clear HZ5 HE HM1 hl1 E1 ZX
        obtain ⟨x28, hxx⟩ : ∃ x, x = wc := ⟨_, rfl⟩
        subst hxx
        replace ZL := Lib.hid (argL_below ZL.out hcut.out)
        replace ZP := Lib.hid (argL_below ZP.out hcut.out)
        have C28 := Lib.hid (below_trans C27.out hcut.out)
        clear hcut C27
        obtain ⟨pb, hpb⟩ : ∃ b, b = (z7 && decide (pa > 1)) := ⟨_, rfl⟩
        have HPB := Lib.hid hpb
        clear hpb
        go_upto_region 66 with fail
        go_cut [423] from 419 to 423 (fun u wx => u = .bool pb ∧ wx = x28)
        case first =>
          cases z7 with
          | false =>
            have e : pb = false := HPB.out
            subst e
            go_wp2_with fail
            go_meet
            case rel => exact ⟨rfl, rfl⟩
          | true =>
            by_cases h1 : pa > 1
            · have e : pb = true := by rw [HPB.out, decide_eq_true h1]; rfl
              subst e
              go_wp2_with fail
              go_meet
              case rel => exact ⟨rfl, rfl⟩
            · have e : pb = false := by rw [HPB.out, decide_eq_false h1]; rfl
              subst e
              go_wp2_with fail
              go_meet
              case rel => exact ⟨rfl, rfl⟩
        case rest =>
          obtain ⟨rfl, hwq⟩ := hcut
          replace hwq := hwq.symm
          subst hwq
          go_upto_if 423 with fail
          go_cut [] from 423 to 423 (fun wx => Hid (Below x28.heap.size x28 wx))
          case first => as_aux_lemma =>
            cases pb with
            | false =>
              go_wp2_with fail
              go_meet
              case rel => exact below_refl _
            | true =>
              have hp := HPB.out.symm
              rw [Bool.and_eq_true, decide_eq_true_eq] at hp
              have hz7 : ebB ls pa 5000 = true := by rw [← HZ7.out]; exact hp.1
              have hpa := hp.2
              obtain ⟨r1, r2⟩ := eck_zeros ls pa hpa hz7
              have hb7 := hz7
              unfold ebB at hb7
              rw [Bool.and_eq_true, decide_eq_true_eq] at hb7
              have hpa9 := hb7.2.2
              have hbd := ezV_bd ls (pa - 1)
              rw [← HZE.out, ← HNU.out] at r2
              obtain ⟨be, hbe⟩ : ∃ b, b = ezV ls (pa - 1) := ⟨_, rfl⟩
              obtain ⟨qa, hqa⟩ : ∃ q, q = pa - 1 := ⟨_, rfl⟩
              have kc := fun (W : World) (u : Value) (ha : ArgL W u ls) => implEckZeros_arg W u ls (pa - 1) ha
              rw [r1, ← hbe] at kc
              rw [← hbe] at r2 hbd
              have KC := Lib.hid kc; have R2 := Lib.hid r2
              clear kc r1 r2 hz7 hp hb7 hbe hqa HZ7 HNU HZE HPB
              go_wp2_with fail
              refine (KC.out _ _ ZL.out).mono ?_
              rintro e z1 ⟨rfl, hb⟩
              have D1 := Lib.hid hb
              clear hb KC
              by_cases h0 : nu = 0
              · have q := R2.out
                rw [if_pos h0] at q
                have e1 : (nu == 0) = true := by rw [h0]; rfl
                have e2 : (ze != be + 1) = false := by rw [q]; simp
                clear q h0
                go_wp2_with fail
                go_meet
                case rel => exact D1
              · have q := R2.out
                rw [if_neg h0] at q
                have e1 : (nu == 0) = false := beq_eq_false_iff_ne.2 h0
                have e2 : (ze != be) = false := by rw [q]; simp
                have e3 : (ze != be + 0) = false := by rw [q]; simp
                clear q h0
                go_wp2_with fail
                go_meet
                case rel => exact D1
          case rest => as_aux_lemma =>
            replace ZP := Lib.hid (argL_below ZP.out hcut.out)
            have D0 := Lib.hid (below_trans C28.out hcut.out)
            clear hcut C28 ZL HZ7 HNU HZE HPB
            cases fb with
            | false =>
              go_wp2_with fail
              go_ret
              exact ⟨rfl, D0.out⟩
            | true =>
              obtain ⟨j, hj⟩ := Option.isSome_iff_exists.1 HFB.out.symm
              obtain ⟨r1, r2⟩ := eck_first (ns := ps) (y := y) (j := j) (by rw [← HFO.out, hj])
              rw [← hj, ← HFV.out] at r1 r2
              have kc := fun (W : World) (u : Value) (ha : ArgL W u ps) => implEckNumber_arg W u ps fv ha
              rw [r1, r2] at kc
              have KC := Lib.hid kc
              have ey : (y != y) = false := by simp
              clear kc r1 r2 hj HFO HFV HFB
              go_wp2_with fail
              refine (KC.out _ _ ZP.out).mono ?_
              rintro e z1 ⟨rfl, hb⟩
              have D1 := Lib.hid (below_trans D0.out hb)
              clear hb KC
              go_wp2_with fail
              go_ret
              exact ⟨rfl, D1.out⟩
end Go.Proofs.Ytpglkgpaaflikaa
