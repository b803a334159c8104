/- Law FnListsToldOfAll. (By tools/genue.py.) -/
import Derived.Test.YtkdoghopbefjfaaUg
import Derived.Deep.DeepCutAuto
import Derived.Deep.QuietTactic
import Derived.BigQuiet
namespace Go.Proofs.Ytkdoghopbefjfaa
open Go.RowKit Go.BigFrame Go.Deep
set_option linter.unusedSimpArgs false
set_option linter.unusedVariables false
set_option maxRecDepth 4000

set_option maxRecDepth 100000 in
set_option maxHeartbeats 16000000 in
theorem law_FnListsToldOfAll (ux : Value) (xs : List Int) (n : Int) (uw : Value) (ws : List Int) (tm : Int) (w : World) (h1 : ArgL w ux xs) (h2 : ArgL w uw ws) :
    Calls Try.prog 6 #[ux, .int .i64 n, uw, .int .i64 tm] w fun e w' => e = .returned (.bool true) ∧ Below w.heap.size w w' := by
  obtain ⟨A0, T0, rfl, hT0, hl0⟩ := argL_slice h1
  obtain ⟨M0, hM0⟩ : ∃ N, N = xs.length := ⟨_, rfl⟩
  rw [← hM0] at hl0 h1 ⊢
  obtain ⟨A1, T1, rfl, hT1, hl1⟩ := argL_slice h2
  obtain ⟨M1, hM1⟩ : ∃ N, N = ws.length := ⟨_, rfl⟩
  rw [← hM1] at hl1 h2 ⊢
  have ZX := Lib.hid h1; have ZW := Lib.hid h2; have HM0 := Lib.hid hM0
  clear h1 h2 hM0 hM1
  go_enter Try.func6, Try.ntmps6
  by_cases g0 : (M0 : Int) > 10000
  · go_wp2_with fail
    go_ret
    exact ⟨rfl, Below.refl _ _⟩
  by_cases g1 : (M1 : Int) > 10000
  · go_wp2_with fail
    go_ret
    exact ⟨rfl, Below.refl _ _⟩
  go_wp2_with fail
  obtain ⟨x0, hx0⟩ : ∃ x, x = w := ⟨_, rfl⟩
  subst hx0
  have C0 := Lib.hid (Below.refl x0.heap.size x0)
  clear g0 g1 hT0 hT1
  obtain ⟨K, hK⟩ : ∃ K, 1000000010 ≤ K := ⟨1000000010, Nat.le_refl _⟩
  obtain ⟨y, hy⟩ : ∃ y, y = tolL xs := ⟨_, rfl⟩
  obtain ⟨T, hT⟩ : ∃ L, L = (tellO xs).getD [] := ⟨_, rfl⟩
  obtain ⟨sb, hsb⟩ : ∃ y, y = selfB xs := ⟨_, rfl⟩
  obtain ⟨p0, hp0⟩ : ∃ y, y = tailN (loopTO K xs) := ⟨_, rfl⟩
  obtain ⟨c0, hc0⟩ : ∃ y, y = cycN (loopTO K xs) := ⟨_, rfl⟩
  have kA := fun (W : World) (u : Value) (ha : ArgL W u xs) => implTellList_arg W u xs ha
  have kB := fun (W : World) (u : Value) (ha : ArgL W u xs) => specTellList_arg W u xs ha
  have kC := fun (W : World) (u : Value) (ha : ArgL W u xs) => implIsSelfTold_arg W u xs ha
  have kD := fun (W : World) (u : Value) (ha : ArgL W u xs) => specIsSelfTold_arg W u xs ha
  have kE := fun (W : World) (u : Value) (ha : ArgL W u xs) => implLoopOfTelling_arg W u xs K hK ha
  have kF := fun (W : World) (u : Value) (ha : ArgL W u xs) => specLoopOfTelling_arg W u xs K hK ha
  unfold IntsAOk at kA kB
  unfold loopV at kE kF
  rw [tellO_some, ← hT, ← hy] at kA kB
  rw [← hsb, ← hy] at kC kD
  rw [loopTO_some K hK, ← hp0, ← hc0, ← hy] at kE kF
  have KA := Lib.hid kA
  have KB := Lib.hid kB
  have KC := Lib.hid kC
  have KD := Lib.hid kD
  have KE := Lib.hid kE
  have KF := Lib.hid kF
  have HY := Lib.hid hy; have HT := Lib.hid hT; have HSB := Lib.hid hsb; have HP0 := Lib.hid hp0; have HC0 := Lib.hid hc0; have HK := Lib.hid hK
  clear kA kB kC kD kE kF hy hT hsb hp0 hc0 hK
  go_wp2_with fail
  refine (KA.out _ _ ZX.out).mono ?_
  rintro e x1 ⟨v1, rfl, ha, hb, _⟩
  replace ZX := Lib.hid (argL_below ZX.out hb)
  replace ZW := Lib.hid (argL_below ZW.out hb)
  have T1 := Lib.hid ha
  have C1 := Lib.hid (below_trans C0.out hb)
  clear hb C0 ha KA
  go_wp2_with fail
  refine (KB.out _ _ ZX.out).mono ?_
  rintro e x2 ⟨v2, rfl, ha, hb, _⟩
  replace ZX := Lib.hid (argL_below ZX.out hb)
  replace ZW := Lib.hid (argL_below ZW.out hb)
  replace T1 := Lib.hid (intsA_below T1.out hb)
  have T2 := Lib.hid ha
  have C2 := Lib.hid (below_trans C1.out hb)
  clear hb C1 ha KB
  go_wp2_with fail
  refine (KC.out _ _ ZX.out).mono ?_
  rintro e x3 ⟨rfl, hb⟩
  replace ZX := Lib.hid (argL_below ZX.out hb)
  replace ZW := Lib.hid (argL_below ZW.out hb)
  replace T1 := Lib.hid (intsA_below T1.out hb)
  replace T2 := Lib.hid (intsA_below T2.out hb)
  have C3 := Lib.hid (below_trans C2.out hb)
  clear hb C2 KC
  go_wp2_with fail
  refine (KD.out _ _ ZX.out).mono ?_
  rintro e x4 ⟨rfl, hb⟩
  replace ZX := Lib.hid (argL_below ZX.out hb)
  replace ZW := Lib.hid (argL_below ZW.out hb)
  replace T1 := Lib.hid (intsA_below T1.out hb)
  replace T2 := Lib.hid (intsA_below T2.out hb)
  have C4 := Lib.hid (below_trans C3.out hb)
  clear hb C3 KD
  go_wp2_with fail
  refine (KE.out _ _ ZX.out).mono ?_
  rintro e x5 ⟨rfl, hb⟩
  replace ZX := Lib.hid (argL_below ZX.out hb)
  replace ZW := Lib.hid (argL_below ZW.out hb)
  replace T1 := Lib.hid (intsA_below T1.out hb)
  replace T2 := Lib.hid (intsA_below T2.out hb)
  have C5 := Lib.hid (below_trans C4.out hb)
  clear hb C4 KE
  go_wp2_with fail
  refine (KF.out _ _ ZX.out).mono ?_
  rintro e x6 ⟨rfl, hb⟩
  replace ZX := Lib.hid (argL_below ZX.out hb)
  replace ZW := Lib.hid (argL_below ZW.out hb)
  replace T1 := Lib.hid (intsA_below T1.out hb)
  replace T2 := Lib.hid (intsA_below T2.out hb)
  have C6 := Lib.hid (below_trans C5.out hb)
  clear hb C5 KF
  have e1 : (y != y) = false := by simp
  have e2 : (sb != sb) = false := by simp
  have e3 : (p0 != p0) = false := by simp
  have e4 : (c0 != c0) = false := by simp
  go_wp2_with fail
  refine (fSame_self _ _ _ _ (argL_of_intsA T1.out) (argL_of_intsA T2.out)).mono ?_
  rintro e x7 ⟨rfl, hb⟩
  replace ZX := Lib.hid (argL_below ZX.out hb)
  replace ZW := Lib.hid (argL_below ZW.out hb)
  replace T1 := Lib.hid (intsA_below T1.out hb)
  have C7 := Lib.hid (below_trans C6.out hb)
  clear hb C6 e1 e3 e4
  go_upto_if 135 with fail
  go_cut [] from 135 to 135 (fun wx => Hid (Below x7.heap.size x7 wx))
  case first => as_aux_lemma =>
    cases y with
    | false =>
      go_wp2_with fail
      go_meet
      case rel => exact below_refl _
    | true =>
      have hto := HY.out.symm
      obtain ⟨ns, rfl, h1, h9, hle⟩ := tolL_nat hto
      obtain ⟨N, hN⟩ : ∃ N, N = ns.length := ⟨_, rfl⟩
      have hM : M0 = N := by rw [HM0.out, ti_len, hN]
      subst hM
      have hTe : T = ti (tel M0 ns) := by rw [HT.out, tellO_ti hto, hN]; rfl
      subst hTe
      have hsb : decide (tel M0 ns = ns) = sb := by rw [HSB.out, selfB_ti hto, hN]
      have hst : selfT ns = sb := by rw [← hsb, hN]; rfl
      obtain ⟨pt, ct, hct1, hpc9, _, hp1, hc1, hloop, hfirst, hself⟩ := tell_loop h1 h9 hle K HK.out
      rw [← hN] at hloop hfirst
      rw [← HP0.out] at hp1
      rw [← HC0.out] at hc1
      subst hp1
      subst hc1
      obtain ⟨g0, o0, cp0, Q0, _, _, hg0, hcl⟩ := argT_at ZX.out hN.symm (by rw [hN]; exact h1)
      obtain ⟨q1, _, q3⟩ : some ⟨g0, o0, none⟩ = A0 ∧ M0 = M0 ∧ cp0 = T0 := by simpa only [Value.slice.injEq] using Q0.symm
      subst q1; subst q3; clear Q0
      obtain ⟨g1, cp1, rfl, hd1, hd9, hg1, _⟩ := intsT_at T1.out (tel_len M0 ns) (by rw [hN]; exact h1)
      have HN := Lib.hid hN; have HCL := Lib.hid hcl; have HLE := Lib.hid hle; have HLOOP := Lib.hid hloop; have HFIRST := Lib.hid hfirst; have HSELF := Lib.hid hself; have HSB' := Lib.hid hsb; have HST := Lib.hid hst; have HTO := Lib.hid hto
      have hM1 : 1 ≤ M0 := by rw [hN]; exact h1
      have hM9 : M0 ≤ 9 := by rw [hN]; exact h9
      clear hN hcl hle hloop hfirst hself hsb hst hto h1 h9 HY HT HSB HP0 HC0 HM0
      go_wp2_with fail
      go_loop [24, 140] (fun s iv => ∃ i q : Nat, i ≤ M0 ∧ iv = .int .i64 i ∧ s = .int .i64 (q : Int) ∧ q ≤ i ∧ Hid (q = inK M0 ns i)) (fun _ iv => M0 - (intOf iv).toNat)
      case atStart => exact ⟨0, 0, Nat.zero_le _, rfl, rfl, Nat.le_refl _, Lib.hid rfl⟩
      case round => as_aux_lemma =>
        obtain ⟨i, q, hi, rfl, rfl, hqi, HQ⟩ := hrel
        by_cases hlt : i < M0
        · have hil : i < ns.length := by rw [← HN.out]; exact hlt
          obtain ⟨X, hX⟩ : ∃ X, X = ns[i] := ⟨_, rfl⟩
          have b1 : ns[i]? = some X := by rw [hX]; exact List.getElem?_eq_getElem hil
          have d1 : x7.cell? ⟨g0, o0 + i, none⟩ = some (.int .i64 ((X : Nat) : Int)) := HCL.out i X b1
          have hstep : inK M0 ns (i + 1) = inK M0 ns i + if X < M0 then 1 else 0 := by show inK M0 ns i + (if ns.getD i 0 < M0 then 1 else 0) = _; rw [show ns.getD i 0 = X by rw [hX]; simp [List.getD, hil]]
          rw [← HQ.out] at hstep
          by_cases hx : X < M0
          · rw [if_pos hx] at hstep
            have m1 : (X : Int) < (M0 : Int) := by omega
            have HS := Lib.hid hstep
            clear hX b1 hstep hx
            go_wp2_with fail
            go_round
            case rel => exact ⟨i + 1, q + 1, by omega, by go_num, by go_num, by omega, Lib.hid HS.out.symm⟩
            case measure => simp [intOf] <;> omega
          · rw [if_neg hx] at hstep
            have m1 : ¬ (X : Int) < (M0 : Int) := by omega
            have HS := Lib.hid hstep
            clear hX b1 hstep hx
            go_wp2_with fail
            go_round
            case rel => exact ⟨i + 1, q, by omega, by go_num, rfl, by omega, Lib.hid HS.out.symm⟩
            case measure => simp [intOf] <;> omega
        · obtain rfl : i = M0 := by omega
          have hsum : (tel i ns).sum = q := by
            have := tel_sum_all i ns
            rw [← HN.out, ← HQ.out] at this
            exact this
          have kS := fun (W : World) (u : Value) (ha : ArgL W u (ti (tel i ns))) => fSum_any W u (tel i ns) ha (by rw [tel_len]; omega) (fun z hz => by have := tel_le i ns z hz; have := HN.out; omega)
          rw [hsum] at kS
          have kM := fun (W : World) (u v : Value) (ha : ArgL W u (ti (tel i ns))) (hb : ArgL W v (ti ns)) => fSame_any W u v _ _ ha hb
          rw [ti_iff, HSB'.out] at kM
          have KS := Lib.hid kS; have KM := Lib.hid kM
          have f1 : ((i : Int) != (i : Int)) = false := by simp
          have f2 : ((q : Int) != (q : Int)) = false := by simp
          have f3 : ¬ (ct : Int) < 1 := by omega
          have f4 : decide ((ct : Int) < 1) = false := decide_eq_false f3
          have f5 : ct ≠ 0 := by omega
          clear kS kM hsum hlt hi hqi HQ
          go_upto_region 20 with fail
          go_cut [181] from 150 to 181 (fun u wx => u = .bool false ∧ Hid (Below x7.heap.size x7 wx))
          case first => as_aux_lemma =>
            go_wp2_with fail
            refine (KS.out _ _ (argL_of_intsA T1.out)).mono ?_
            rintro e z1 ⟨rfl, rfl⟩
            go_wp2_with fail
            refine (KM.out _ _ _ (argL_of_intsA T1.out) ZX.out).mono ?_
            rintro e z2 ⟨rfl, m, rfl⟩
            have D1 := Lib.hid (belowN x7.heap.size x7 m)
            cases sb with
            | false =>
              go_wp2_with fail
              go_meet
              case rel => exact ⟨rfl, D1⟩
            | true =>
              obtain ⟨r1, r2⟩ := HSELF.out HST.out
              have s1 : ((pt : Int) != 0) = false := by rw [r1]; rfl
              have s2 : ((ct : Int) != 1) = false := by rw [r2]; rfl
              have R1 := Lib.hid r1; have R2 := Lib.hid r2
              clear r1 r2
              go_wp2_with fail
              go_meet
              case rel => exact ⟨rfl, D1⟩
          case rest => as_aux_lemma =>
            obtain ⟨rfl, E0⟩ := hcut
            obtain ⟨z0, hz0⟩ : ∃ x, x = wc := ⟨_, rfl⟩
            subst hz0
            replace ZX := Lib.hid (argL_below ZX.out E0.out)
            clear KS KM T1
            have hcl2 : ∀ j x, ns[j]? = some x → z0.cell? ⟨g0, o0 + j, none⟩ = some (.int .i64 ((x : Nat) : Int)) := fun j x hx => (E0.out.cell (p := ⟨g0, o0 + j, none⟩) hg0).trans (HCL.out j x hx)
            have HCL2 := Lib.hid hcl2
            clear hcl2 HCL
            go_upto_if 182 with fail
            go_cut [] from 182 to 182 (fun wx => wx = z0)
            case first => as_aux_lemma =>
              cases sb with
              | false =>
                go_wp2_with fail
                go_meet
                case rel => rfl
              | true =>
                obtain ⟨r1, r2⟩ := self_sums (by rw [← HN.out]; exact hM1) (by rw [← HN.out]; exact hM9) HLE.out HST.out
                rw [← HN.out] at r1 r2
                have kS := fun (W : World) (u : Value) (ha : ArgL W u (ti ns)) => fSum_any W u ns ha (by rw [← HN.out]; omega) (fun z hz => by have := HLE.out z hz; have := HN.out; omega)
                rw [r1] at kS
                have KS := Lib.hid kS; have R2 := Lib.hid r2
                clear kS r1 r2
                go_wp2_with fail
                go_loop [27, 185] (fun s iv => ∃ j q : Nat, j ≤ i ∧ iv = .int .i64 j ∧ s = .int .i64 (q : Int) ∧ Hid (q = wK ns j)) (fun _ iv => i - (intOf iv).toNat)
                case atStart => exact ⟨0, 0, Nat.zero_le _, rfl, rfl, Lib.hid rfl⟩
                case round => as_aux_lemma =>
                  obtain ⟨j, q2, hj, rfl, rfl, HQ⟩ := hrel
                  by_cases hlt : j < i
                  · have hjl : j < ns.length := by rw [← HN.out]; exact hlt
                    have hx9 := HLE.out _ (List.getElem_mem hjl)
                    rw [← HN.out] at hx9
                    obtain ⟨X, hX⟩ : ∃ X, X = ns[j] := ⟨_, rfl⟩
                    rw [← hX] at hx9
                    have b1 : ns[j]? = some X := by rw [hX]; exact List.getElem?_eq_getElem hjl
                    have d1 : z0.cell? ⟨g0, o0 + j, none⟩ = some (.int .i64 ((X : Nat) : Int)) := HCL2.out j X b1
                    have hstep : wK ns (j + 1) = wK ns j + j * X := by show wK ns j + j * ns.getD j 0 = _; rw [show ns.getD j 0 = X by rw [hX]; simp [List.getD, hjl]]
                    rw [← HQ.out] at hstep
                    have hbd := wK_le ns (fun x hx => by have := HLE.out x hx; have := HN.out; omega) j (by omega)
                    rw [← HQ.out] at hbd
                    have hmx : j * X ≤ 9 * 9 := Nat.mul_le_mul (by omega) (by omega)
                    obtain ⟨m, hm⟩ : ∃ m, m = j * X := ⟨_, rfl⟩
                    rw [← hm] at hstep hmx
                    have hmI : (j : Int) * (X : Int) = (m : Int) := by rw [hm]; push_cast; rfl
                    obtain ⟨q3, hq3⟩ : ∃ q3, q3 = q2 + m := ⟨_, rfl⟩
                    have hqI : (q2 : Int) + (m : Int) = (q3 : Int) := by omega
                    have hq9 : q3 ≤ 1000 := by omega
                    rw [← hq3] at hstep
                    have HS := Lib.hid hstep
                    clear hX b1 hstep hm hbd hq3
                    go_wp2_with fail
                    go_round
                    case rel => exact ⟨j + 1, q3, by omega, by go_num, by go_num, Lib.hid HS.out.symm⟩
                    case measure => simp [intOf] <;> omega
                  · obtain rfl : j = i := by omega
                    have hq : q2 = j := by rw [HQ.out, R2.out]
                    subst hq
                    go_wp2_with fail
                    refine (KS.out _ _ ZX.out).mono ?_
                    rintro e z1 ⟨rfl, rfl⟩
                    go_wp2_with fail
                    go_meet
                    case rel => rfl
            case rest => as_aux_lemma =>
              replace hcut := hcut.symm
              subst hcut
              clear HSELF HST HSB' e2
              have hpcI : (pt : Int) + (ct : Int) = ((pt + ct : Nat) : Int) := by omega
              obtain ⟨Sm, hSm⟩ : ∃ s, s = pt + ct := ⟨_, rfl⟩
              rw [← hSm] at hpcI
              have hloop := HLOOP.out; have hfirst := HFIRST.out
              rw [← hSm] at hloop hfirst
              have HLP := Lib.hid hloop; have HFS := Lib.hid hfirst
              have hptS : pt < Sm := by omega
              have hS9 : Sm ≤ 1000000001 := by omega
              clear hloop hfirst HLOOP HFIRST hSm HCL2
              go_upto_if 208 with fail
              go_cut [] from 208 to 208 (fun wx => Hid (Below z0.heap.size z0 wx))
              case first => as_aux_lemma =>
                by_cases h40 : (Sm : Int) ≤ 40
                · obtain ⟨R, hR⟩ : ∃ R, R = Sm + 1 := ⟨_, rfl⟩
                  have hRI : (Sm : Int) + 1 = (R : Int) := by omega
                  have hw : wayTO (ti ns) (Sm : Int) = some (rowsW i Sm ns) := by rw [wayTO_ti HTO.out ⟨by omega, h40⟩, Int.toNat_natCast, ← HN.out]
                  have kW := fun (W : World) (u : Value) (ha : ArgL W u (ti ns)) => implWayOfTelling_arg W u (ti ns) (Sm : Int) ha
                  unfold TellOk at kW
                  rw [hw] at kW
                  simp only [Option.isSome_some, Option.getD_some] at kW
                  have hrl : (rowsW i Sm ns).length = R := by rw [rowsW_len, hR]
                  have hSR : Sm < R := by omega
                  have hptR : pt < R := by omega
                  have h0R : 0 < R := by omega
                  have hR41 : R ≤ 41 := by omega
                  have KW := Lib.hid kW; have HRL := Lib.hid hrl
                  clear kW hw hrl hR
                  go_wp2_with fail
                  refine (KW.out _ _ ZX.out).mono ?_
                  rintro e z1 ⟨v3, vs3, rfl, ha, hb, _⟩
                  obtain ⟨g3, c3, rfl, hR9, hc3, hg3, hca⟩ := ra_at ha HRL.out (by omega)
                  have hrow : ∀ j, j < R → ∃ u, IntsA z1 z0.heap.size u (ti (itT i ns j)) ∧ z1.cell? ⟨g3, j, none⟩ = some u := fun j hj => by
                    obtain ⟨u, hu, hc⟩ := hca j (by rw [HRL.out]; exact hj)
                    rw [rowsW_it] at hu
                    exact ⟨u, hu, hc⟩
                  have ZX1 := Lib.hid (argL_below ZX.out hb)
                  have D1 := Lib.hid hb
                  have HROW := Lib.hid hrow
                  obtain ⟨up, hup, hcp⟩ := hrow pt hptR
                  obtain ⟨uS, huS, hcS⟩ := hrow Sm hSR
                  obtain ⟨u0, hu0, hc0⟩ := hrow 0 h0R
                  have k1 := fun (W : World) (hb : Below z1.heap.size z1 W) => fSame_any W up uS _ _ (argL_below (argL_of_intsA hup) hb) (argL_below (argL_of_intsA huS) hb)
                  rw [ti_iff, decide_eq_true HLP.out.symm] at k1
                  have k2 := fun (W : World) (hb : Below z1.heap.size z1 W) => fSame_any W u0 _ _ _ (argL_below (argL_of_intsA hu0) hb) (argL_below ZX1.out hb)
                  rw [ti_iff, decide_eq_true (show itT i ns 0 = ns from rfl)] at k2
                  have K1 := Lib.hid k1; have K2 := Lib.hid k2
                  have eR : ((R : Int) != (R : Int)) = false := by simp
                  clear k1 k2 hup huS hu0 hca hrow ha hb HRL KW
                  go_wp2_with fail
                  go_big_quiet (first | (go_at_call 18; with_reducible exact Calls.quiet_of (K1.out _ (belowN _ _ _))) | (go_at_call 18; with_reducible exact Calls.quiet_of (K2.out _ (belowN _ _ _))))
                  go_wp2_with fail
                  clear K1 K2 hcp hcS hc0
                  go_loopw [32] (fun iv wr => ∃ j : Nat, 1 ≤ j ∧ j ≤ R ∧ iv = .int .i64 j ∧ Hid (Below z1.heap.size z1 wr)) (fun iv _ => R - (intOf iv).toNat)
                  case atStart => exact ⟨1, Nat.le_refl _, h0R, rfl, Lib.hid (belowN _ _ _)⟩
                  case round => as_aux_lemma =>
                    obtain ⟨j, hj1, hjR, rfl, HW⟩ := hrel
                    by_cases hlt : j < R
                    · obtain ⟨J, hJ⟩ : ∃ J, J = j - 1 := ⟨_, rfl⟩
                      have eJ : (j : Int) - 1 = (J : Int) := by omega
                      have hJR : J < R := by omega
                      have hJ1 : j = J + 1 := by omega
                      obtain ⟨uJ, huJ, hcJ⟩ := HROW.out J hJR
                      obtain ⟨uj, huj, hcj⟩ := HROW.out j hlt
                      obtain ⟨uS, huS, hcS⟩ := HROW.out Sm hSR
                      have d1 : wr.cell? ⟨g3, J, none⟩ = some uJ := (HW.out.cell (p := ⟨g3, J, none⟩) hg3).trans hcJ
                      have htl := it_tell (L := i) (ns := ns) hM1 hM9 HN.out.symm (by have := HLE.out; rw [← HN.out] at this; exact this) J
                      rw [← hJ1] at htl
                      have kt := fun (W : World) (hb : Below z1.heap.size z1 W) => implTellList_any W z0.heap.size uJ _ (intsA_below huJ hb)
                      unfold IntsAOk at kt
                      rw [htl] at kt
                      simp only [Option.isSome_some, Option.getD_some] at kt
                      have KT := Lib.hid kt; have HUj := Lib.hid huj; have HUS := Lib.hid huS; have HJ1 := Lib.hid hJ1
                      have HCj := Lib.hid hcj; have HCS := Lib.hid hcS
                      clear kt htl huJ huj huS hcJ hcj hcS hJ hJ1
                      go_wp2_with fail
                      refine (KT.out _ HW.out).mono ?_
                      rintro e z3 ⟨v5, rfl, ha, hb, _⟩
                      have HW3 := Lib.hid (below_trans HW.out hb)
                      have d2 : z3.cell? ⟨g3, j, none⟩ = some uj := (HW3.out.cell (p := ⟨g3, j, none⟩) hg3).trans HCj.out
                      have d3 : z3.cell? ⟨g3, Sm, none⟩ = some uS := (HW3.out.cell (p := ⟨g3, Sm, none⟩) hg3).trans HCS.out
                      have k1 := fun (W : World) (hw : Below z3.heap.size z3 W) => fSame_any W v5 uj _ _ (argL_below (argL_of_intsA ha) hw) (argL_below (argL_of_intsA (intsA_below HUj.out HW3.out)) hw)
                      rw [decide_eq_true rfl] at k1
                      have k2 := fun (W : World) (hw : Below z3.heap.size z3 W) => fSame_any W uj uS _ _ (argL_below (argL_of_intsA (intsA_below HUj.out HW3.out)) hw) (argL_below (argL_of_intsA (intsA_below HUS.out HW3.out)) hw)
                      rw [ti_iff] at k2
                      have K1 := Lib.hid k1
                      clear k1 ha hb KT HCj HCS d1 HW
                      by_cases hjS : j < Sm
                      · have m1 : (j : Int) < (Sm : Int) := by omega
                        by_cases hbb : itT i ns j = itT i ns Sm
                        · have hjp : j = pt := HFS.out j hjS hbb
                          have m2 : ((j : Int) != (pt : Int)) = false := by rw [hjp]; simp
                          rw [decide_eq_true hbb] at k2
                          have K2 := Lib.hid k2
                          have HJP := Lib.hid hjp
                          clear k2 hbb hjp
                          go_wp2_with fail
                          go_big_quiet (first | (go_at_call 18; with_reducible exact Calls.quiet_of (K1.out _ (belowN _ _ _))) | (go_at_call 18; with_reducible exact Calls.quiet_of (K2.out _ (belowN _ _ _))))
                          go_wp2_with fail
                          go_roundw
                          case rel => exact ⟨j + 1, by omega, by omega, by go_num, HW3.out.trans (belowN _ _ _)⟩
                          case measure => simp [intOf] <;> omega
                        · rw [decide_eq_false hbb] at k2
                          have K2 := Lib.hid k2
                          clear k2 hbb
                          go_wp2_with fail
                          go_big_quiet (first | (go_at_call 18; with_reducible exact Calls.quiet_of (K1.out _ (belowN _ _ _))) | (go_at_call 18; with_reducible exact Calls.quiet_of (K2.out _ (belowN _ _ _))))
                          go_wp2_with fail
                          go_roundw
                          case rel => exact ⟨j + 1, by omega, by omega, by go_num, HW3.out.trans (belowN _ _ _)⟩
                          case measure => simp [intOf] <;> omega
                      · have m1 : ¬ (j : Int) < (Sm : Int) := by omega
                        clear k2
                        go_wp2_with fail
                        go_big_quiet (first | (go_at_call 18; with_reducible exact Calls.quiet_of (K1.out _ (belowN _ _ _))))
                        go_wp2_with fail
                        go_roundw
                        case rel => exact ⟨j + 1, by omega, by omega, by go_num, HW3.out.trans (belowN _ _ _)⟩
                        case measure => simp [intOf] <;> omega
                    · obtain rfl : j = R := by omega
                      go_wp2_with fail
                      go_meet
                      case rel => exact Lib.hid (below_trans D1.out HW.out)
                · go_wp2_with fail
                  go_meet
                  case rel => exact below_refl _
              case rest => as_aux_lemma =>
                go_wp2_with fail
                go_meet
                case rel => exact Lib.hid (below_trans E0.out hcut.out)
  case rest => as_aux_lemma =>
    clear T1 HY HT HSB HP0 HC0 HM0 HK e2 hl0 ZX
    obtain ⟨x8, hxx⟩ : ∃ x, x = wc := ⟨_, rfl⟩
    subst hxx
    replace ZW := Lib.hid (argL_below ZW.out hcut.out)
    have C8 := Lib.hid (below_trans C7.out hcut.out)
    clear hcut C7
    obtain ⟨s5, hs5⟩ : ∃ b, b = (selfO n).isSome := ⟨_, rfl⟩
    obtain ⟨LL, hLL⟩ : ∃ L, L = (selfO n).getD [] := ⟨_, rfl⟩
    obtain ⟨cn, hcn⟩ : ∃ c, c = cntO n := ⟨_, rfl⟩
    have kA := fun (W : World) => implAllSelfTold_any W n
    have kB := fun (W : World) => specAllSelfTold_any W n
    have kC := fun (W : World) => implCountSelfTold_any W n
    have kD := fun (W : World) => specCountSelfTold_any W n
    unfold TellOk at kA kB
    rw [← hs5, ← hLL] at kA kB
    rw [← hs5, ← hcn] at kC kD
    have KA := Lib.hid kA; have KB := Lib.hid kB; have KC := Lib.hid kC; have KD := Lib.hid kD; have HS5 := Lib.hid hs5; have HLL := Lib.hid hLL; have HCN := Lib.hid hcn
    clear kA kB kC kD hs5 hLL hcn
    go_wp2_with fail
    refine (KA.out _).mono ?_
    rintro e x9 ⟨v3, vs3, rfl, ha, hb, _⟩
    replace ZW := Lib.hid (argL_below ZW.out hb)
    have RA := Lib.hid ha
    have C9 := Lib.hid (below_trans C8.out hb)
    clear hb C8 ha KA
    go_wp2_with fail
    refine (KB.out _).mono ?_
    rintro e x10 ⟨v4, vs4, rfl, ha, hb, _⟩
    replace ZW := Lib.hid (argL_below ZW.out hb)
    replace RA := Lib.hid (intsRA_below RA.out hb)
    have RB := Lib.hid ha
    have C10 := Lib.hid (below_trans C9.out hb)
    clear hb C9 ha KB
    go_wp2_with fail
    refine (KC.out _).mono ?_
    rintro e x11 ⟨rfl, hb⟩
    replace ZW := Lib.hid (argL_below ZW.out hb)
    replace RA := Lib.hid (intsRA_below RA.out hb)
    replace RB := Lib.hid (intsRA_below RB.out hb)
    have C11 := Lib.hid (below_trans C10.out hb)
    clear hb C10 KC
    go_wp2_with fail
    refine (KD.out _).mono ?_
    rintro e x12 ⟨rfl, hb⟩
    replace ZW := Lib.hid (argL_below ZW.out hb)
    replace RA := Lib.hid (intsRA_below RA.out hb)
    replace RB := Lib.hid (intsRA_below RB.out hb)
    have C12 := Lib.hid (below_trans C11.out hb)
    clear hb C11 KD
    have e1 : (s5 != s5) = false := by simp
    have e2 : (cn != cn) = false := by simp
    go_wp2_with fail
    refine (fLists_same _ _ _ _ _ _ _ _ RA.out RB.out).mono ?_
    rintro e x13 ⟨rfl, hb⟩
    replace ZW := Lib.hid (argL_below ZW.out hb)
    replace RA := Lib.hid (intsRA_below RA.out hb)
    have C13 := Lib.hid (below_trans C12.out hb)
    clear hb C12 e1 e2
    go_upto_if 345 with fail
    go_cut [] from 345 to 345 (fun wx => Hid (Below x13.heap.size x13 wx))
    case first => as_aux_lemma =>
      cases s5 with
      | false =>
        go_wp2_with fail
        go_meet
        case rel => exact below_refl _
      | true =>
        have hn : 1 ≤ n ∧ n ≤ 9 := by
          have h := HS5.out
          unfold selfO at h
          split at h
          · assumption
          · cases h
        obtain ⟨N2, hN2⟩ : ∃ m : Nat, n = (m : Int) := ⟨n.toNat, by omega⟩
        subst hN2
        have h1 : 1 ≤ N2 := by omega
        have h9 : N2 ≤ 9 := by omega
        have hN10 : N2 < 10 := by omega
        have hLe : LL = (selE N2).map ti := by rw [HLL.out, selfO_is h1 h9]; rfl
        obtain ⟨E, hE⟩ : ∃ E, E = (selE N2).length := ⟨_, rfl⟩
        have hLl : LL.length = E := by rw [hLe, hE, List.length_map]
        have hcnE : cn = (E : Int) := by rw [HCN.out]; unfold cntO; rw [← HLL.out, hLl]
        subst hcnE
        have hE7 : 7 ≤ N2 → E = 1 := fun h => by rw [hE]; exact (selE_head ⟨N2, by omega⟩ h).1
        have hE4 : N2 < 4 → E = 0 := fun h => by rw [hE]; exact selE_none ⟨N2, by omega⟩ h
        have hE2 : E ≤ 2 := by rw [hE]; exact selE_few ⟨N2, by omega⟩
        have hat : ∀ j (h : j < LL.length), ∃ l, LL[j] = ti l ∧ selfB (ti l) = true ∧ tolL (ti l) = true ∧ l.length = N2 ∧ (∀ hj : 0 < j, lesT (LL[j - 1]'(Nat.lt_of_le_of_lt (Nat.sub_le _ _) h)) (ti l) = true) ∧ (j = 0 → l = (selE N2).getD 0 []) := by
          subst hLe
          intro j h
          have h' : j < (selE N2).length := by rw [List.length_map] at h; exact h
          obtain ⟨q1, q2, q3, q4, _⟩ := selChk_at N2 (selE N2) 0 [] (selE_chk ⟨N2, by omega⟩) j h'
          refine ⟨(selE N2)[j], by rw [List.getElem_map], q1, q2, q3, fun hj => by rw [List.getElem_map]; exact q4 hj, fun hj => by subst hj; simp [List.getD, h']⟩
        obtain ⟨A3, c3, rfl, hE9, hca⟩ := ra_gen RA.out hLl
        have HCA := Lib.hid hca; have HAT := Lib.hid hat; have HLEN := Lib.hid hLl; have HE7 := Lib.hid hE7
        have eE : ((E : Int) != (E : Int)) = false := by simp
        clear hca hat hLl hLe hE HLL HCN HS5 hn
        go_upto_region 48 with fail
        go_cut [365] from 346 to 365 (fun u wx => u = .bool false ∧ wx = x13)
        case first => as_aux_lemma =>
          by_cases h7 : (N2 : Int) ≥ 7
          · have q := hE7 (by omega)
            have s1 : ((E : Int) != 1) = false := by rw [q]; rfl
            have s2 : ¬ (N2 : Int) < 4 := by omega
            clear hE7 hE4 q
            go_wp2_with fail
            go_meet
            case rel => exact ⟨rfl, rfl⟩
          · by_cases h4 : (N2 : Int) < 4
            · have q := hE4 (by omega)
              have s1 : ((E : Int) != 0) = false := by rw [q]; rfl
              clear hE7 hE4 q
              go_wp2_with fail
              go_meet
              case rel => exact ⟨rfl, rfl⟩
            · clear hE7 hE4
              go_wp2_with fail
              go_meet
              case rel => exact ⟨rfl, rfl⟩
        case rest => as_aux_lemma =>
          obtain ⟨rfl, hwq⟩ := hcut
          replace hwq := hwq.symm
          subst hwq
          clear hE7 hE4
          go_wp2_with fail
          go_loopw [368] (fun iv wr => ∃ i : Nat, i ≤ E ∧ iv = .int .i64 i ∧ Hid (Below x13.heap.size x13 wr)) (fun iv _ => E - (intOf iv).toNat)
          case atStart => exact ⟨0, Nat.zero_le _, rfl, below_refl _⟩
          case round => as_aux_lemma =>
            obtain ⟨i, hi, rfl, HW⟩ := hrel
            by_cases hlt : i < E
            · have hil : i < LL.length := by rw [HLEN.out]; exact hlt
              obtain ⟨g, u, hA, hg, hu, hc⟩ := HCA.out i hil
              obtain ⟨l, q0, q1, q2, q3, q4, _⟩ := HAT.out i hil
              rw [q0] at hu
              have d1 : wr.cell? ⟨g, i, none⟩ = some u := (HW.out.cell (p := ⟨g, i, none⟩) hg).trans hc
              obtain ⟨gu, cu, rfl, hcu, hMc, hgu, _⟩ := intsT_at hu q3 h1
              have hUW : ∀ W : World, Below x13.heap.size x13 W → IntsA W _ (.slice (some ⟨gu, 0, none⟩) N2 cu) (ti l) := fun W hb => intsA_below hu hb
              have k1 := fun (W : World) (hb : Below x13.heap.size x13 W) => implIsSelfTold_any W _ _ (ti l) (hUW W hb)
              rw [q1, q2] at k1
              have K1 := Lib.hid k1; have HU := Lib.hid hUW; have Q4 := Lib.hid q4; have Q3 := Lib.hid q3
              have eM : ((N2 : Int) != (N2 : Int)) = false := by simp
              clear k1 hUW hc hu q0 q1 q2 q3 q4
              subst hA
              go_wp2_with fail
              refine (K1.out _ HW.out).mono ?_
              rintro e z2 ⟨rfl, hb⟩
              have HW2 := Lib.hid (below_trans HW.out hb); clear hb K1
              by_cases h0 : i = 0
              · have e2 : ¬ (i : Int) > 0 := by omega
                have e3 : ¬ 0 < i := by omega
                have H0 := Lib.hid h0
                clear h0
                go_wp2_with fail
                go_roundw
                case rel => exact ⟨i + 1, by omega, by go_num, HW2⟩
                case measure => simp [intOf] <;> omega
              · obtain ⟨J, hJ⟩ : ∃ J, J = i - 1 := ⟨_, rfl⟩
                have hJl : J < LL.length := by omega
                have e2 : (i : Int) > 0 := by omega
                have e3 : 0 < i := by omega
                have eJ : (i : Int) - 1 = (J : Int) := by omega
                have hJN : J < E := by omega
                obtain ⟨g', u', hA', _, hu', hc'⟩ := HCA.out J hJl
                obtain rfl : g = g' := by injection hA' with hA'; injection hA'
                obtain ⟨l', p0, _, _, p3, _⟩ := HAT.out J hJl
                have hles := Q4.out (by omega)
                have hJ1 : LL[i - 1]'(by omega) = LL[J] := by congr 1; omega
                rw [hJ1, p0] at hles
                rw [p0] at hu'
                have d2 : z2.cell? ⟨g, J, none⟩ = some u' := (HW2.out.cell (p := ⟨g, J, none⟩) hg).trans hc'
                have k3 := fLess_true z2 u' (.slice (some ⟨gu, 0, none⟩) N2 cu) (ti l') (ti l) (argL_of_intsA (intsA_below hu' HW2.out)) (argL_of_intsA (HU.out z2 HW2.out)) (by rw [ti_len, ti_len, p3, Q3.out]) hles (by rw [ti_len, p3]; exact h1)
                have K3 := Lib.hid k3
                have HJ := Lib.hid hJ
                clear k3 hles hJ1 hu' hc' p0 p3 hJ hA'
                go_wp2_with fail
                refine K3.out.mono ?_
                rintro e z4 ⟨rfl, hb⟩
                have HW4 := Lib.hid (below_trans HW2.out hb); clear hb HW2 K3
                go_wp2_with fail
                go_roundw
                case rel => exact ⟨i + 1, by omega, by go_num, HW4⟩
                case measure => simp [intOf] <;> omega
            · obtain rfl : i = E := by omega
              by_cases h7 : (N2 : Int) ≥ 7
              · have hi1 := HE7.out (by omega)
                have h0l : 0 < LL.length := by rw [HLEN.out, hi1]; exact Nat.one_pos
                obtain ⟨g, u, hA, hg, hu, hc⟩ := HCA.out 0 h0l
                obtain ⟨l, q0, q1, q2, q3, q4, q5⟩ := HAT.out 0 h0l
                rw [q0] at hu
                have hl0 := q5 rfl
                have h77 : 7 ≤ N2 := by omega
                obtain ⟨rr, r0, r1, r2, r3⟩ := selE_head ⟨N2, hN10⟩ h77
                rw [← hl0] at r0 r1 r2 r3
                obtain ⟨Q, hQ⟩ : ∃ Q, Q = N2 - 4 := ⟨_, rfl⟩
                have eQ : (N2 : Int) - 4 = (Q : Int) := by omega
                have hQN : Q < N2 := by omega
                obtain ⟨gu, cu, rfl, hcu, hMc, hgu, hcl⟩ := intsT_at hu q3 h1
                have d0 : wr.cell? ⟨g, 0, none⟩ = some (.slice (some ⟨gu, 0, none⟩) N2 cu) := (HW.out.cell (p := ⟨g, 0, none⟩) hg).trans hc
                have d1 : wr.cell? ⟨gu, 0, none⟩ = some (.int .i64 (Q : Int)) := (HW.out.cell (p := ⟨gu, 0, none⟩) hgu).trans (hcl 0 Q (by rw [hQ]; exact r0))
                have d2 : wr.cell? ⟨gu, 1, none⟩ = some (.int .i64 2) := (HW.out.cell (p := ⟨gu, 1, none⟩) hgu).trans (hcl 1 2 r1)
                have d3 : wr.cell? ⟨gu, 2, none⟩ = some (.int .i64 1) := (HW.out.cell (p := ⟨gu, 2, none⟩) hgu).trans (hcl 2 1 r2)
                have d4 : wr.cell? ⟨gu, Q, none⟩ = some (.int .i64 1) := (HW.out.cell (p := ⟨gu, Q, none⟩) hgu).trans (hcl Q 1 (by rw [hQ]; exact r3))
                have eQQ : ((Q : Int) != (Q : Int)) = false := by simp
                have b0 : 0 < N2 := by omega
                have b1 : (1 : Int) < (N2 : Int) := by omega
                have b2 : (2 : Int) < (N2 : Int) := by omega
                have b1n : 1 < N2 := by omega
                have b2n : 2 < N2 := by omega
                have b3 : (0 : Int) < (N2 : Int) := by omega
                have b4 : 0 < i := by omega
                have b5 : (0 : Int) < (i : Int) := by omega
                have HI1 := Lib.hid hi1
                clear hcl hc hu rr r0 r1 r2 r3 hl0 q4 q0 q1 q2 q3 q5 hQ hi1
                subst hA
                go_wp2_with fail
                go_meet
                case rel => exact HW
              · go_wp2_with fail
                go_meet
                case rel => exact HW
    case rest => as_aux_lemma =>
      clear HS5 HLL HCN RA
      obtain ⟨x14, hxx⟩ : ∃ x, x = wc := ⟨_, rfl⟩
      subst hxx
      replace ZW := Lib.hid (argL_below ZW.out hcut.out)
      have C14 := Lib.hid (below_trans C13.out hcut.out)
      clear hcut C13
      obtain ⟨z9, hz9⟩ : ∃ z, z = (wayTO ws tm).isSome := ⟨_, rfl⟩
      obtain ⟨L9, hL9⟩ : ∃ L, L = (wayTO ws tm).getD [] := ⟨_, rfl⟩
      have kA := fun (W : World) (u : Value) (ha : ArgL W u ws) => implWayOfTelling_arg W u ws tm ha
      have kB := fun (W : World) (u : Value) (ha : ArgL W u ws) => specWayOfTelling_arg W u ws tm ha
      unfold TellOk at kA kB
      rw [← hz9, ← hL9] at kA kB
      have KA := Lib.hid kA; have KB := Lib.hid kB
      clear kA kB hz9 hL9
      go_wp2_with fail
      refine (KA.out _ _ ZW.out).mono ?_
      rintro e x15 ⟨v6, vs6, rfl, ha, hb, _⟩
      replace ZW := Lib.hid (argL_below ZW.out hb)
      have RA := Lib.hid ha
      have C15 := Lib.hid (below_trans C14.out hb)
      clear hb C14 ha KA
      go_wp2_with fail
      refine (KB.out _ _ ZW.out).mono ?_
      rintro e x16 ⟨v7, vs7, rfl, ha, hb, _⟩
      replace ZW := Lib.hid (argL_below ZW.out hb)
      replace RA := Lib.hid (intsRA_below RA.out hb)
      have RB := Lib.hid ha
      have C16 := Lib.hid (below_trans C15.out hb)
      clear hb C15 ha KB
      have e1 : (z9 == z9) = true := by simp
      go_wp2_with fail
      refine (fLists_same _ _ _ _ _ _ _ _ RA.out RB.out).mono ?_
      rintro e x17 ⟨rfl, hb⟩
      replace ZW := Lib.hid (argL_below ZW.out hb)
      have C17 := Lib.hid (below_trans C16.out hb)
      clear hb C16 
      go_wp2_with fail
      go_ret
      exact ⟨rfl, C17.out⟩
end Go.Proofs.Ytkdoghopbefjfaa