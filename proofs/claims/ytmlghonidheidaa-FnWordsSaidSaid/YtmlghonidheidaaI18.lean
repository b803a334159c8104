/- WordOfRuns at an argument [][]int that lies anywhere (by tools/gen18.py out of XI10, XI15, XI9). -/
import Derived.Test.YtmlghonidheidaaI16
import Derived.Test.YtmlghonidheidaaE1
import Derived.Test.YtmlghonidheidaaI12
import Derived.Test.YtmlghonidheidaaI8
import Derived.Test.YtmlghonidheidaaI9
import Derived.Test.YtmlghonidheidaaI10
import Derived.Test.YtmlghonidheidaaI15
namespace Go.Proofs.Ytmlghonidheidaa
open Go.RowKit Go.BigFrame

set_option linter.unusedSimpArgs false
set_option linter.unusedVariables false

theorem argI_open {w : World} {u : Value} {ns : List Int} (h : ArgI w u ns) : (∃ A C, u = .slice A 0 C ∧ ns = []) ∨
    ∃ g o cap, u = .slice (some ⟨g, o, none⟩) ns.length cap ∧ ns.length ≤ cap ∧ cap ≤ 9223372036854775807 ∧ g < w.heap.size ∧ 0 < ns.length ∧
      ∀ i (hi : i < ns.length), w.cell? ⟨g, o + i, none⟩ = some (.int .i64 ns[i]) := by
  obtain ⟨A, C, h1, h2, h3, h4⟩ := h
  by_cases h0 : 0 < ns.length
  · obtain ⟨b, o, e1, e2, e3⟩ := h4 0 h0
    subst e1
    refine .inr ⟨b, o, C, h1, h2, h3, e2, h0, fun i hi => ?_⟩
    obtain ⟨b', o', f1, f2, f3⟩ := h4 i hi
    cases f1
    exact f3
  · have : ns = [] := List.eq_nil_of_length_eq_zero (by omega)
    subst this
    exact .inl ⟨A, C, h1, rfl⟩
theorem argR_open {w : World} {v : Value} {nss : List (List Int)} (h : ArgR w v nss) : (∃ A C, v = .slice A 0 C ∧ nss = []) ∨
    ∃ g o cap, v = .slice (some ⟨g, o, none⟩) nss.length cap ∧ nss.length ≤ cap ∧ cap ≤ 9223372036854775807 ∧ g < w.heap.size ∧ 0 < nss.length ∧
      ∀ i (hi : i < nss.length), ∃ u, ArgI w u nss[i] ∧ w.cell? ⟨g, o + i, none⟩ = some u := by
  obtain ⟨A, C, h1, h2, h3, h4⟩ := h
  by_cases h0 : 0 < nss.length
  · obtain ⟨b, o, u, e1, e2, e3, _⟩ := h4 0 h0
    subst e1
    refine .inr ⟨b, o, C, h1, h2, h3, e2, h0, fun i hi => ?_⟩
    obtain ⟨b', o', u', f1, f2, f3, f4⟩ := h4 i hi
    cases f1
    exact ⟨u', f4, f3⟩
  · have : nss = [] := List.eq_nil_of_length_eq_zero (by omega)
    subst this
    exact .inl ⟨A, C, h1, rfl⟩

theorem isRun_arg (w : World) (u : Value) (row : List Int) (ha : ArgI w u row) :
    Calls Try.prog 49 #[u] w fun e w' => e = .returned (.bool (isRunB row)) ∧ w = w' := by
  rcases argI_open ha with ⟨A, C, rfl, rfl⟩ | ⟨g, o, cap, rfl, hn, hcp, hg, _, hca⟩
  · clear ha
    go_enter Try.func49, Try.ntmps49
    go_wp2_with fail
    go_ret
    exact ⟨rfl, rfl⟩
  · by_cases h2 : row.length = 2
    · obtain ⟨x, y, rfl⟩ : ∃ x y, row = [x, y] := by
        match row, h2 with
        | [x, y], _ => exact ⟨x, y, rfl⟩
      have c0 : w.cell? ⟨g, o, none⟩ = some (.int .i64 x) := hca 0 (by simp)
      have c1 : w.cell? ⟨g, o + 1, none⟩ = some (.int .i64 y) := hca 1 (by simp)
      have hv : isRunB [x, y] = (decide (1 ≤ x ∧ x ≤ 9) && decide (1 ≤ y)) := by
        unfold isRunB
        simp only [List.getD_cons_zero, List.getD_cons_succ, List.length_cons, List.length_nil]
        rw [Bool.eq_iff_iff]; simp; omega
      have HV := Lib.hid hv
      clear ha hca hv h2
      simp only [List.length_cons, List.length_nil, Nat.zero_add] at hn ⊢
      cases hx : decide (1 ≤ x ∧ x ≤ 9) with
      | false =>
        have HX := Lib.hid hx; clear hx
        go_enter Try.func49, Try.ntmps49
        go_wp2_with fail
        refine (isDigit9_is false _ _ HX.out).mono ?_
        rintro e w1 ⟨rfl, rfl⟩
        go_wp2_with fail
        go_ret
        exact ⟨ret_bool (by rw [HV.out, HX.out]; rfl), rfl⟩
      | true =>
        have HX := Lib.hid hx; clear hx
        go_enter Try.func49, Try.ntmps49
        go_wp2_with fail
        refine (isDigit9_is true _ _ HX.out).mono ?_
        rintro e w1 ⟨rfl, rfl⟩
        go_wp2_with fail
        go_ret
        exact ⟨ret_bool (by rw [HV.out, HX.out]; simp), rfl⟩
    · have hne : ((row.length : Int) == 2) = false := by simp; omega
      have hv : Hid (isRunB row = false) := by unfold isRunB; simp; intro h; exact absurd h h2
      clear ha hca
      go_enter Try.func49, Try.ntmps49
      go_wp2_with fail
      go_ret
      exact ⟨ret_bool (by rw [hv.out]), rfl⟩

set_option maxRecDepth 4000 in
set_option maxHeartbeats 4000000 in
theorem implWordOfRuns_arg (w : World) (v : Value) (nss : List (List Int)) (ha : ArgR w v nss) :
    Calls Try.prog 28 #[v] w fun e w' => e = .returned (strOk (wordO nss)) ∧ Below w.heap.size w w' := by
  obtain ⟨i0, hi, hz0, hz1, hz2⟩ := info_parts info_byte
  rcases argR_open ha with ⟨A, C, rfl, rfl⟩ | ⟨g, o, cap, rfl, hn, hcp, hg, _, hca⟩
  · clear ha
    have hasw := fun (W : World) => asWord_any [] W (by simp)
    have HASW := Lib.hid hasw; clear hasw
    go_enter Try.func28, Try.ntmps28
    go_wp2_with (refine wpList_make_own _ rfl _ _ 22 rfl w.heap.size 5 i0 (.int .u8 0) 1 Try.underlying22 hi hz0 hz1 .i64 .i64 400 400 rfl rfl rfl (by rw [hz2]; omega) (by unfold maxLen; omega) (Nat.le_refl _) ?_; intro w1 hown hgr)
    have hb1 := (Below.refl w.heap.size w).grown hgr (Nat.le_refl _) (fun k h => by cases h)
    have HO := Lib.hid hown; have HB1 := Lib.hid hb1
    clear hgr hb1 hown
    refine wp_loop_rounds 1 ?_
    rw [rounds_succ]
    have hconv := conv_own (l := []) HO.out
    go_wp2_with fail
    refine (HASW.out w1).mono ?_
    rintro e w2 ⟨rfl, hb2⟩
    have HB2 := Lib.hid hb2; clear hb2
    rw [show (if goodL [] = true then some ([] : List UInt8) else none) = none from rfl]
    unfold strOk
    go_wp2_with fail
    go_ret2
    exact ⟨rfl, below_trans HB1.out HB2.out⟩
  · have HA := Lib.hid hca
    obtain ⟨N, hN⟩ : ∃ N, N = nss.length := ⟨_, rfl⟩
    have HN := Lib.hid hN
    rw [← hN] at hn ⊢
    clear ha hca hN
    go_enter Try.func28, Try.ntmps28
    go_wp2_with (refine wpList_make_own _ rfl _ _ 22 rfl w.heap.size 5 i0 (.int .u8 0) 1 Try.underlying22 hi hz0 hz1 .i64 .i64 400 400 rfl rfl rfl (by rw [hz2]; omega) (by unfold maxLen; omega) (Nat.le_refl _) ?_; intro w1 hown hgr)
    have hb1 := (Below.refl w.heap.size w).grown hgr (Nat.le_refl _) (fun k h => by cases h)
    have HO := Lib.hid hown; have HB1 := Lib.hid hb1
    clear hgr hb1 hown
    go_wp2_with fail
    go_loopw [4, 5, 11] (fun tv bv iv wr => ∃ (k : Nat) (t : List UInt8) (b : Int), k ≤ N ∧ iv = .int .i64 k ∧ bv = .int .i64 b ∧ 0 ≤ b ∧ b ≤ 9 ∧ t.length ≤ 400 ∧ (∃ a c, tv = .slice a t.length c) ∧ Hid (worL (nss.take k) = some (t, b) ∧ wr.ownsRow w.heap.size 5 1 tv t.length (u8s t) ∧ Below w.heap.size w wr)) (fun _ _ i _ => N - (intOf i).toNat)
    case atStart => exact ⟨0, [], 0, Nat.zero_le _, rfl, rfl, by omega, by omega, by simp, ⟨_, _, rfl⟩, rfl, HO.out, HB1.out⟩
    case round =>
      obtain ⟨k, t, b, hk, rfl, rfl, hb0, hb9, ht, ⟨av, cv, rfl⟩, HX⟩ := hrel
      by_cases hlt : k < N
      · have hlt' : k < nss.length := by rw [← HN.out]; exact hlt
        obtain ⟨u, hu, hcu⟩ := HA.out k hlt'
        have hcw : wr.cell? ⟨g, o + k, none⟩ = some u := (HX.out.2.2.cell (p := ⟨g, o + k, none⟩) hg).trans hcu
        have huw : ArgI wr u nss[k] := argI_below hu HX.out.2.2
        have hsu := worL_succ nss k hlt'
        have hir := fun (W : World) (hb : Below wr.heap.size wr W) => isRun_arg W u nss[k] (argI_below huw hb)
        cases hr : isRunB nss[k] with
        | false =>
          have hwn : wordO nss = none := by
            unfold wordO
            have : worL (nss.take (k + 1)) = none := by rw [hsu, HX.out.1]; unfold worStep; simp only [hr, Bool.false_eq_true, false_and, if_false]
            rw [worL_none nss (k + 1) this]
          rw [hr] at hir
          have HIR := Lib.hid (hir wr (below_refl _)); have HWN := Lib.hid hwn
          clear hir hr hsu huw hu hcu hwn
          go_wp2_with fail
          refine HIR.out.mono ?_
          rintro e w2 ⟨rfl, rfl⟩
          go_wp2_with fail
          go_ret2
          exact ⟨by rw [HWN.out]; rfl, HX.out.2.2⟩
        | true =>
          obtain ⟨a, n, hrow, ha1, ha9, hn1⟩ := isRunB_two hr
          rw [hrow] at huw hr hir hu
          rw [hr] at hir
          rcases argI_open hu with ⟨_, _, _, hx⟩ | ⟨gr, ro, cr, rfl, _, hcr, hgr, _, hcc⟩
          · cases hx
          have hc0w : w.cell? ⟨gr, ro, none⟩ = some (.int .i64 a) := hcc 0 (by simp)
          have c0 : wr.cell? ⟨gr, ro, none⟩ = some (.int .i64 a) := (HX.out.2.2.cell (p := ⟨gr, ro, none⟩) hgr).trans hc0w
          have c1 : wr.cell? ⟨gr, ro + 1, none⟩ = some (.int .i64 n) := (HX.out.2.2.cell (p := ⟨gr, ro + 1, none⟩) hgr).trans (hcc 1 (by simp))
          have hgr2 : gr < wr.heap.size := Nat.lt_of_lt_of_le hgr HX.out.2.2.size
          have HC0W := Lib.hid hc0w
          clear hc0w
          have hst : worL (nss.take (k + 1)) = if a ≠ b ∧ n ≤ 400 - (t.length : Int) then some (t ++ List.replicate n.toNat (dgw a), a) else none := by
            rw [hsu, HX.out.1, hrow]; unfold worStep
            simp only [hr, List.getD_cons_zero, List.getD_cons_succ, true_and]
          have HIR := Lib.hid (hir wr (below_refl _)); have HST := Lib.hid hst
          simp only [List.length_cons, List.length_nil, Nat.zero_add] at hcw HIR ⊢
          clear hir hr hsu huw hu hcu hcc hrow hst
          by_cases hab : a = b
          · have hwn : wordO nss = none := by
              unfold wordO
              rw [worL_none nss (k + 1) (by rw [HST.out, if_neg (by simp [hab])])]
            have HWN := Lib.hid hwn; clear hwn
            have hbb : (a == b) = true := by simpa using hab
            clear hab
            go_wp2_with fail
            refine HIR.out.mono ?_
            rintro e w2 ⟨rfl, rfl⟩
            go_wp2_with fail
            go_ret2
            exact ⟨by rw [HWN.out]; rfl, HX.out.2.2⟩
          · have hbb : (a == b) = false := by simpa using hab
            by_cases hfit : n ≤ 400 - (t.length : Int)
            · have hst2 : worL (nss.take (k + 1)) = some (t ++ List.replicate n.toNat (dgw a), a) := by rw [HST.out, if_pos ⟨hab, hfit⟩]
              obtain ⟨m, rfl⟩ := Int.eq_ofNat_of_zero_le (show 0 ≤ n by omega)
              rw [Int.toNat_natCast] at hst2
              have HS2 := Lib.hid hst2; clear hst2 hab HST
              have hszw := HX.out.2.2.size
              have hm1 : 1 ≤ m := by omega
              have hm4 : m ≤ 400 := by omega
              have hmt : t.length + m ≤ 400 := by omega
              have hrep : ∀ (W : World), W.cell? ⟨wr.heap.size, 0, none⟩ = some (.int .u8 (48 + a)) → Calls Try.prog 50 #[.slice (some ⟨wr.heap.size, 0, none⟩) 1 1, .int .i64 m] W fun e w' => ∃ g, e = .returned (.slice (some ⟨g, 0, none⟩) m m) ∧ W.heap.size ≤ g ∧ (∀ i, i < m → w'.cell? ⟨g, i, none⟩ = some (.int .u8 (48 + a))) ∧ Below W.heap.size W w' := fun W hW => repeat_one W wr.heap.size m (48 + a) hm1 hm4 hW
              have h8 : Value.int .u8 ((dgw a).toNat : Int) = .int .u8 (48 + a) := by rw [dgw_nat a (by omega) ha9]
              have hus : u8s (t ++ List.replicate m (dgw a)) = u8s t ++ List.replicate m (.int .u8 (48 + a)) := by
                unfold u8s; rw [List.map_append, List.map_replicate, h8]
              have hlen : (t ++ List.replicate m (dgw a)).length = t.length + m := by simp
              have HREP := Lib.hid hrep; have HUS := Lib.hid hus; have HLEN := Lib.hid hlen; have HOWN := Lib.hid HX.out.2.1; have HBX := Lib.hid HX.out.2.2
              clear hrep h8 hus hlen HX hn1
              go_wp2_with fail
              refine HIR.out.mono ?_
              rintro e w2 ⟨rfl, rfl⟩
              go_wp2_with fail
              go_region_law (first
                | (go_simp; go_at_call 51; refine (signOf_is _ _ (by omega) (by omega)).mono ?_; rintro e w' ⟨rfl, rfl⟩)
                | (go_simp; go_at_call 50; refine (HREP.out _ (by simp [go_sem])).mono ?_; rintro e w2 ⟨g2, rfl, hg2, hc2, hb2⟩; have HB9 := Lib.hid (below_trans (below_trans (below_drew wr) (below_alloc _ _)) hb2); have HC9 := Lib.hid hc2; clear hb2 hc2)
                | (refine step_app rfl (.tmp 34) (.tmp 43) 22 rfl w.heap.size 5 i0 (.int .u8 0) 1 Try.underlying22 hi hz0 hz1 hz2 rfl _ t.length (u8s t) (by simp [Act.eval, Act.put]) (own_below HOWN.out HB9.out) ⟨g2, 0, none⟩ m m (List.replicate m (.int .u8 (48 + a))) (by simp [Act.eval, Act.put]) (by simp) (rep_pos HC9.out) (fun v hv => by rw [List.eq_of_mem_replicate hv]; rfl) (by unfold maxLen; omega) (by omega) (by have := HB9.out.size; omega) ?_; intro v3 w3 hown3 hg3 hw3; obtain ⟨a3, c3, rfl⟩ := own_slice hown3; have hb3 := (HBX.out.trans (HB9.out.mono HBX.out.size)).grown hg3 (by have := HB9.out.size; have := HBX.out.size; omega) (fun g hg => (HOWN.out.lt g hg).1); have c03 := (hb3.cell (p := ⟨gr, ro, none⟩) hgr).trans HC0W.out; have HB3 := Lib.hid hb3; clear hb3))
              all_goals
                have HW3 := Lib.hid hown3
                clear hown3
                go_wp2_with fail
                go_roundw
                case rel => exact ⟨k + 1, t ++ List.replicate m (dgw a), a, by omega, by go_num, rfl, by omega, by omega, by rw [HLEN.out]; exact hmt, ⟨_, _, by rw [HLEN.out]⟩, HS2.out, by rw [HLEN.out, HUS.out]; exact HW3.out, HB3.out⟩
                case measure => simp [intOf] <;> omega
            · have hwn : wordO nss = none := by
                unfold wordO
                rw [worL_none nss (k + 1) (by rw [HST.out, if_neg (fun h => hfit h.2)])]
              have HWN := Lib.hid hwn; clear hwn hab
              go_wp2_with fail
              refine HIR.out.mono ?_
              rintro e w2 ⟨rfl, rfl⟩
              go_wp2_with fail
              go_ret2
              exact ⟨by rw [HWN.out]; rfl, HX.out.2.2⟩
      · obtain rfl : k = N := by omega
        have hconv := conv_own HX.out.2.1
        have hasw := fun (W : World) => asWord_any t W (by omega)
        have hwo : wordO nss = if goodL t = true then some t else none := by
          have := HX.out.1
          rw [List.take_of_length_le (by rw [← HN.out]; exact Nat.le_refl _)] at this
          unfold wordO; rw [this]
        cases ho : wordO nss
        all_goals
          rw [← hwo, ho] at hasw
          have HASW := Lib.hid hasw; have HWO := Lib.hid ho
          clear hasw hwo ho
          go_wp2_with fail
          refine (HASW.out wr).mono ?_
          rintro e w2 ⟨rfl, hb2⟩
          have HB2 := Lib.hid hb2; clear hb2
          unfold strOk
          go_wp2_with fail
          go_ret2
          exact ⟨by rw [HWO.out]; rfl, below_trans HX.out.2.2 HB2.out⟩

set_option maxRecDepth 4000 in
set_option maxHeartbeats 4000000 in
theorem specWordOfRuns_arg (w : World) (v : Value) (nss : List (List Int)) (ha : ArgR w v nss) :
    Calls Try.prog 32 #[v] w fun e w' => e = .returned (strOk (wordO nss)) ∧ Below w.heap.size w w' := by
  rcases argR_open ha with ⟨A, C, rfl, rfl⟩ | ⟨g, o, cap, rfl, hn, hcp, hg, _, hca⟩
  · clear ha
    go_enter Try.func32, Try.ntmps32
    go_wp2_with fail
    refine (l1In_is false _ _ _ _ (by decide)).mono ?_
    rintro e w1 ⟨rfl, rfl⟩
    go_wp2_with fail
    go_ret2
    exact ⟨rfl, Below.refl _ _⟩
  · have HA := Lib.hid hca
    obtain ⟨N, hN⟩ : ∃ N, N = nss.length := ⟨_, rfl⟩
    have HN := Lib.hid hN
    rw [← hN] at hn ⊢
    clear ha hca
    by_cases hin : 1 ≤ N ∧ N ≤ 400
    · clear hN
      obtain ⟨hN1, hN4⟩ := hin
      have hin : decide ((1 : Int) ≤ (N : Int) ∧ (N : Int) ≤ 400) = true := decide_eq_true ⟨by omega, by omega⟩
      have HIN := Lib.hid hin; clear hin
      go_enter Try.func32, Try.ntmps32
      go_wp2_with fail
      refine (l1In_is true _ _ _ _ HIN.out).mono ?_
      rintro e w1 ⟨rfl, rfl⟩
      go_wp2_with fail
      go_loopw [4, 13] (fun o i wr => ∃ (k : Nat) (t : List UInt8) (b : Int), k ≤ N ∧ i = .int .i64 (k : Int) ∧ o = .string (bs t) ∧ t.length ≤ 400 ∧ Hid (worL (nss.take k) = some (t, b) ∧ Below w.heap.size w wr)) (fun _ i _ => N - (intOf i).toNat)
      case atStart => exact ⟨0, [], 0, Nat.zero_le _, rfl, rfl, by simp, rfl, below_refl _⟩
      case round =>
        obtain ⟨k, t, b, hk, rfl, rfl, ht, HX⟩ := hrel
        by_cases hlt : k < N
        · have hlt' : k < nss.length := by rw [← HN.out]; exact hlt
          obtain ⟨u, hu, hcu⟩ := HA.out k hlt'
          have hcw : wr.cell? ⟨g, o + k, none⟩ = some u := (HX.out.2.cell (p := ⟨g, o + k, none⟩) hg).trans hcu
          by_cases h2 : nss[k].length = 2
          · obtain ⟨a, n, hrow⟩ : ∃ a n, nss[k] = [a, n] := by
              match hq : nss[k], h2 with
              | [a, n], _ => exact ⟨a, n, rfl⟩
            rw [hrow] at hu h2
            rcases argI_open hu with ⟨_, _, _, hx⟩ | ⟨gr, ro, cr, rfl, _, hcr, hgr, _, hcc⟩
            · cases hx
            have c0 : wr.cell? ⟨gr, ro, none⟩ = some (.int .i64 a) := (HX.out.2.cell (p := ⟨gr, ro, none⟩) hgr).trans (hcc 0 (by simp))
            have c1 : wr.cell? ⟨gr, ro + 1, none⟩ = some (.int .i64 n) := (HX.out.2.cell (p := ⟨gr, ro + 1, none⟩) hgr).trans (hcc 1 (by simp))
            have hgr2 : gr < wr.heap.size := Nat.lt_of_lt_of_le hgr HX.out.2.size
            simp only [List.length_cons, List.length_nil, Nat.zero_add] at hcw hcr
            obtain ⟨z, hz⟩ : ∃ z, z = (bs t).size := ⟨_, rfl⟩
            have hz4 : z ≤ 400 := by rw [hz, bs_size]; exact ht
            have hbad := fun hb => worL_bad nss k hlt' t b HX.out.1 hb
            rw [hrow] at hbad
            simp only [List.getD_cons_zero, List.getD_cons_succ] at hbad
            have hrb : isRunB [a, n] = true ↔ (1 ≤ a ∧ a ≤ 9) ∧ 1 ≤ n := by
              unfold isRunB
              simp only [decide_eq_true_eq, List.length_cons, List.length_nil, List.getD_cons_zero, List.getD_cons_succ]
              constructor
              · rintro ⟨_, h3, h4, h5⟩; exact ⟨⟨h3, h4⟩, h5⟩
              · rintro ⟨⟨h3, h4⟩, h5⟩; exact ⟨trivial, h3, h4, h5⟩
            have htz : t.length = z := by rw [hz, bs_size]
            have w1 : IntKind.i64.wrap (400 - (z : Int)) = 400 - (z : Int) := IntWalk.i64_in _ (by omega)
            rw [htz] at hbad
            subst hz
            clear hu hcu hcc h2
            by_cases ha : 1 ≤ a ∧ a ≤ 9
            · by_cases hn1 : 1 ≤ n ∧ n ≤ 400 - ((bs t).size : Int)
              · have q1 := fun (W : World) (q : Nat) => l1In_q true a 1 9 (decide_eq_true ha) W q
                have q2 := fun (W : World) (q : Nat) => l1In_q true n 1 (400 - ((bs t).size : Int)) (decide_eq_true hn1) W q
                have Q1 := Lib.hid q1; have Q2 := Lib.hid q2; clear q1 q2
                obtain ⟨ha1, ha9⟩ := ha
                obtain ⟨hn1, hn4⟩ := hn1
                obtain ⟨m, rfl⟩ := Int.eq_ofNat_of_zero_le (show 0 ≤ n by omega)
                have hm4 : m ≤ 400 := by omega
                have hok : a ≠ b → worL (nss.take (k + 1)) = some (t ++ List.replicate m (dgw a), a) := by
                  intro hab
                  rw [worL_succ nss k hlt', HX.out.1, hrow]
                  unfold worStep
                  simp only [List.getD_cons_zero, List.getD_cons_succ, Int.toNat_natCast]
                  exact if_pos ⟨hrb.2 ⟨⟨ha1, ha9⟩, hn1⟩, hab, by rw [htz]; exact hn4⟩
                have htm := fun (W : World) => woTimes_any a m W ha1 ha9 hm4
                have HTM := Lib.hid htm; clear htm
                have hsz : (bs (List.replicate m (dgw a))).size ≤ 400 := by rw [bs_size, List.length_replicate]; exact hm4
                have hlen : (t ++ List.replicate m (dgw a)).length ≤ 400 := by rw [List.length_append, List.length_replicate]; omega
                have HLEN := Lib.hid hlen; clear hlen
                rcases Nat.eq_zero_or_pos k with hk0 | hk0
                · have hab : a ≠ b := by
                    have := HX.out.1
                    rw [hk0] at this
                    have e : b = 0 := by cases this; rfl
                    omega
                  have HOK := Lib.hid (hok hab)
                  have hp2 : ¬ 0 < k := by omega
                  have hp3 : decide (0 < k) = false := decide_eq_false hp2
                  have HK0 := Lib.hid hk0
                  clear hok hbad hrb hrow hab hk0 htz
                  go_wp2_with fail
                  go_quiet (first | (go_at_call 57; first | with_reducible exact Q1.out _ _ | with_reducible exact Q2.out _ _))
                  go_wp2_with fail
                  go_region_with (go_at_call 58; (refine (HTM.out _).mono ?_); rintro e w2 ⟨rfl, hb2⟩)
                  all_goals
                    have HB2 := Lib.hid hb2; clear hb2
                    go_wp2_with fail
                    go_roundw
                    case rel => exact ⟨k + 1, _, a, by omega, by go_num, by rw [bs_append], HLEN.out, HOK.out, below_trans HX.out.2 (below_trans (belowN _ _ _) HB2.out)⟩
                    case measure => simp [intOf] <;> omega
                · obtain ⟨p, rfl⟩ : ∃ p, k = p + 1 := ⟨k - 1, by omega⟩
                  have hpl : p < nss.length := Nat.lt_of_succ_lt hlt'
                  obtain ⟨n', hprow⟩ := worL_prev nss p hpl t b HX.out.1
                  obtain ⟨up, hup, hcup⟩ := HA.out p hpl
                  rw [hprow] at hup
                  rcases argI_open hup with ⟨_, _, _, hx⟩ | ⟨gp, po, cp, rfl, _, hcp, hgp, _, hpc⟩
                  · cases hx
                  have cwp : wr.cell? ⟨g, o + p, none⟩ = some (.slice (some ⟨gp, po, none⟩) [b, n'].length cp) := (HX.out.2.cell (p := ⟨g, o + p, none⟩) hg).trans hcup
                  have cp0 : wr.cell? ⟨gp, po, none⟩ = some (.int .i64 b) := (HX.out.2.cell (p := ⟨gp, po, none⟩) hgp).trans (hpc 0 (by simp))
                  have hgp2 : gp < wr.heap.size := Nat.lt_of_lt_of_le hgp HX.out.2.size
                  simp only [List.length_cons, List.length_nil, Nat.zero_add] at cwp hcp
                  have f0 : (0 : Int) ≤ (p : Int) + 1 := by omega
                  have f1 : (0 : Int) < (p : Int) + 1 := by omega
                  have f2 : (p : Int) + 1 - 1 = (p : Int) := by omega
                  have f3 : (p : Int) < (N : Int) := by omega
                  have f4 : (p : Int) + 1 < (N : Int) := by omega
                  have f5 : p < N := by omega
                  clear hup hcup hpc hprow hk0
                  by_cases hab : b = a
                  · have HWN := Lib.hid (hbad (fun h => h.2.1 hab.symm))
                    have hbb : (b == a) = true := by simpa using hab
                    have HAB := Lib.hid hab
                    clear hok hbad hrb hrow htz
                    go_wp2_with fail
                    go_quiet (first | (go_at_call 57; first | with_reducible exact Q1.out _ _ | with_reducible exact Q2.out _ _))
                    go_wp2_with fail
                    go_ret2
                    exact ⟨by rw [HWN.out]; rfl, below_trans HX.out.2 (belowN _ _ _)⟩
                  · have HOK := Lib.hid (hok (fun h => hab h.symm))
                    have hbb : (b == a) = false := by simpa using hab
                    clear hok hbad hrb hrow htz
                    go_wp2_with fail
                    go_quiet (first | (go_at_call 57; first | with_reducible exact Q1.out _ _ | with_reducible exact Q2.out _ _))
                    go_wp2_with fail
                    go_region_with (go_at_call 58; (refine (HTM.out _).mono ?_); rintro e w2 ⟨rfl, hb2⟩)
                    all_goals
                      have HB2 := Lib.hid hb2; clear hb2
                      go_wp2_with fail
                      go_roundw
                      case rel => exact ⟨p + 1 + 1, _, a, by omega, by go_num, by rw [bs_append], HLEN.out, HOK.out, below_trans HX.out.2 (below_trans (belowN _ _ _) HB2.out)⟩
                      case measure => simp [intOf] <;> omega
              · have q1 := fun (W : World) (q : Nat) => l1In_q true a 1 9 (decide_eq_true ha) W q
                have q2 := fun (W : World) (q : Nat) => l1In_q false n 1 (400 - ((bs t).size : Int)) (decide_eq_false hn1) W q
                have HWN := Lib.hid (hbad (fun h => hn1 ⟨(hrb.1 h.1).2, h.2.2⟩))
                have Q1 := Lib.hid q1; have Q2 := Lib.hid q2
                clear q1 q2 hbad hrb ha hn1 hrow
                go_wp2_with fail
                go_quiet (first | (go_at_call 57; first | with_reducible exact Q1.out _ _ | with_reducible exact Q2.out _ _))
                go_wp2_with fail
                go_ret2
                exact ⟨by rw [HWN.out]; rfl, below_trans HX.out.2 (belowN _ _ _)⟩
            · have q1 := fun (W : World) (q : Nat) => l1In_q false a 1 9 (decide_eq_false ha) W q
              have HWN := Lib.hid (hbad (fun h => ha (hrb.1 h.1).1))
              have Q1 := Lib.hid q1
              clear q1 hbad hrb ha hrow
              go_wp2_with fail
              go_quiet (first | (go_at_call 57; exact Q1.out _ _))
              go_wp2_with fail
              go_ret2
              exact ⟨by rw [HWN.out]; rfl, below_trans HX.out.2 (belowN _ _ _)⟩
          · have hwn : wordO nss = none := worL_bad nss k hlt' t b HX.out.1 (fun h => h2 (by have := h.1; unfold isRunB at this; simp only [decide_eq_true_eq] at this; exact this.1))
            have HWN := Lib.hid hwn; clear hwn
            rcases argI_open hu with ⟨A0, C0, rfl, _⟩ | ⟨gr, ro, cr, rfl, _, hcr, hgr, _, hcc⟩
            · clear hu hcu h2
              go_wp2_with fail
              go_quiet (fail)
              go_wp2_with fail
              go_ret2
              exact ⟨by rw [HWN.out]; rfl, below_trans HX.out.2 (belowN _ _ _)⟩
            · obtain ⟨L, hL⟩ : ∃ L, L = nss[k].length := ⟨_, rfl⟩
              rw [← hL] at h2 hcw
              have hne : ((L : Int) == 2) = false := by simp; omega
              have hne2 : ¬ (L : Int) = 2 := by omega
              have hne3 : ((L : Int) != 2) = true := by simp; omega
              clear hu hcu hcc hL
              go_wp2_with fail
              go_quiet (fail)
              go_wp2_with fail
              go_ret2
              exact ⟨by rw [HWN.out]; rfl, below_trans HX.out.2 (belowN _ _ _)⟩
        · obtain rfl : k = N := by omega
          have hw := HX.out.1
          rw [List.take_of_length_le (by rw [← HN.out]; exact Nat.le_refl _)] at hw
          have hwo := wordO_some hw (by rw [← HN.out]; exact hN1)
          have HWO := Lib.hid hwo; clear hw hwo
          go_wp2_with fail
          go_ret2
          exact ⟨by rw [HWO.out]; rfl, HX.out.2⟩
    · have hwn : wordO nss = none := by
        by_cases h0 : nss.length = 0
        · have : nss = [] := List.eq_nil_of_length_eq_zero h0
          subst this; rfl
        · exact wordO_long (by omega)
      have hin2 : decide ((1 : Int) ≤ (N : Int) ∧ (N : Int) ≤ 400) = false := decide_eq_false (by omega)
      have HIN := Lib.hid hin2; have HWN := Lib.hid hwn; clear hin2 hwn hin hN
      go_enter Try.func32, Try.ntmps32
      go_wp2_with fail
      refine (l1In_is false _ _ _ _ HIN.out).mono ?_
      rintro e w1 ⟨rfl, rfl⟩
      go_wp2_with fail
      go_ret2
      exact ⟨by rw [HWN.out]; rfl, Below.refl _ _⟩
end Go.Proofs.Ytmlghonidheidaa
