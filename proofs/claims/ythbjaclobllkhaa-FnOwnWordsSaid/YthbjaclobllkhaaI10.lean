/- The word of runs: the program's WordOfRuns. -/
import Derived.Test.YthbjaclobllkhaaI9
namespace Go.Proofs.Ythbjaclobllkhaa
open Go.RowKit Go.BigFrame
set_option linter.unusedSimpArgs false
set_option linter.unusedVariables false
set_option maxRecDepth 4000

theorem isRunB_two {row : List Int} (h : isRunB row = true) : ∃ a n, row = [a, n] ∧ 1 ≤ a ∧ a ≤ 9 ∧ 1 ≤ n := by
  unfold isRunB at h
  simp only [decide_eq_true_eq] at h
  match row, h.1 with
  | [a, n], _ => exact ⟨a, n, rfl, by simpa using h.2.1, by simpa using h.2.2.1, by simpa using h.2.2.2⟩

theorem rep_pos {w : World} {g m : Nat} {c : Int} (h : ∀ i, i < m → w.cell? ⟨g, i, none⟩ = some (.int .u8 c)) :
    ∀ j u, (List.replicate m (Value.int .u8 c))[j]? = some u → w.cell? ((⟨g, 0, none⟩ : Addr).add j) = some u := by
  intro j u hj
  have hjm : j < m := by have := get_lt hj; simpa using this
  rw [List.getElem?_replicate, if_pos hjm] at hj
  cases hj
  have hadd : (⟨g, 0, none⟩ : Addr).add j = ⟨g, j, none⟩ := by unfold Addr.add; split <;> simp_all
  rw [hadd]
  exact h j hjm

set_option maxRecDepth 4000 in
set_option maxHeartbeats 4000000 in
theorem implWordOfRuns_any (w : World) (B : Nat) (v : Value) (vs : List Value) (nss : List (List Int)) (ha : IntsRR w B v vs nss) :
    Calls Try.prog 47 #[v] w fun e w' => e = .returned (strOk (wordO nss)) ∧ Below w.heap.size w w' := by
  obtain ⟨i0, hi, hz0, hz1, hz2⟩ := info_parts info_byte
  rcases intsRR_open ha with ⟨rfl, rfl⟩ | ⟨g, cap, rfl, hn, hcp, hg, _, hca⟩
  · clear ha
    have hasw := fun (W : World) => asWord_any [] W (by simp)
    have HASW := Lib.hid hasw; clear hasw
    go_enter Try.func47, Try.ntmps47
    go_wp2_with (refine wpList_make_own _ rfl _ _ 22 rfl w.heap.size 5 i0 (.int .u8 0) 1 Try.underlying22 hi hz0 hz1 .i64 .i64 400 400 rfl rfl rfl (by rw [hz2]; omega) (by unfold maxLen; omega) (Nat.le_refl _) ?_; intro w1 hown hgr)
    have hb1 := (Below.refl w.heap.size w).grown hgr (Nat.le_refl _) (fun k h => by cases h)
    have HO := Lib.hid hown; have HB1 := Lib.hid hb1
    clear hgr hb1 hown
    refine wp_loop_rounds 1 ?_
    rw [rounds_succ]
    have hconv := conv_own (l := []) HO.out
    go_wp2_with fail
    refine (HASW.out w1).mono ?_
    rintro e w2 ⟨rfl, hb2⟩
    have HB2 := Lib.hid hb2; clear hb2
    rw [show (if goodL [] = true then some ([] : List UInt8) else none) = none from rfl]
    unfold strOk
    go_wp2_with fail
    go_ret2
    exact ⟨rfl, below_trans HB1.out HB2.out⟩
  · have HA := Lib.hid hca
    obtain ⟨N, hN⟩ : ∃ N, N = nss.length := ⟨_, rfl⟩
    have HN := Lib.hid hN
    rw [← hN] at hn ⊢
    clear ha hca hN
    go_enter Try.func47, Try.ntmps47
    go_wp2_with (refine wpList_make_own _ rfl _ _ 22 rfl w.heap.size 5 i0 (.int .u8 0) 1 Try.underlying22 hi hz0 hz1 .i64 .i64 400 400 rfl rfl rfl (by rw [hz2]; omega) (by unfold maxLen; omega) (Nat.le_refl _) ?_; intro w1 hown hgr)
    have hb1 := (Below.refl w.heap.size w).grown hgr (Nat.le_refl _) (fun k h => by cases h)
    have HO := Lib.hid hown; have HB1 := Lib.hid hb1
    clear hgr hb1 hown
    go_wp2_with fail
    go_loopw [4, 5, 11] (fun tv bv iv wr => ∃ (k : Nat) (t : List UInt8) (b : Int), k ≤ N ∧ iv = .int .i64 k ∧ bv = .int .i64 b ∧ 0 ≤ b ∧ b ≤ 9 ∧ t.length ≤ 400 ∧ (∃ a c, tv = .slice a t.length c) ∧ Hid (worL (nss.take k) = some (t, b) ∧ wr.ownsRow w.heap.size 5 1 tv t.length (u8s t) ∧ Below w.heap.size w wr)) (fun _ _ i _ => N - (intOf i).toNat)
    case atStart => exact ⟨0, [], 0, Nat.zero_le _, rfl, rfl, by omega, by omega, by simp, ⟨_, _, rfl⟩, rfl, HO.out, HB1.out⟩
    case round =>
      obtain ⟨k, t, b, hk, rfl, rfl, hb0, hb9, ht, ⟨av, cv, rfl⟩, HX⟩ := hrel
      by_cases hlt : k < N
      · have hlt' : k < nss.length := by rw [← HN.out]; exact hlt
        obtain ⟨u, _, hu, hcu⟩ := HA.out k hlt'
        have hcw : wr.cell? ⟨g, k, none⟩ = some u := (HX.out.2.2.cell (p := ⟨g, k, none⟩) hg).trans hcu
        have huw : Ints wr B u nss[k] := own_below hu HX.out.2.2
        have hsu := worL_succ nss k hlt'
        have hir := fun (W : World) (hb : Below wr.heap.size wr W) => isRun_any W B u nss[k] (own_below huw hb)
        cases hr : isRunB nss[k] with
        | false =>
          have hwn : wordO nss = none := by
            unfold wordO
            have : worL (nss.take (k + 1)) = none := by rw [hsu, HX.out.1]; unfold worStep; simp only [hr, Bool.false_eq_true, false_and, if_false]
            rw [worL_none nss (k + 1) this]
          rw [hr] at hir
          have HIR := Lib.hid (hir wr (below_refl _)); have HWN := Lib.hid hwn
          clear hir hr hsu huw hu hcu hwn
          go_wp2_with fail
          refine HIR.out.mono ?_
          rintro e w2 ⟨rfl, rfl⟩
          go_wp2_with fail
          go_ret2
          exact ⟨by rw [HWN.out]; rfl, HX.out.2.2⟩
        | true =>
          obtain ⟨a, n, hrow, ha1, ha9, hn1⟩ := isRunB_two hr
          rw [hrow] at huw hr hir hu
          rw [hr] at hir
          rcases ints_open hu with ⟨_, hx⟩ | ⟨gr, cr, rfl, _, hgr, _, hcr, hcc, _⟩
          · cases hx
          have hc0w : w.cell? ⟨gr, 0, none⟩ = some (.int .i64 a) := hcc 0 (by simp)
          have c0 : wr.cell? ⟨gr, 0, none⟩ = some (.int .i64 a) := (HX.out.2.2.cell (p := ⟨gr, 0, none⟩) hgr).trans hc0w
          have c1 : wr.cell? ⟨gr, 1, none⟩ = some (.int .i64 n) := (HX.out.2.2.cell (p := ⟨gr, 1, none⟩) hgr).trans (hcc 1 (by simp))
          have hgr2 : gr < wr.heap.size := Nat.lt_of_lt_of_le hgr HX.out.2.2.size
          have HC0W := Lib.hid hc0w
          clear hc0w
          have hst : worL (nss.take (k + 1)) = if a ≠ b ∧ n ≤ 400 - (t.length : Int) then some (t ++ List.replicate n.toNat (dgw a), a) else none := by
            rw [hsu, HX.out.1, hrow]; unfold worStep
            simp only [hr, List.getD_cons_zero, List.getD_cons_succ, true_and]
          have HIR := Lib.hid (hir wr (below_refl _)); have HST := Lib.hid hst
          simp only [List.length_cons, List.length_nil, Nat.zero_add] at hcw HIR ⊢
          clear hir hr hsu huw hu hcu hcc hrow hst
          by_cases hab : a = b
          · have hwn : wordO nss = none := by
              unfold wordO
              rw [worL_none nss (k + 1) (by rw [HST.out, if_neg (by simp [hab])])]
            have HWN := Lib.hid hwn; clear hwn
            have hbb : (a == b) = true := by simpa using hab
            clear hab
            go_wp2_with fail
            refine HIR.out.mono ?_
            rintro e w2 ⟨rfl, rfl⟩
            go_wp2_with fail
            go_ret2
            exact ⟨by rw [HWN.out]; rfl, HX.out.2.2⟩
          · have hbb : (a == b) = false := by simpa using hab
            by_cases hfit : n ≤ 400 - (t.length : Int)
            · have hst2 : worL (nss.take (k + 1)) = some (t ++ List.replicate n.toNat (dgw a), a) := by rw [HST.out, if_pos ⟨hab, hfit⟩]
              obtain ⟨m, rfl⟩ := Int.eq_ofNat_of_zero_le (show 0 ≤ n by omega)
              rw [Int.toNat_natCast] at hst2
              have HS2 := Lib.hid hst2; clear hst2 hab HST
              have hszw := HX.out.2.2.size
              have hm1 : 1 ≤ m := by omega
              have hm4 : m ≤ 400 := by omega
              have hmt : t.length + m ≤ 400 := by omega
              have hrep : ∀ (W : World), W.cell? ⟨wr.heap.size, 0, none⟩ = some (.int .u8 (48 + a)) → Calls Try.prog 63 #[.slice (some ⟨wr.heap.size, 0, none⟩) 1 1, .int .i64 m] W fun e w' => ∃ g, e = .returned (.slice (some ⟨g, 0, none⟩) m m) ∧ W.heap.size ≤ g ∧ (∀ i, i < m → w'.cell? ⟨g, i, none⟩ = some (.int .u8 (48 + a))) ∧ Below W.heap.size W w' := fun W hW => repeat_one W wr.heap.size m (48 + a) hm1 hm4 hW
              have h8 : Value.int .u8 ((dgw a).toNat : Int) = .int .u8 (48 + a) := by rw [dgw_nat a (by omega) ha9]
              have hus : u8s (t ++ List.replicate m (dgw a)) = u8s t ++ List.replicate m (.int .u8 (48 + a)) := by
                unfold u8s; rw [List.map_append, List.map_replicate, h8]
              have hlen : (t ++ List.replicate m (dgw a)).length = t.length + m := by simp
              have HREP := Lib.hid hrep; have HUS := Lib.hid hus; have HLEN := Lib.hid hlen; have HOWN := Lib.hid HX.out.2.1; have HBX := Lib.hid HX.out.2.2
              clear hrep h8 hus hlen HX hn1
              go_wp2_with fail
              refine HIR.out.mono ?_
              rintro e w2 ⟨rfl, rfl⟩
              go_wp2_with fail
              go_region_law (first
                | (go_simp; go_at_call 42; refine (signOf_is _ _ (by omega) (by omega)).mono ?_; rintro e w' ⟨rfl, rfl⟩)
                | (go_simp; go_at_call 63; refine (HREP.out _ (by simp [go_sem])).mono ?_; rintro e w2 ⟨g2, rfl, hg2, hc2, hb2⟩; have HB9 := Lib.hid (below_trans (below_trans (below_drew wr) (below_alloc _ _)) hb2); have HC9 := Lib.hid hc2; clear hb2 hc2)
                | (refine step_app rfl (.tmp 34) (.tmp 43) 22 rfl w.heap.size 5 i0 (.int .u8 0) 1 Try.underlying22 hi hz0 hz1 hz2 rfl _ t.length (u8s t) (by simp [Act.eval, Act.put]) (own_below HOWN.out HB9.out) ⟨g2, 0, none⟩ m m (List.replicate m (.int .u8 (48 + a))) (by simp [Act.eval, Act.put]) (by simp) (rep_pos HC9.out) (fun v hv => by rw [List.eq_of_mem_replicate hv]; rfl) (by unfold maxLen; omega) (by omega) (by have := HB9.out.size; omega) ?_; intro v3 w3 hown3 hg3 hw3; obtain ⟨a3, c3, rfl⟩ := own_slice hown3; have hb3 := (HBX.out.trans (HB9.out.mono HBX.out.size)).grown hg3 (by have := HB9.out.size; have := HBX.out.size; omega) (fun g hg => (HOWN.out.lt g hg).1); have c03 := (hb3.cell (p := ⟨gr, 0, none⟩) hgr).trans HC0W.out; have HB3 := Lib.hid hb3; clear hb3))
              all_goals
                have HW3 := Lib.hid hown3
                clear hown3
                go_wp2_with fail
                go_roundw
                case rel => exact ⟨k + 1, t ++ List.replicate m (dgw a), a, by omega, by go_num, rfl, by omega, by omega, by rw [HLEN.out]; exact hmt, ⟨_, _, by rw [HLEN.out]⟩, HS2.out, by rw [HLEN.out, HUS.out]; exact HW3.out, HB3.out⟩
                case measure => simp [intOf] <;> omega
            · have hwn : wordO nss = none := by
                unfold wordO
                rw [worL_none nss (k + 1) (by rw [HST.out, if_neg (fun h => hfit h.2)])]
              have HWN := Lib.hid hwn; clear hwn hab
              go_wp2_with fail
              refine HIR.out.mono ?_
              rintro e w2 ⟨rfl, rfl⟩
              go_wp2_with fail
              go_ret2
              exact ⟨by rw [HWN.out]; rfl, HX.out.2.2⟩
      · obtain rfl : k = N := by omega
        have hconv := conv_own HX.out.2.1
        have hasw := fun (W : World) => asWord_any t W (by omega)
        have hwo : wordO nss = if goodL t = true then some t else none := by
          have := HX.out.1
          rw [List.take_of_length_le (by rw [← HN.out]; exact Nat.le_refl _)] at this
          unfold wordO; rw [this]
        cases ho : wordO nss
        all_goals
          rw [← hwo, ho] at hasw
          have HASW := Lib.hid hasw; have HWO := Lib.hid ho
          clear hasw hwo ho
          go_wp2_with fail
          refine (HASW.out wr).mono ?_
          rintro e w2 ⟨rfl, hb2⟩
          have HB2 := Lib.hid hb2; clear hb2
          unfold strOk
          go_wp2_with fail
          go_ret2
          exact ⟨by rw [HWO.out]; rfl, below_trans HX.out.2.2 HB2.out⟩
end Go.Proofs.Ythbjaclobllkhaa
