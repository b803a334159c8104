/- Chapter 6: slices.Repeat at one number; the program's count of endings. -/
import Derived.Test.YtpglkgpaaflikaaYD
import Derived.Test.YtpglkgpaaflikaaS
import Derived.Laws.CopyOwn
import Derived.Deep.RegionLaw
namespace Go.Proofs.Ytpglkgpaaflikaa
open Go.RowKit Go.BigFrame Go.Maps
set_option linter.unusedSimpArgs false
set_option linter.unusedVariables false
set_option maxRecDepth 4000

/-- n ones, then zeros. -/
def onesL (n C : Nat) : List Int := List.replicate n 1 ++ List.replicate (C - n) 0
theorem onesL_len {n C : Nat} (h : n ≤ C) : (onesL n C).length = C := by simp [onesL]; omega
theorem onesL_zero (C : Nat) : onesL 0 C = List.replicate C 0 := by simp [onesL]
theorem onesL_all (C : Nat) : onesL C C = List.replicate C 1 := by simp [onesL]
theorem onesL_splice (n q C : Nat) (h : n + q ≤ C) : splice (ivs (onesL n C)) n (ivs (List.replicate q 1)) = ivs (onesL (n + q) C) := by
  unfold splice onesL ivs
  simp only [List.map_append, List.map_replicate, List.length_replicate]
  rw [List.take_append_of_le_length (by simp), List.take_of_length_le (by simp), List.drop_append]
  simp only [List.length_replicate, List.drop_replicate]
  rw [show n - (n + q) = 0 by omega, List.replicate_zero, List.nil_append, ← List.append_assoc, List.replicate_append_replicate]
  congr 2
  omega

theorem made_cells {w1 : World} {B g C : Nat} (h : w1.ownsRow B 3 1 (.slice (some ⟨g, 0, none⟩) C C) C (madeCells (Value.int .i64 0).cells (C * 1)).toList) : w1.heap[g]? = some (.cells (ivs (onesL 0 C)).toArray 3 (0, 0)) := by
  rcases h.2 with ⟨e, _⟩ | ⟨g', cap, cur, e, _, hg', _, _, hs, ht⟩
  · cases e
  · cases e
    rw [hg']
    congr 2
    apply Array.ext'
    rw [Nat.mul_one, List.take_of_length_le (by simp; omega)] at ht
    rw [ht, onesL_zero, ivs, List.map_replicate]
    exact toList_madeCells_one _ _
theorem src_one {w w1 : World} {g : Nat} (hb : Below w.heap.size w w1) (hg : g < w.heap.size) (hc : w.cell? ⟨g, 0, none⟩ = some (.int .i64 1)) : ∀ j q, (ivs [1])[j]? = some q → w1.cell? ((⟨g, 0, none⟩ : Addr).add j) = some q := fun j q hq => by
  cases j with
  | zero => simp [ivs] at hq; subst hq; exact (hb.cell (p := ⟨g, 0, none⟩) hg).trans hc
  | succ j => simp [ivs] at hq

set_option maxHeartbeats 600000 in
theorem repeat_any (w : World) (g C : Nat) (hcell : w.cell? ⟨g, 0, none⟩ = some (.int .i64 1)) (hg : g < w.heap.size) (h1 : 1 ≤ C) (h9 : C ≤ 1000) :
    Calls Try.prog 88 #[.slice (some ⟨g, 0, none⟩) 1 1, .int .i64 C] w fun e w' => e = .returned (.slice (some ⟨w.heap.size, 0, none⟩) C C) ∧ Ints w' w.heap.size (.slice (some ⟨w.heap.size, 0, none⟩) C C) (List.replicate C 1) ∧ Below w.heap.size w w' := by
  obtain ⟨i0, hi, hz0, hz1, hz2⟩ := info_parts info_intT
  have hmul : ∀ W : World, Calls Try.prog 92 #[.int .u64 1, .int .u64 (C : Int)] W fun e w' => e = .returned (.tuple #[.int .u64 0, .int .u64 (C : Int)]) ∧ W = w' := fun W => by
    have h := Try.bits_Mul 1 C (by omega) (by omega) W
    rw [Nat.one_mul, Nat.div_eq_of_lt (by omega), Nat.mod_eq_of_lt (by omega)] at h
    exact h.mono fun e w' ⟨h1, h2⟩ => ⟨h1, h2.symm⟩
  have HMUL := Lib.hid hmul
  clear hmul
  have hn1 : (ivs [1]).length = Nat.min 1 C := by simp [ivs]; exact (Nat.min_eq_left h1).symm
  have hf1 : 0 + (ivs [1]).length ≤ (ivs (onesL 0 C)).length := by simp [ivs, onesL]; omega
  have ho1 : ∀ q ∈ ivs [1], q.oneCell' = true := by intro v hv; simp [ivs] at hv; subst hv; rfl
  have hsp := onesL_splice 0 1 C (by omega)
  rw [Nat.zero_add, show List.replicate 1 (1 : Int) = [1] from rfl] at hsp
  have HN1 := Lib.hid hn1; have HF1 := Lib.hid hf1; have HO1 := Lib.hid ho1; have HSP := Lib.hid hsp; have HCE := Lib.hid hcell
  clear hn1 hf1 ho1 hsp hcell
  go_enter Try.func88, Try.ntmps88
  go_wp2_with fail
  refine (HMUL.out _).mono ?_
  rintro e w1 ⟨rfl, rfl⟩
  go_wp2_with (first
    | (refine wpList_make_full _ rfl _ _ 22 rfl w.heap.size 3 i0 (.int .i64 0) 1 Try.underlying22 hi hz0 hz1 .i64 .i64 (C : Int) (C : Int) C rfl rfl rfl rfl (by rw [hz2]; omega) (by unfold maxLen; omega) (Nat.le_refl _) ?_; intro w1 hown hgr; have HR1 := Lib.hid (made_cells hown); have HB := Lib.hid ((Below.refl w.heap.size w).grown hgr (Nat.le_refl _) (fun k h => by cases h)); have HC1 := Lib.hid (src_one HB.out hg HCE.out); clear hown hgr)
    | (refine wpList_copy_splice rfl _ _ 22 22 rfl 3 Try.underlying22 (by kernel_rfl) _ _ C C 1 1 rfl rfl w.heap.size 0 (ivs (onesL 0 C)) 3 HR1.out (ivs [1]) HN1.out (fun _ => ⟨rfl, _, rfl, HC1.out⟩) HF1.out HO1.out w.heap.size w HB.out (Nat.le_refl _) ?_; intro w2 hg2 hb2; have HR2 : Hid (w2.heap[w.heap.size]? = some (.cells (ivs (onesL 1 C)).toArray 3 (0, 0))) := Lib.hid (by rw [← HSP.out]; exact hg2.out); have HB2 := Lib.hid hb2; clear hg2 hb2))
  go_loopw [8] (fun nv wr => ∃ n : Nat, 1 ≤ n ∧ n ≤ C ∧ nv = .int .i64 n ∧ Hid (wr.heap[w.heap.size]? = some (.cells (ivs (onesL n C)).toArray 3 (0, 0)) ∧ w.heap.size < wr.heap.size ∧ Below w.heap.size w wr)) (fun nv _ => C - (intOf nv).toNat)
  case atStart => exact ⟨1, Nat.le_refl _, h1, by simp [ivs], HR2.out, (Array.getElem?_eq_some_iff.1 HR2.out).1, HB2.out⟩
  case round =>
    obtain ⟨n, hn1, hnC, rfl, HX⟩ := hrel
    by_cases hlt : n < C
    · obtain ⟨q, hq⟩ : ∃ q, q = Nat.min n (C - n) := ⟨_, rfl⟩
      have hq1 : 1 ≤ q := by rw [hq]; exact Nat.le_min.2 ⟨hn1, by omega⟩
      have hqn : q ≤ n := by rw [hq]; exact Nat.min_le_left _ _
      have hqC : n + q ≤ C := by have : q ≤ C - n := (by rw [hq]; exact Nat.min_le_right _ _); omega
      obtain ⟨CS, hCS⟩ : ∃ CS, CS = ivs (List.replicate q 1) := ⟨_, rfl⟩
      have hcl : CS.length = q := by rw [hCS]; simp [ivs]
      have hsrc : ∀ j x, CS[j]? = some x → wr.cell? ((⟨w.heap.size, 0, none⟩ : Addr).add j) = some x := fun j x hx => by
        have hj : j < q := by have := get_lt hx; omega
        rw [hCS, ivs, List.map_replicate, List.getElem?_replicate, if_pos hj] at hx
        rw [add_plainL, Nat.zero_add, cell_of_row wr _ j _ _ _ HX.out.1, ← hx]
        simp [ivs, onesL, List.getElem?_append_left, List.getElem?_replicate, show j < n by omega]
      have hone : ∀ x ∈ CS, x.oneCell' = true := fun x hx => by rw [hCS] at hx; simp [ivs] at hx; rw [hx.2]; rfl
      have hfit : n + CS.length ≤ (ivs (onesL n C)).length := by rw [hcl]; simp [ivs, onesL]; omega
      have hsp := onesL_splice n q C hqC
      rw [← hCS] at hsp
      have hmin : CS.length = Nat.min n (C - n) := by rw [hcl, hq]
      have hrun := fun W (hW : W.heap[w.heap.size]? = some (.cells (ivs (onesL n C)).toArray 3 (0, 0))) (hs : ∀ j x, CS[j]? = some x → W.cell? ((⟨w.heap.size, 0, none⟩ : Addr).add j) = some x) => run_copy_row (P := Try.prog) W 22 22 3 3 w.heap.size n (C - n) (C - n) ⟨w.heap.size, 0, none⟩ n C _ 3 CS Try.underlying22 (by kernel_rfl) hW hmin hs (by simpa using hfit) hone
      have hr := hrun wr.drew HX.out.1 hsrc
      obtain ⟨w4, hw4⟩ : ∃ w4, w4 = wr.drew.setRow w.heap.size (((ivs (onesL n C)).toArray.toList.take n ++ CS ++ (ivs (onesL n C)).toArray.toList.drop (n + CS.length))).toArray := ⟨_, rfl⟩
      rw [← hw4, hcl] at hr
      have hg4 : w4.heap[w.heap.size]? = some (.cells (ivs (onesL (n + q) C)).toArray 3 (0, 0)) := by
        rw [hw4, setRow_heap wr.drew w.heap.size _ _ 3 _ HX.out.1, ← hsp]
        congr 2
        simp [splice]
      have hb4 : Below w.heap.size w w4 := by rw [hw4]; exact below_setRow (HX.out.2.2.drew) (Nat.le_refl _) _
      have HG4 := Lib.hid hg4; have HB4 := Lib.hid hb4
      have hr' : (Builtin.copy_ #[22, 22] 3 #[.slice (some ⟨w.heap.size, n, none⟩) (C - n) (C - n), .slice (some ⟨w.heap.size, 0, none⟩) n C]).run Try.prog wr.drew = .ok (.int .i64 (q : Int)) w4 := hr
      have hCn : ¬ C = n := by omega
      clear hcl hsrc hone hfit hsp hmin hCS hq hrun hr hw4 hg4 hb4
      go_wp2_with fail
      go_region
      all_goals
        go_wp2_with fail
        exact ⟨⟨n + q, by omega, hqC, by go_num, HG4.out, (Array.getElem?_eq_some_iff.1 HG4.out).1, HB4.out⟩, by simp [intOf]; omega⟩
    · obtain rfl : n = C := by omega
      go_wp2_with fail
      go_ret
      refine ⟨rfl, ?_, HX.out.2.2⟩
      have h := HX.out.1
      rw [onesL_all] at h
      unfold Ints
      refine ⟨by simp, .inr ⟨w.heap.size, n, _, by simp, Nat.le_refl _, h, by simp, by unfold maxLen; omega, by simp [ivs], by simp [ivs]⟩⟩

set_option maxHeartbeats 4000000 in
theorem countEndings_any (w : World) (L d : Nat) (h : d + L ≤ 20) :
    Calls Try.prog 71 #[.int .i64 L, .int .i64 d] w fun e w' => e = .returned (.int .i64 ((endN L d : Nat) : Int)) ∧ Below w.heap.size w w' := by
  obtain ⟨C, hC⟩ : ∃ C, C = L + 1 := ⟨_, rfl⟩
  have e0 : (L : Int) + 1 = (C : Int) := by omega
  have hCL : L < C := by omega
  have hC9 : C ≤ 21 := by omega
  have hrep := fun (w' : World) (hw : w' = w.alloc (.cells #[.int .i64 1] 3)) => repeat_any w' w.heap.size C (by rw [hw]; simp [go_sem]) (by rw [hw]; simp) (by omega) (by omega)
  have HREP := Lib.hid hrep; have HCC := Lib.hid hC
  clear hC hrep
  go_enter Try.func71, Try.ntmps71
  go_wp2_with fail
  refine (HREP.out _ rfl).mono ?_
  have hsz : (w.alloc (.cells #[.int .i64 1] 3)).heap.size = w.heap.size + 1 := by simp
  rw [hsz]
  rintro e w1 ⟨rfl, ho, hb⟩
  have HO := Lib.hid ho; have HB := Lib.hid ((below_alloc w _).trans (hb.mono (show w.heap.size ≤ w.heap.size + 1 by omega)))
  clear ho hb hsz
  go_wp2_with fail
  go_loopw [6] (fun lv wr => ∃ (l r : Nat) (xs : List Int), l + r = L ∧ lv = .int .i64 l ∧ Hid (xs.length = C ∧ (∀ j, j + r ≤ L → xs.getD j 0 = ((endN r (d + j) : Nat) : Int)) ∧ Ints wr (w.heap.size + 1) (.slice (some ⟨w.heap.size + 1, 0, none⟩) C C) xs ∧ Below w.heap.size w wr)) (fun lv _ => (intOf lv).toNat)
  case atStart => exact ⟨L, 0, List.replicate C 1, by omega, rfl, by simp, fun j hj => by rw [List.getD_eq_getElem?_getD, List.getElem?_replicate, if_pos (by omega)]; rfl, HO.out, HB.out⟩
  case round =>
    obtain ⟨l, r, xs, hlr, rfl, HX⟩ := hrel
    by_cases hl : 0 < l
    · obtain ⟨l1, hl1⟩ : ∃ l1, l = l1 + 1 := ⟨l - 1, by omega⟩
      have el : (l : Int) - 1 = (l1 : Int) := by omega
      have HL1 := Lib.hid hl1
      clear hl1
      go_wp2_with fail
      go_loopw [18] (fun pv ws => ∃ (p : Nat) (zs : List Int), p ≤ l ∧ pv = .int .i64 p ∧ Hid (zs.length = C ∧ (∀ j, j < p → zs.getD j 0 = ((endN (r + 1) (d + j) : Nat) : Int)) ∧ (∀ j, p ≤ j → j + r ≤ L → zs.getD j 0 = ((endN r (d + j) : Nat) : Int)) ∧ Ints ws (w.heap.size + 1) (.slice (some ⟨w.heap.size + 1, 0, none⟩) C C) zs ∧ Below w.heap.size w ws)) (fun pv _ => l - (intOf pv).toNat)
      case atStart => exact ⟨0, xs, Nat.zero_le _, rfl, HX.out.1, fun j h => by omega, fun j _ h => HX.out.2.1 j h, HX.out.2.2.1, HX.out.2.2.2⟩
      case round =>
        obtain ⟨p, zs, hp, rfl, HZ⟩ := hrel
        by_cases hpl : p < l
        · obtain ⟨p1, hp1⟩ : ∃ p1, p1 = p + 1 := ⟨_, rfl⟩
          have ep : (p : Int) + 1 = (p1 : Int) := by omega
          obtain ⟨s, hs⟩ : ∃ s, s = d + p := ⟨_, rfl⟩
          have es : (d : Int) + (p : Int) = (s : Int) := by omega
          have hc1 := ints_getD HZ.out.2.2.2.1 p (by rw [HZ.out.1]; omega)
          have hc2 := ints_getD HZ.out.2.2.2.1 p1 (by rw [HZ.out.1]; omega)
          have hc4 := ints_frozen HZ.out.2.2.2.1 HZ.out.1 p
          rw [HZ.out.2.2.1 p (Nat.le_refl _) (by omega), ← hs] at hc1
          rw [HZ.out.2.2.1 p1 (by omega) (by omega)] at hc2
          have hstep : endN (r + 1) s = s * endN r s + endN r (d + p1) := by rw [hp1, show d + (p + 1) = s + 1 by omega]; rfl
          have hbd := endN_le (k := r + 1) (m := s) (by omega)
          obtain ⟨a, ha⟩ : ∃ a, a = endN r s := ⟨_, rfl⟩
          obtain ⟨b, hb⟩ : ∃ b, b = endN r (d + p1) := ⟨_, rfl⟩
          obtain ⟨t, ht⟩ : ∃ t, t = s * a := ⟨_, rfl⟩
          rw [hstep, ← ha, ← hb, ← ht] at hbd
          rw [← ha, ← hb, ← ht] at hstep
          rw [← ha] at hc1
          rw [← hb] at hc2
          have hmul : (a : Int) * (s : Int) = (t : Int) := by rw [ht, Int.mul_comm]; simp
          have HST := Lib.hid hstep; have HP1 := Lib.hid hp1; have HSS := Lib.hid hs
          have hpC : p < C := by omega
          have hp1C : p1 < C := by omega
          clear ha hb ht hp1 hs hstep
          go_wp2_with fail
          go_region
          all_goals
            go_wp2_with fail
            refine ⟨⟨p1, zs.set p ((t : Int) + (b : Int)), by have := HP1.out; omega, by first | rfl | go_num, by simpa using HZ.out.1, fun j hj => ?_, fun j hj hr => ?_, ints_store HZ.out.2.2.2.1 HZ.out.1 p _, (HZ.out.2.2.2.2.setCell (p := ⟨w.heap.size + 1, p, none⟩) (by simp) _).drew⟩, by simp [intOf]; omega⟩
            · rw [getD_set _ _ _ _ (by rw [HZ.out.1]; exact hpC)]
              split
              · rename_i e; rw [e, ← HSS.out, HST.out]; simp
              · exact HZ.out.2.1 j (by have := HP1.out; omega)
            · rw [getD_set _ _ _ _ (by rw [HZ.out.1]; exact hpC), if_neg (by have := HP1.out; omega)]
              exact HZ.out.2.2.1 j (by have := HP1.out; omega) hr
        · obtain rfl : p = l := by omega
          go_wp2_with fail
          go_roundw
          case rel =>
            exact ⟨l1, r + 1, zs, by have := HL1.out; omega, by first | rfl | go_num, HZ.out.1, fun j hj => HZ.out.2.1 j (by have := HL1.out; omega), HZ.out.2.2.2.1, HZ.out.2.2.2.2⟩
          case measure => have := HL1.out; simp [intOf] <;> omega
    · obtain rfl : l = 0 := by omega
      have h3 := ints_getD HX.out.2.2.1 0 (by rw [HX.out.1]; omega)
      rw [HX.out.2.1 0 (by omega), Nat.add_zero, show r = L by omega] at h3
      go_wp2_with fail
      go_ret
      exact ⟨rfl, HX.out.2.2.2⟩
end Go.Proofs.Ytpglkgpaaflikaa
