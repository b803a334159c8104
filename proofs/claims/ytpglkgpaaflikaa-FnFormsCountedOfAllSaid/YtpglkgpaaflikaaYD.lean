/- Chapter 6: how many endings there are (pure, and the model's table). -/
import Derived.Test.YtpglkgpaaflikaaY7
import Derived.RegionTactic
import Derived.BigRegion
namespace Go.Proofs.Ytpglkgpaaflikaa
open Go.RowKit Go.BigFrame Go.Maps
set_option linter.unusedSimpArgs false
set_option linter.unusedVariables false
set_option maxRecDepth 4000

def endN : Nat → Nat → Nat
  | 0, _ => 1
  | k + 1, m => m * endN k m + endN k (m + 1)
theorem endN_mono : ∀ (k m : Nat), endN k m ≤ endN k (m + 1)
  | 0, _ => Nat.le_refl _
  | k + 1, m => by
    have h1 := endN_mono k m
    have h2 := endN_mono k (m + 1)
    show m * endN k m + endN k (m + 1) ≤ (m + 1) * endN k (m + 1) + endN k (m + 1 + 1)
    have h3 : m * endN k m ≤ (m + 1) * endN k (m + 1) := Nat.mul_le_mul (Nat.le_succ m) h1
    omega
theorem endN_up (k m : Nat) : endN k m ≤ endN (k + m) 0 := by
  induction m generalizing k with
  | zero => exact Nat.le_refl _
  | succ m ih =>
    have h := ih (k + 1)
    have h2 : endN k (m + 1) ≤ endN (k + 1) m := by show _ ≤ m * endN k m + endN k (m + 1); omega
    have e : k + 1 + m = k + (m + 1) := by omega
    rw [e] at h
    exact Nat.le_trans h2 h
theorem endN_zero_mono (k : Nat) : endN k 0 ≤ endN (k + 1) 0 := by
  show _ ≤ 0 * endN k 0 + endN k (0 + 1)
  have := endN_mono k 0
  omega
theorem endN_zero_le (k : Nat) : ∀ d, endN k 0 ≤ endN (k + d) 0
  | 0 => Nat.le_refl _
  | d + 1 => Nat.le_trans (endN_zero_le k d) (endN_zero_mono (k + d))
/-- A row of the table by a list, for the kernel. -/
def endRow (l : List Nat) : List Nat := (List.range (l.length - 1)).map fun m => m * l.getD m 0 + l.getD (m + 1) 0
def endTab : Nat → List Nat
  | 0 => List.replicate 22 1
  | k + 1 => endRow (endTab k)
theorem endTab_is : ∀ k, k ≤ 21 → (endTab k).length = 22 - k ∧ ∀ m, m + k < 22 → (endTab k).getD m 0 = endN k m
  | 0, _ => by
    refine ⟨by simp [endTab], fun m hm => ?_⟩
    show (List.replicate 22 1).getD m 0 = 1
    rw [List.getD_eq_getElem?_getD, List.getElem?_replicate, if_pos (by omega)]
    rfl
  | k + 1, h => by
    obtain ⟨h1, h2⟩ := endTab_is k (by omega)
    refine ⟨?_, fun m hm => ?_⟩
    · show (endRow (endTab k)).length = _
      unfold endRow
      rw [List.length_map, List.length_range, h1]; omega
    · show (endRow (endTab k)).getD m 0 = m * endN k m + endN k (m + 1)
      unfold endRow
      rw [List.getD_eq_getElem?_getD, List.getElem?_map, List.getElem?_range (by rw [h1]; omega)]
      simp only [Option.map_some, Option.getD_some]
      rw [h2 m (by omega), h2 (m + 1) (by omega)]
theorem endN_21 : endN 21 0 = 474869816156751 := by
  rw [← (endTab_is 21 (by omega)).2 0 (by omega)]
  decide +kernel
theorem endN_le {k m : Nat} (h : m + k ≤ 21) : endN k m ≤ 474869816156751 := by
  have h1 := endN_up k m
  have h2 := endN_zero_le (k + m) (21 - (k + m))
  rw [show k + m + (21 - (k + m)) = 21 by omega, endN_21] at h2
  omega

theorem getD_set (xs : List Int) (i j : Nat) (y : Int) (h : i < xs.length) : (xs.set i y).getD j 0 = if j = i then y else xs.getD j 0 := by
  rw [List.getD_eq_getElem?_getD, List.getElem?_set, List.getD_eq_getElem?_getD]
  by_cases e : j = i
  · subst e; simp [h]
  · rw [if_neg (fun h => e h.symm), if_neg e]
theorem ints_frozen {w : World} {B g n c : Nat} {xs : List Int} (h : Ints w B (.slice (some ⟨g, 0, none⟩) n c) xs) (hn : xs.length = n) (i : Nat) : w.frozen? ⟨g, i, none⟩ = false := by subst hn; exact World.ownsRow.frozenAt h i
theorem ints_store {w : World} {B g n c : Nat} {xs : List Int} (h : Ints w B (.slice (some ⟨g, 0, none⟩) n c) xs) (hn : xs.length = n) (i : Nat) (y : Int) : Ints (w.setCell ⟨g, i, none⟩ (.int .i64 y)) B (.slice (some ⟨g, 0, none⟩) n c) (xs.set i y) := by
  subst hn
  have := (World.ownsRow.stored h i (.int .i64 y)).1
  unfold Ints
  rw [List.length_set, List.map_set]
  exact this
theorem ints_getD {w : World} {B g n c : Nat} {xs : List Int} (h : Ints w B (.slice (some ⟨g, 0, none⟩) n c) xs) (i : Nat) (hi : i < xs.length) : w.cell? ⟨g, i, none⟩ = some (.int .i64 (xs.getD i 0)) := by
  rw [ints_at h i hi]; simp [List.getD, hi]

set_option maxHeartbeats 8000000 in
theorem plGo_any (w : World) (most left : Nat) (h : most + left ≤ 20) :
    Calls Try.prog 72 #[.int .i64 most, .int .i64 left] w fun e w' => e = .returned (.int .i64 ((endN left most : Nat) : Int)) ∧ Below w.heap.size w w' := by
  obtain ⟨i0, hi, hz0, hz1, hz2⟩ := info_parts info_intT
  obtain ⟨M, hM⟩ : ∃ M, M = most + left + 2 := ⟨_, rfl⟩
  have e1 : (most : Int) + (left : Int) + 2 = (M : Int) := by omega
  have hM9 : M ≤ 22 := by omega
  have hML : most + left + 1 < M := by omega
  clear hM
  go_enter Try.func72, Try.ntmps72
  go_wp2_with (refine wpList_make_full _ rfl _ _ 22 rfl w.heap.size 3 i0 (.int .i64 0) 1 Try.underlying22 hi hz0 hz1 .i64 .i64 (M : Int) (M : Int) M rfl rfl rfl rfl (by rw [hz2]; omega) (by unfold maxLen; omega) (Nat.le_refl _) ?_; intro w1 hown hgr; have HO := Lib.hid hown; have HB := Lib.hid ((Below.refl w.heap.size w).grown hgr (Nat.le_refl _) (fun k h => by cases h)); clear hown hgr)
  go_loopw [17] (fun iv wr => ∃ (k : Nat) (xs : List Int), k ≤ M ∧ iv = .int .i64 k ∧ Hid (xs.length = M ∧ (∀ j, j < k → xs.getD j 0 = 1) ∧ Ints wr w.heap.size (.slice (some ⟨w.heap.size, 0, none⟩) M M) xs ∧ Below w.heap.size w wr)) (fun iv _ => M - (intOf iv).toNat)
  case atStart =>
    refine ⟨0, List.replicate M 0, Nat.zero_le _, rfl, by simp, fun j h => by omega, ?_, HB.out⟩
    have e : (madeCells (Value.int .i64 0).cells (M * 1)).toList = (List.replicate M (0 : Int)).map (.int .i64) := by
      rw [Nat.mul_one, List.map_replicate]; exact toList_madeCells_one _ _
    unfold Ints
    rw [List.length_replicate]
    exact e ▸ HO.out
  case round =>
    obtain ⟨k, xs, hk, rfl, HX⟩ := hrel
    by_cases hlt : k < M
    · have h3 := ints_getD HX.out.2.2.1 k (by rw [HX.out.1]; exact hlt)
      have h4 := ints_frozen HX.out.2.2.1 HX.out.1 k
      obtain ⟨y, hy⟩ : ∃ y, y = xs.getD k 0 := ⟨_, rfl⟩
      rw [← hy] at h3
      clear hy
      go_wp2_with fail
      go_roundw
      case rel =>
        refine ⟨k + 1, xs.set k 1, by omega, by go_num, by simpa using HX.out.1, fun j hj => ?_, ints_store HX.out.2.2.1 HX.out.1 k 1, HX.out.2.2.2.setCell (p := ⟨w.heap.size, k, none⟩) (Nat.le_refl _) _⟩
        rw [getD_set _ _ _ _ (by rw [HX.out.1]; exact hlt)]
        split
        · rfl
        · exact HX.out.2.1 j (by omega)
      case measure => simp [intOf] <;> omega
    · obtain rfl : k = M := by omega
      go_wp2_with fail
      go_loopw [5, 7] (fun wv kv ws => ∃ (r g : Nat) (ys : List Int), r ≤ left ∧ kv = .int .i64 r ∧ wv = .slice (some ⟨g, 0, none⟩) k k ∧ Hid (ys.length = k ∧ (∀ j, j + r < k → ys.getD j 0 = ((endN r j : Nat) : Int)) ∧ Ints ws w.heap.size (.slice (some ⟨g, 0, none⟩) k k) ys ∧ Below w.heap.size w ws)) (fun _ kv _ => left - (intOf kv).toNat)
      case atStart => exact ⟨0, w.heap.size, xs, Nat.zero_le _, rfl, rfl, HX.out.1, fun j hj => HX.out.2.1 j (by omega), HX.out.2.2.1, HX.out.2.2.2⟩
      case round =>
        obtain ⟨r, g, ys, hr, rfl, rfl, HY⟩ := hrel
        by_cases hlt2 : r < left
        · obtain ⟨wz, hwz⟩ : ∃ wz, wz = wr := ⟨_, rfl⟩
          subst hwz
          go_wp2_with (refine wpList_make_full _ rfl _ _ 22 rfl wz.heap.size 3 i0 (.int .i64 0) 1 Try.underlying22 hi hz0 hz1 .i64 .i64 (k : Int) (k : Int) k rfl rfl rfl rfl (by rw [hz2]; omega) (by unfold maxLen; omega) (Nat.le_refl _) ?_; intro w2 hown hgr; have HO2 := Lib.hid hown; have HB2 := Lib.hid ((Below.refl wz.heap.size wz).grown hgr (Nat.le_refl _) (fun k h => by cases h)); clear hown hgr)
          have hgz : g < wz.heap.size := (HY.out.2.2.1.lt g rfl).2
          have hgz2 : wz.heap.size < w2.heap.size := (HO2.out.lt wz.heap.size rfl).2
          have HW2 := Lib.hid (show Ints w2 w.heap.size (.slice (some ⟨g, 0, none⟩) k k) ys from own_block HY.out.2.2.1 (fun j hj => by cases hj; exact HB2.out.block g hgz))
          have HBW := Lib.hid (below_trans HY.out.2.2.2 HB2.out)
          obtain ⟨L, hL⟩ : ∃ L, L = k - r := ⟨_, rfl⟩
          have eL : (k : Int) - (r : Int) = (L : Int) := by omega
          go_loopw [9] (fun mv ws => ∃ (m : Nat) (zs : List Int), m + 1 ≤ L ∧ mv = .int .i64 m ∧ Hid (zs.length = k ∧ (∀ j, j < m → zs.getD j 0 = ((endN (r + 1) j : Nat) : Int)) ∧ Ints ws w.heap.size (.slice (some ⟨wz.heap.size, 0, none⟩) k k) zs ∧ Ints ws w.heap.size (.slice (some ⟨g, 0, none⟩) k k) ys ∧ Below w.heap.size w ws)) (fun mv _ => L - (intOf mv).toNat)
          case atStart =>
            refine ⟨0, List.replicate k 0, by omega, rfl, by simp, fun j h => by omega, ?_, HW2.out, HBW.out⟩
            have e : (madeCells (Value.int .i64 0).cells (k * 1)).toList = (List.replicate k (0 : Int)).map (.int .i64) := by
              rw [Nat.mul_one, List.map_replicate]; exact toList_madeCells_one _ _
            unfold Ints
            rw [List.length_replicate]
            exact own_mono (e ▸ HO2.out) (by have := HY.out.2.2.2.size; omega)
          case round =>
            obtain ⟨m, zs, hm, rfl, HZ⟩ := hrel
            obtain ⟨m1, hm1⟩ : ∃ m1, m1 = m + 1 := ⟨_, rfl⟩
            have em : (m : Int) + 1 = (m1 : Int) := by omega
            by_cases hlt3 : m1 < L
            · have hc1 := ints_getD HZ.out.2.2.2.1 m (by rw [HY.out.1]; omega)
              have hc2 := ints_getD HZ.out.2.2.2.1 m1 (by rw [HY.out.1]; omega)
              rw [HY.out.2.1 m (by omega)] at hc1
              rw [HY.out.2.1 m1 (by omega)] at hc2
              have hc3 := ints_getD HZ.out.2.2.1 m (by rw [HZ.out.1]; omega)
              have hc4 := ints_frozen HZ.out.2.2.1 HZ.out.1 m
              have hstep : endN (r + 1) m = m * endN r m + endN r m1 := by rw [hm1]; rfl
              have hbd := endN_le (k := r + 1) (m := m) (by omega)
              obtain ⟨a, ha⟩ : ∃ a, a = endN r m := ⟨_, rfl⟩
              obtain ⟨b, hb⟩ : ∃ b, b = endN r m1 := ⟨_, rfl⟩
              obtain ⟨t, ht⟩ : ∃ t, t = m * a := ⟨_, rfl⟩
              obtain ⟨z, hz⟩ : ∃ z, z = zs.getD m 0 := ⟨_, rfl⟩
              rw [hstep, ← ha, ← hb, ← ht] at hbd
              rw [← ha, ← hb, ← ht] at hstep
              rw [← ha] at hc1
              rw [← hb] at hc2
              rw [← hz] at hc3
              have hmul : (m : Int) * (a : Int) = (t : Int) := by rw [ht]; simp
              have HST := Lib.hid hstep; have HM1 := Lib.hid hm1
              have hmk : m < k := by omega
              have hm1k : m1 < k := by omega
              clear ha hb ht hz hm1 hstep
              go_wp2_with fail
              go_region
              all_goals
                go_wp2_with fail
                refine ⟨⟨m1, zs.set m ((t : Int) + (b : Int)), by omega, rfl, by simpa using HZ.out.1, fun j hj => ?_, ints_store HZ.out.2.2.1 HZ.out.1 m _, ?_, (HZ.out.2.2.2.2.setCell (p := ⟨wz.heap.size, m, none⟩) (by have := HY.out.2.2.2.size; simpa using this) _).drew⟩, by simp [intOf]; omega⟩
                · rw [getD_set _ _ _ _ (by rw [HZ.out.1]; exact hmk)]
                  split
                  · rename_i e; rw [e, HST.out]; simp
                  · exact HZ.out.2.1 j (by have := HM1.out; omega)
                · exact own_block HZ.out.2.2.2.1 (fun j hj => by cases hj; exact Below.heap_setCell _ _ _ _ (by simp; omega))
            · obtain rfl : m1 = L := by omega
              have HM1 := Lib.hid hm1
              clear hm1
              go_wp2_with fail
              go_roundw
              case rel =>
                refine ⟨r + 1, wz.heap.size, zs, by omega, by go_num, rfl, HZ.out.1, fun j hj => ?_, HZ.out.2.2.1, HZ.out.2.2.2.2⟩
                exact HZ.out.2.1 j (by have := HM1.out; omega)
              case measure => simp [intOf] <;> omega
        · obtain rfl : r = left := by omega
          have h3 := ints_getD HY.out.2.2.1 most (by rw [HY.out.1]; omega)
          rw [HY.out.2.1 most (by omega)] at h3
          go_wp2_with fail
          go_ret
          exact ⟨rfl, HY.out.2.2.2⟩
end Go.Proofs.Ytpglkgpaaflikaa
