/- Chapter 8: all letters of a name, one of them, and the different ones, as the program counts them. -/
import Derived.Test.YtlcbdmmmafpchaaDoormg
namespace Go.Proofs.YtlcbdmmmafpchaaDoor
open Go.RowKit Go.BigFrame
set_option linter.unusedSimpArgs false
set_option linter.unusedVariables false
set_option maxRecDepth 4000

theorem info_iN : (Tryd.prog.info? 3).map (fun i => (i.zero, i.size, i.bytes)) = some (some (.int .i64 0), 1, 8) := by kernel_rfl
theorem run_indexT (ts : List Nat) (k n : Nat) (w : World) (h9 : ts.length = 26) (h : ts[k]? = some n) : (Instr.index 63 (aggT ts) (.int .i64 (k : Int))).run Tryd.prog w = .ok (.int .i64 (n : Int)) w := by
  have hk := get_lt h
  have hk2 : k < 26 := by omega
  have hc : (tvA ts)[k]? = some (.int .i64 (n : Int)) := by simp [tvA, tvl, h]
  have hs : (tvA ts).size = 26 := by rw [tvA_size, h9]
  obtain ⟨i0, hi0, hz0, hz1, hz2⟩ := info_parts info_iN
  simp [Instr.index, aggT, run_underlying under_spell, part, isAgg, run_underlying Tryd.underlying3, sizeOf, typeInfo, hi0, hz1, hc, asIntOf, (by omega : (0 : Int) ≤ (k : Int)), (by omega : (k : Int) < 26), go_sem]
  intro h26; omega

theorem sum_take_le (ts : List Nat) (k : Nat) : (ts.take k).sum ≤ ts.sum := by
  conv => rhs; rw [← List.take_append_drop k ts, List.sum_append]
  omega
theorem sum_take_succ (ts : List Nat) (k n : Nat) (h : ts[k]? = some n) : (ts.take (k + 1)).sum = (ts.take k).sum + n := by
  obtain ⟨hk, e⟩ := List.getElem?_eq_some_iff.1 h
  rw [List.take_succ_eq_append_getElem hk, List.sum_append, e]; simp

set_option maxHeartbeats 1000000 in
theorem letters_any (ts : List Nat) (w : World) (h9 : ts.length = 26) (hs : ts.sum ≤ 1000) :
    Calls Tryd.prog 55 #[aggT ts] w fun e w' => e = .returned (.int .i64 (ts.sum : Int)) ∧ Below w.heap.size w w' := by
  have hix := fun (W : World) (k n : Nat) => run_indexT ts k n W h9
  have hts := fun k => sum_take_le ts k
  have hsu := fun k n h => sum_take_succ ts k n h
  obtain ⟨S, hS⟩ : ∃ S, S = ts.sum := ⟨_, rfl⟩
  have hend : (ts.take 26).sum = S := by rw [hS, List.take_of_length_le (by omega)]
  rw [← hS] at hs hts ⊢
  have HIX := Lib.hid hix; have HTS := Lib.hid hts; have HSU := Lib.hid hsu; have HE := Lib.hid hend
  clear hix hts hsu hend hS
  have hagg : aggT ts = .agg (tvA ts) := rfl
  rw [hagg]
  go_enter Tryd.func55, Tryd.ntmps55
  go_wp2_with (refine wpList_getT rfl _ rfl w.heap.size rfl ts ⟨heap_alloc_new _ _, h9⟩ ?_)
  go_loopw [3, 7] (fun sv i wr => ∃ (k m : Nat), k ≤ 26 ∧ i = .int .i64 (k : Int) ∧ sv = .int .i64 (m : Int) ∧ m ≤ 1000 ∧ Hid (m = (ts.take k).sum ∧ Below w.heap.size w wr)) (fun _ i _ => 26 - (intOf i).toNat)
  case atStart => exact ⟨0, 0, by omega, rfl, rfl, by omega, by simp, below_alloc _ _⟩
  case round =>
    obtain ⟨k, m, hk, rfl, rfl, hm, HX⟩ := hrel
    by_cases hlt : k < 26
    · obtain ⟨n, hn⟩ : ∃ n, ts[k]? = some n := ⟨_, List.getElem?_eq_getElem (by omega)⟩
      have hid : ∀ W, (Instr.index 63 (.agg (tvA ts)) (.int .i64 (k : Int))).run Tryd.prog W = .ok (.int .i64 (n : Int)) W := fun W => HIX.out W k n hn
      have h1 := HSU.out k n hn
      have h2 := HTS.out (k + 1)
      have h3 := HX.out.1
      have hn4 : m + n ≤ 1000 := by omega
      have H1 := Lib.hid (show m + n = (ts.take (k + 1)).sum by omega)
      clear h1 h2 h3 hn
      go_wp2_with fail
      go_roundw
      case rel => exact ⟨k + 1, m + n, by omega, by go_num, by go_num, hn4, H1.out, HX.out.2⟩
      case measure => simp [intOf] <;> omega
    · obtain rfl : k = 26 := by omega
      have hm2 : m = S := by rw [HX.out.1, HE.out]
      subst hm2
      go_wp2_with fail
      go_ret
      exact ⟨rfl, HX.out.2⟩

/-- How many of the first counts are none. -/
def posN (ts : List Nat) : Nat := (ts.map (fun n => if 0 < n then 1 else 0)).sum
theorem posN_take (ts : List Nat) (k n : Nat) (h : ts[k]? = some n) : posN (ts.take (k + 1)) = posN (ts.take k) + if 0 < n then 1 else 0 := by
  obtain ⟨hk, e⟩ := List.getElem?_eq_some_iff.1 h
  unfold posN
  rw [List.take_succ_eq_append_getElem hk, List.map_append, List.sum_append, e]; simp
theorem posN_le (ts : List Nat) : posN ts ≤ ts.length := by
  induction ts with
  | nil => exact Nat.le_refl _
  | cons a t ih =>
    unfold posN at ih ⊢
    rw [List.map_cons, List.sum_cons, List.length_cons]
    split <;> omega
theorem posN_cnt (l : List UInt8) : posN (cntA l) = difN l := by
  unfold posN cntA difN
  rw [List.map_map]; rfl
theorem cntA_sum (l : List UInt8) (h : ∀ c ∈ l, 97 ≤ c.toNat ∧ c.toNat ≤ 122) : (cntA l).sum = l.length := count_sum l h

set_option maxHeartbeats 1000000 in
theorem different_any (ts : List Nat) (w : World) (h9 : ts.length = 26) (hs : ts.sum ≤ 1000) :
    Calls Tryd.prog 62 #[aggT ts] w fun e w' => e = .returned (.int .i64 (posN ts : Int)) ∧ Below w.heap.size w w' := by
  have hix := fun (W : World) (k n : Nat) => run_indexT ts k n W h9
  have hsu := fun k n h => posN_take ts k n h
  have hle : ∀ k n, ts[k]? = some n → n ≤ 1000 := fun k n h => by
    have := sum_take_succ ts k n h
    have := sum_take_le ts (k + 1)
    omega
  obtain ⟨S, hS⟩ : ∃ S, S = posN ts := ⟨_, rfl⟩
  have hend : posN (ts.take 26) = S := by rw [hS, List.take_of_length_le (by omega)]
  rw [← hS]
  have HIX := Lib.hid hix; have HSU := Lib.hid hsu; have HE := Lib.hid hend; have HLE := Lib.hid hle
  clear hix hsu hend hS hle
  have hagg : aggT ts = .agg (tvA ts) := rfl
  rw [hagg]
  go_enter Tryd.func62, Tryd.ntmps62
  go_wp2_with (refine wpList_getT rfl _ rfl w.heap.size rfl ts ⟨heap_alloc_new _ _, h9⟩ ?_)
  go_loopw [3, 7] (fun sv i wr => ∃ (k m : Nat), k ≤ 26 ∧ i = .int .i64 (k : Int) ∧ sv = .int .i64 (m : Int) ∧ m ≤ k ∧ Hid (m = posN (ts.take k) ∧ Below w.heap.size w wr)) (fun _ i _ => 26 - (intOf i).toNat)
  case atStart => exact ⟨0, 0, by omega, rfl, rfl, by omega, rfl, below_alloc _ _⟩
  case round =>
    obtain ⟨k, m, hk, rfl, rfl, hm, HX⟩ := hrel
    by_cases hlt : k < 26
    · obtain ⟨n, hn⟩ : ∃ n, ts[k]? = some n := ⟨_, List.getElem?_eq_getElem (by omega)⟩
      have hid : ∀ W, (Instr.index 63 (.agg (tvA ts)) (.int .i64 (k : Int))).run Tryd.prog W = .ok (.int .i64 (n : Int)) W := fun W => HIX.out W k n hn
      have h1 := HSU.out k n hn
      have hn1 := HLE.out k n hn
      by_cases h0 : 0 < n
      · rw [if_pos h0, ← HX.out.1] at h1
        have H1 := Lib.hid h1
        have h0z : (n : Int) > 0 := by omega
        have h0p : 0 < (n : Int) := by omega
        clear h1 hn h0
        go_wp2_with fail
        go_roundw
        case rel => exact ⟨k + 1, m + 1, by omega, by go_num, by go_num, by omega, H1.out.symm, HX.out.2⟩
        case measure => simp [intOf] <;> omega
      · rw [if_neg h0, ← HX.out.1] at h1
        have H1 := Lib.hid h1
        have h0z : ¬ (n : Int) > 0 := by omega
        have h0p : ¬ 0 < (n : Int) := by omega
        clear h1 hn h0
        go_wp2_with fail
        go_roundw
        case rel => exact ⟨k + 1, m, by omega, by go_num, rfl, by omega, H1.out.symm, HX.out.2⟩
        case measure => simp [intOf] <;> omega
    · obtain rfl : k = 26 := by omega
      have hm2 : m = S := by rw [HX.out.1, HE.out]
      subst hm2
      go_wp2_with fail
      go_ret
      exact ⟨rfl, HX.out.2⟩

set_option maxHeartbeats 1000000 in
theorem times_any (ts : List Nat) (c : UInt8) (w : World) (h9 : ts.length = 26) (hc : azB c = true) :
    Calls Tryd.prog 66 #[aggT ts, .string (bs [c])] w fun e w' => e = .returned (.int .i64 ((ts.getD (c.toNat - 97) 0 : Nat) : Int)) ∧ Below w.heap.size w w' := by
  have hc' : 97 ≤ c.toNat ∧ c.toNat ≤ 122 := of_decide_eq_true hc
  obtain ⟨d, hd⟩ : ∃ d, d = c.toNat - 97 := ⟨_, rfl⟩
  rw [← hd]
  have hd9 : d < 26 := by omega
  have hat : ts[d]? = some (ts.getD d 0) := by rw [List.getElem?_eq_getElem (by omega)]; simp [List.getD, show d < ts.length by omega]
  generalize ts.getD d 0 = n at *
  have hB : BlkT (w.alloc (.cells (tvA ts) 63)) w.heap.size ts := ⟨heap_alloc_new _ _, h9⟩
  have h1 := blkT_cell hB hat
  obtain ⟨t, ht⟩ : ∃ t, t = bs [c] := ⟨_, rfl⟩
  have ht1 : t.size = 1 := by rw [ht]; rfl
  have ht2 : 0 < t.size := by rw [ht1]; decide
  have ht0 : t[0] = c := by subst ht; rfl
  rw [← ht]
  have hsub : IntKind.u8.wrap ((t[0].toNat : Int) - 97) = (d : Int) := by rw [IntKind.wrap_u8, ht0]; omega
  have hsub2 : (t[0].toNat : Int) - 97 = (d : Int) := by rw [ht0]; omega
  have hmod : (d : Int) % 256 = (d : Int) := by omega
  have hagg : aggT ts = .agg (tvA ts) := rfl
  rw [hagg]
  clear hB hat ht ht0 hc hc' hd
  go_enter Tryd.func66, Tryd.ntmps66
  go_wp2_with fail
  go_ret
  exact ⟨rfl, below_alloc _ _⟩
theorem times_cnt (l : List UInt8) (c : UInt8) (hc : azB c = true) : (cntA l).getD (c.toNat - 97) 0 = l.count c := by
  have hc' : 97 ≤ c.toNat ∧ c.toNat ≤ 122 := of_decide_eq_true hc
  have e := cntA_at l (c.toNat - 97) (by omega)
  simp only [List.getD, e, Option.getD_some]
  congr 1
  unfold az; apply UInt8.toNat_inj.1; rw [UInt8.toNat_ofNat']; omega
end Go.Proofs.YtlcbdmmmafpchaaDoor
