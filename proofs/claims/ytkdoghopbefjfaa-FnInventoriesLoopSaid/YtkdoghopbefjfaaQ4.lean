/- The sum of a tally. -/
import Derived.Test.YtkdoghopbefjfaaQ1
import Derived.Test.YtkdoghopbefjfaaT10
namespace Go.Proofs.Ytkdoghopbefjfaa
open Go.RowKit Go.BigFrame
set_option linter.unusedSimpArgs false
set_option linter.unusedVariables false
set_option maxRecDepth 4000

theorem sum_take_le (ts : List Nat) (k : Nat) : (ts.take k).sum ≤ ts.sum := by
  conv => rhs; rw [← List.take_append_drop k ts, List.sum_append]
  omega
theorem sum_take_succ (ts : List Nat) (k n : Nat) (h : ts[k]? = some n) : (ts.take (k + 1)).sum = (ts.take k).sum + n := by
  obtain ⟨hk, e⟩ := List.getElem?_eq_some_iff.1 h
  rw [List.take_succ_eq_append_getElem hk, List.sum_append, e]; simp
theorem pad_sum (q : List Nat) : (pad q).sum = q.sum := by simp [pad]

set_option maxHeartbeats 1000000 in
theorem sum_any (ts : List Nat) (w : World) (h9 : ts.length = 9) (hs : ts.sum ≤ 1000) :
    Calls Try.prog 77 #[aggT ts] w fun e w' => e = .returned (.int .i64 (ts.sum : Int)) ∧ Below w.heap.size w w' := by
  have hix := fun (W : World) (k n : Nat) => run_indexT ts k n W h9
  have hts := fun k => sum_take_le ts k
  have hsu := fun k n h => sum_take_succ ts k n h
  obtain ⟨S, hS⟩ : ∃ S, S = ts.sum := ⟨_, rfl⟩
  have hend : (ts.take 9).sum = S := by rw [hS, List.take_of_length_le (by omega)]
  rw [← hS] at hs hts ⊢
  have HIX := Lib.hid hix; have HTS := Lib.hid hts; have HSU := Lib.hid hsu; have HE := Lib.hid hend
  clear hix hts hsu hend hS
  have hagg : aggT ts = .agg (tvA ts) := rfl
  rw [hagg]
  go_enter Try.func77, Try.ntmps77
  go_wp2_with (refine wpList_getT rfl _ rfl w.heap.size rfl ts ⟨heap_alloc_new _ _, h9⟩ ?_)
  go_loopw [3, 7] (fun sv i wr => ∃ (k m : Nat), k ≤ 9 ∧ i = .int .i64 (k : Int) ∧ sv = .int .i64 (m : Int) ∧ m ≤ 1000 ∧ Hid (m = (ts.take k).sum ∧ Below w.heap.size w wr)) (fun _ i _ => 9 - (intOf i).toNat)
  case atStart => exact ⟨0, 0, by omega, rfl, rfl, by omega, by simp, below_alloc _ _⟩
  case round =>
    obtain ⟨k, m, hk, rfl, rfl, hm, HX⟩ := hrel
    by_cases hlt : k < 9
    · obtain ⟨n, hn⟩ : ∃ n, ts[k]? = some n := ⟨_, List.getElem?_eq_getElem (by omega)⟩
      have hid : ∀ W, (Instr.index 65 (.agg (tvA ts)) (.int .i64 (k : Int))).run Try.prog W = .ok (.int .i64 (n : Int)) W := fun W => HIX.out W k n hn
      have h1 := HSU.out k n hn
      have h2 := HTS.out (k + 1)
      have h3 := HX.out.1
      have hn4 : m + n ≤ 1000 := by omega
      have H1 := Lib.hid (show m + n = (ts.take (k + 1)).sum by omega)
      clear h1 h2 h3 hn
      go_wp2_with fail
      go_roundw
      case rel => exact ⟨k + 1, m + n, by omega, by go_num, by go_num, hn4, H1.out, HX.out.2⟩
      case measure => simp [intOf] <;> omega
    · obtain rfl : k = 9 := by omega
      have hm2 : m = S := by rw [HX.out.1, HE.out]
      subst hm2
      go_wp2_with fail
      go_ret
      exact ⟨rfl, HX.out.2⟩
end Go.Proofs.Ytkdoghopbefjfaa
