/- bytes.Repeat at one byte. -/
import Derived.Test.YthbjaclobllkhaaI4
import Derived.Test.YthbjaclobllkhaaS
import Derived.Laws.CopyOwn
import Derived.Deep.RegionLaw
import Derived.Lib.MakeNoZero
namespace Go.Proofs.Ythbjaclobllkhaa
open Go.RowKit Go.BigFrame
set_option linter.unusedSimpArgs false
set_option linter.unusedVariables false
set_option maxRecDepth 4000

theorem mkz (W : World) (n : Nat) (h : n ≤ 400) : ∃ cs : Array Value, (callFunc 69 #[.int .i64 n]).run Try.prog W = .ok (.value (.slice (some ⟨W.heap.size, 0, none⟩) n cs.size)) (W.drew.drew.alloc (.cells cs 5)) ∧ n ≤ cs.size ∧ cs.size ≤ maxLen := by
  obtain ⟨cs, h1, h2, h3⟩ := Go.Lib.run_makeNoZero (P := Try.prog) W Try.f69.params 22 5 Try.underlying22 n (by omega)
  refine ⟨cs, ?_, h2, h3 (by unfold maxLen; omega)⟩
  rw [run_callFunc_extern (e := Extern.BytealgMakeNoZero.makeNoZero Try.f69.params #[22]) Try.func69 (by kernel_rfl) (by kernel_rfl) (by kernel_rfl) (by kernel_rfl), h1]
  rfl

set_option maxHeartbeats 4000000 in
theorem repeat_one (w : World) (x n : Nat) (c : Int) (h1 : 1 ≤ n) (h2 : n ≤ 400) (hc : w.cell? ⟨x, 0, none⟩ = some (.int .u8 c)) :
    Calls Try.prog 63 #[.slice (some ⟨x, 0, none⟩) 1 1, .int .i64 n] w fun e w' => ∃ g, e = .returned (.slice (some ⟨g, 0, none⟩) n n) ∧ w.heap.size ≤ g ∧ (∀ i, i < n → w'.cell? ⟨g, i, none⟩ = some (.int .u8 c)) ∧ Below w.heap.size w w' := by
  have hm := fun (W : World) => Try.bits_Mul 1 n (by omega) (by omega) W
  have e1 : 1 * n / 18446744073709551616 = 0 := by omega
  have e2 : 1 * n % 18446744073709551616 = n := by omega
  rw [e1, e2] at hm
  simp only [Int.natCast_one, Int.natCast_zero] at hm
  have HM := Lib.hid hm
  clear hm e1 e2
  go_enter Try.func63, Try.ntmps63
  go_wp2_with fail
  refine (HM.out w).mono ?_
  rintro e w1 ⟨rfl, rfl⟩
  obtain ⟨cs, hmk, hcs1, hcs2⟩ := mkz w1 n h2
  have hsz : (Try.prog.info? 5).map (·.size) = some 1 := by kernel_rfl
  unfold maxLen at hcs2
  have hg0 : (w1.alloc (.cells cs 5)).drew.drew.heap[w1.heap.size]? = some (.cells cs.toList.toArray 5 (0, 0)) := heap_alloc_new w1 _
  have hcx : (w1.alloc (.cells cs 5)).drew.drew.cell? ⟨x, 0, none⟩ = some (.int .u8 c) := ((below_alloc w1 _).cell (p := ⟨x, 0, none⟩) (World.block_lt_of_cell? w1 _ hc)).trans hc
  have hb0 : Below w1.heap.size w1 (w1.alloc (.cells cs 5)).drew.drew := (below_alloc w1 _).drew.drew
  have HG0 := Lib.hid hg0; have HB0 := Lib.hid hb0
  clear hg0 hb0
  go_wp2_with (with_reducible refine wpList_copy_splice rfl (.tmp 58) (.tmp 59) 22 22 rfl 5 Try.underlying22 hsz (some ⟨w1.heap.size, 0, none⟩) (some ⟨x, 0, none⟩) n n 1 1 rfl rfl w1.heap.size 0 cs.toList 5 HG0.out [.int .u8 c] ?hn ?hpos ?hfit ?h1 w1.heap.size w1 HB0.out (Nat.le_refl _) ?_)
  case hn => simp [Nat.min_eq_left h1]
  case hpos =>
    intro j v hj
    match j, hj with
    | 0, hj => simp at hj; subst hj; exact hcx
  case hfit => simp; omega
  case h1 => intro v hv; simp at hv; subst hv; rfl
  intro w2 hw2 hb2
  have HB2 := Lib.hid hb2
  obtain ⟨N, hN⟩ : ∃ N, N = cs.size := ⟨_, rfl⟩
  have hst : Hid (∃ cur : List Value, w2.heap[w1.heap.size]? = some (.cells cur.toArray 5 (0, 0)) ∧ cur.length = N ∧ ∀ i, i < 1 → cur[i]? = some (.int .u8 c)) := by
    refine ⟨_, hw2.out, by rw [length_splice _ _ _ (by simp; omega)]; simp [hN], fun i hi => ?_⟩
    obtain rfl : i = 0 := by omega
    simp [splice]
  rw [← hN] at hcs1 hcs2
  clear hb2 hcx hmk HG0 HB0 hw2 hN hc
  have hn0 : (0 : Int) ≤ (n : Int) := by omega
  go_wp2_with fail
  go_loopw [10] (fun q wr => ∃ k : Nat, q = .int .i64 k ∧ 1 ≤ k ∧ k ≤ n ∧ Hid ((∃ cur : List Value, wr.heap[w1.heap.size]? = some (.cells cur.toArray 5 (0, 0)) ∧ cur.length = N ∧ ∀ i, i < k → cur[i]? = some (.int .u8 c)) ∧ Below w1.heap.size w1 wr)) (fun q _ => n - (intOf q).toNat)
  case atStart => exact ⟨1, rfl, by omega, by omega, hst.out, HB2.out⟩
  case round =>
    obtain ⟨k, rfl, hk1, hk, HX⟩ := hrel
    by_cases hlt : k < n
    · obtain ⟨cur, hc1, hc2, hc3⟩ := HX.out.1
      have hbr := HX.out.2
      obtain ⟨m, hm⟩ : ∃ m, m = Nat.min k (n - k) := ⟨_, rfl⟩
      have hmk : m ≤ k := by rw [hm]; exact Nat.min_le_left _ _
      have hmn : m ≤ n - k := by rw [hm]; exact Nat.min_le_right _ _
      have hm1 : 1 ≤ m := by rw [hm]; exact Nat.le_min.2 ⟨hk1, by omega⟩
      have hC1 := Lib.hid hc1; have hC3 := Lib.hid hc3; have hBR := Lib.hid hbr; have HM := Lib.hid hm; have HC2 := Lib.hid hc2
      clear hc1 hc3 hbr hm hc2
      have hnk : ¬ ((n : Int) < (k : Int)) := by omega
      have f1 : (k : Int) ≤ (n : Int) := by omega
      have f2 : (0 : Int) ≤ (k : Int) := by omega
      have hmin : min (k : Int) (n : Int) = (k : Int) := by omega
      have e1 : IntKind.i64.wrap ((k : Int) + (m : Int)) = (k : Int) + (m : Int) := IntWalk.i64_in _ (by omega)
      have hpos' : ∀ j v, (List.replicate m (Value.int .u8 c))[j]? = some v → wr.drew.cell? ((⟨w1.heap.size, 0, none⟩ : Addr).add j) = some v := by
        intro j v hj
        have hjm : j < m := by have := get_lt hj; simpa using this
        rw [List.getElem?_replicate, if_pos hjm] at hj
        cases hj
        have hadd : (⟨w1.heap.size, 0, none⟩ : Addr).add j = ⟨w1.heap.size, j, none⟩ := by unfold Addr.add; split <;> simp_all
        rw [hadd]
        show wr.cell? _ = _
        rw [World.cell?, hC1.out]
        simp [hC3.out j (by omega)]
      have HP := Lib.hid hpos'
      clear hpos'
      go_wp2_with fail
      go_region_law (refine step_copy_splice rfl (.tmp 70) (.tmp 73) 22 22 rfl 5 Try.underlying22 hsz (some ⟨w1.heap.size, k, none⟩) (some ⟨w1.heap.size, 0, none⟩) (n - k) (n - k) k n (by simp [Act.eval, Act.put]; omega) (by simp [Act.eval, Act.put]) w1.heap.size k cur 5 hC1.out (List.replicate m (.int .u8 c)) (by rw [List.length_replicate]; exact HM.out) (fun _ => ⟨rfl, _, rfl, HP.out⟩) (by simp [HC2.out]; omega) (fun v hv => by rw [List.eq_of_mem_replicate hv]; rfl) w1.heap.size w1 hBR.out.drew (Nat.le_refl _) ?_; intro w3 hw3 hb3)
      have HW3 := Lib.hid hb3
      clear hb3
      go_wp2_with fail
      go_roundw
      case rel =>
        refine ⟨k + m, by go_num, by omega, by omega, ⟨_, hw3.out, by rw [length_splice _ _ _ (by simp [HC2.out]; omega)]; exact HC2.out, fun i hi => ?_⟩, HW3.out⟩
        unfold splice
        by_cases hik : i < k
        · rw [List.getElem?_append_left (by simp [HC2.out]; omega), List.getElem?_take, if_pos hik]
          exact hC3.out i hik
        · rw [List.getElem?_append_right (by simp [HC2.out]; omega), List.getElem?_append_left (by simp [HC2.out]; omega), List.getElem?_replicate, if_pos (by simp [HC2.out]; omega)]
      case measure => simp [intOf] <;> omega
    · obtain rfl : k = n := by omega
      go_wp2_with fail
      go_ret
      obtain ⟨cur, hc1, hc2, hc3⟩ := HX.out.1
      refine ⟨_, rfl, Nat.le_refl _, fun i hi => ?_, HX.out.2⟩
      rw [World.cell?, hc1]
      simp [hc3 i hi]
end Go.Proofs.Ythbjaclobllkhaa
