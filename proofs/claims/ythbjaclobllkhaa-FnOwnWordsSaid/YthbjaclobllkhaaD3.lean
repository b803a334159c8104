/- The model's lengths of a word. -/
import Derived.Test.YthbjaclobllkhaaD1
import Derived.Test.YthbjaclobllkhaaA5
namespace Go.Proofs.Ythbjaclobllkhaa
open Go.RowKit Go.BigFrame
set_option linter.unusedSimpArgs false
set_option linter.unusedVariables false
set_option maxRecDepth 4000

theorem lensR_take (rs : List (UInt8 × Nat)) (k : Nat) (h : k < rs.length) : lensR (rs.take (k + 1)) = lensR (rs.take k) ++ [nDig rs[k].2] := by
  unfold lensR
  rw [List.take_succ_eq_append_getElem h, List.map_append]; rfl

set_option maxHeartbeats 2000000 in
theorem ruLengths_any (s : ByteArray) (w : World) (hs : s.size ≤ 400) (hd : s.data.toList.all digB = true) (h9 : longL s.data.toList ≤ 9) :
    Calls Try.prog 50 #[.string s] w fun e w' => e = .returned (.string (bs (lensL s.data.toList))) ∧ Below w.heap.size w w' := by
  go_enter Try.func50, Try.ntmps50
  go_wp2_with fail
  refine (woRuns_any s w hs hd).mono ?_
  rintro e w1 ⟨v, vs, rfl, hrr, hb⟩
  have HB := Lib.hid hb
  obtain ⟨rs, hrs⟩ : ∃ rs, rs = runsL s.data.toList := ⟨_, rfl⟩
  have hrows : rowsL s.data.toList = rs.map rowOf := by rw [hrs]; rfl
  have hlen : lensL s.data.toList = lensR rs := by rw [hrs]; rfl
  have hN4 : rs.length ≤ 400 := by rw [hrs]; exact Nat.le_trans (runsL_len _) (by simpa using hs)
  have hdg : ∀ k (h : k < rs.length), rs[k].2 ≤ 9 := by
    subst hrs; intro k h
    exact Nat.le_trans (le_longR' (List.getElem_mem h)) h9
  have HD := Lib.hid hdg
  rw [hrows] at hrr
  rcases ownsRR_open hrr with ⟨rfl, _, hx⟩ | ⟨g, cap, rfl, hc1, hc2, _, hgs, hcell⟩
  · have hrn : rs = [] := List.map_eq_nil_iff.1 hx
    have HL := Lib.hid hlen; have HR := Lib.hid hrn
    clear hrr hb hlen hrows hrs hdg hx hrn hN4
    go_wp2_with fail
    refine wp_loop_rounds 1 ?_
    rw [rounds_succ]
    go_wp2_with fail
    go_ret
    exact ⟨ret_str (by rw [HL.out, HR.out]; rfl), HB.out⟩
  · have hat : ∀ k (h : k < rs.length), ∃ b c, b < w1.heap.size ∧ w1.cell? ⟨g, k, none⟩ = some (.slice (some ⟨b, 0, none⟩) 2 c) ∧ w1.cell? ⟨b, 1, none⟩ = some (.int .i64 (rs[k].2 : Int)) := by
      intro k h
      obtain ⟨b, c, e1, e2, e3⟩ := ownsRR_at2 hrr (i := k) (x := .int .i64 ((rs[k].1.toNat : Int) - 48)) (y := .int .i64 (rs[k].2 : Int)) (by simp [h, rowOf])
      exact ⟨b, c, World.block_lt_of_cell? w1 _ e2, hcell k (by simpa using h) _ e1, e3⟩
    have HA := Lib.hid hat
    have HL := Lib.hid hlen
    simp only [List.length_map] at hc1 ⊢
    obtain ⟨N, hN⟩ : ∃ N, N = rs.length := ⟨_, rfl⟩
    simp only [← hN] at hc1 hN4 ⊢
    have HN := Lib.hid hN
    clear hrr hb hlen hrows hrs hcell hat hN hdg
    go_wp2_with fail
    go_loopw [3, 9] (fun o i wr => ∃ (k : Nat) (t : ByteArray), k ≤ N ∧ i = .int .i64 k ∧ o = .string t ∧ t.size ≤ k ∧ Hid (t.data.toList = lensR (rs.take k)) ∧ Hid (Below w1.heap.size w1 wr)) (fun _ i _ => N - (intOf i).toNat)
    case atStart => exact ⟨0, bs [], Nat.zero_le _, rfl, rfl, by simp [bs_size], by rw [bs_list]; exact rfl, below_refl _⟩
    case round =>
      obtain ⟨k, t, hk, rfl, rfl, ht, HT, HW⟩ := hrel
      by_cases hlt : k < N
      · have hlt' : k < rs.length := by rw [← HN.out]; exact hlt
        obtain ⟨b, c, hbs, hc0, hc2'⟩ := HA.out k hlt'
        have hd3 := HD.out k hlt'
        have hsn := Lib.hid (lensR_take rs k hlt')
        obtain ⟨n, hnn⟩ : ∃ n, n = rs[k].2 := ⟨_, rfl⟩
        simp only [← hnn] at hc2' hd3
        have HNN := Lib.hid hnn; clear hnn
        have hr0 : wr.cell? ⟨g, k, none⟩ = some (.slice (some ⟨b, 0, none⟩) 2 c) := (HW.out.cell (p := ⟨g, k, none⟩) hgs).trans hc0
        have hr2 : wr.cell? ⟨b, 1, none⟩ = some (.int .i64 (n : Int)) := (HW.out.cell (p := ⟨b, 1, none⟩) hbs).trans hc2'
        have hl1 : (bs (numL n)).size = 1 := by rw [bs_size, numL_one n (by omega)]; rfl
        clear hc0 hc2' hbs
        have hn1 := fun (W : World) => l1Num_any n (n : Int) W (by omega) (by omega) (by omega)
        rw [show ((n : Int)).toNat = n from by omega] at hn1
        have H1 := Lib.hid hn1; clear hn1
        go_wp2_with (go_at_call 31; refine (H1.out _).mono ?_; rintro e w2 ⟨rfl, hb1⟩)
        go_roundw
        case rel =>
          refine ⟨k + 1, _, by omega, by go_num, rfl, ?_, ?_, below_trans HW.out hb1⟩
          · simp only [ByteArray.size_append]; omega
          · rw [list_append, HT.out, bs_list, hsn.out, numL_one n (by omega), HNN.out]; rfl
        case measure => simp [intOf] <;> omega
      · obtain rfl : k = N := by omega
        go_wp2
        go_ret
        exact ⟨ret_str (bs_eq (by rw [HT.out, HL.out, List.take_of_length_le (by rw [← HN.out]; exact Nat.le_refl _)])), HB.out.trans (HW.out.mono HB.out.size)⟩
end Go.Proofs.Ythbjaclobllkhaa
