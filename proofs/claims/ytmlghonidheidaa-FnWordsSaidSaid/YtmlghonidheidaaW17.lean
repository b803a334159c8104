/- Law FnWordsSaid's helpers: rows of rows are found the same; sums and longest ones of runs, run by run. -/
import Derived.Test.YtmlghonidheidaaW16
import Derived.Test.YtmlghonidheidaaJ1
namespace Go.Proofs.Ytmlghonidheidaa
open Go.RowKit Go.BigFrame
set_option linter.unusedSimpArgs false
set_option linter.unusedVariables false
set_option maxRecDepth 4000

set_option maxHeartbeats 1000000 in
theorem fSame_same (w : World) (Ba Bb : Nat) (va vb : Value) (xs : List Int) (ha : Ints w Ba va xs) (hb : Ints w Bb vb xs) :
    Calls Try.prog 47 #[va, vb] w fun e w' => e = .returned (.bool true) ∧ Below w.heap.size w w' := by
  rcases ints_open ha with ⟨rfl, rfl⟩ | ⟨g, cap, rfl, _, hg, hn, hcp, hca, _⟩
  · rcases ints_open hb with ⟨rfl, _⟩ | ⟨g, cap, rfl, _⟩
    all_goals
      clear ha hb
      go_enter Try.func47, Try.ntmps47
      go_wp2_with fail
      refine wp_loop_rounds 1 ?_
      rw [rounds_succ]
      go_wp2
      go_ret
      exact ⟨rfl, Below.refl _ _⟩
  · rcases ints_open hb with ⟨rfl, h0⟩ | ⟨g', cap', rfl, _, hg', _, hcp', hcb, _⟩
    · subst h0
      clear ha hb
      go_enter Try.func47, Try.ntmps47
      go_wp2_with fail
      refine wp_loop_rounds 1 ?_
      rw [rounds_succ]
      go_wp2
      go_ret
      exact ⟨rfl, Below.refl _ _⟩
    · have HA := Lib.hid hca; have HB := Lib.hid hcb
      obtain ⟨N, hN⟩ : ∃ N, N = xs.length := ⟨_, rfl⟩
      have HN := Lib.hid hN
      rw [← hN] at hn ⊢
      have hne : ((N : Int) != (N : Int)) = false := by simp
      clear ha hb hca hcb hN
      go_enter Try.func47, Try.ntmps47
      go_wp2_with fail
      go_loopw [13] (fun i wr => ∃ (k : Nat), k ≤ N ∧ i = .int .i64 k ∧ Hid (Below w.heap.size w wr)) (fun i _ => N - (intOf i).toNat)
      case atStart => exact ⟨0, Nat.zero_le _, rfl, below_refl _⟩
      case round =>
        obtain ⟨k, hk, rfl, HW⟩ := hrel
        by_cases hlt : k < N
        · have h1 : wr.cell? ⟨g, k, none⟩ = some (.int .i64 (xs[k]'(by rw [← HN.out]; exact hlt))) := (HW.out.cell (p := ⟨g, k, none⟩) hg).trans (HA.out k (by rw [← HN.out]; exact hlt))
          have h2 : wr.cell? ⟨g', k, none⟩ = some (.int .i64 (xs[k]'(by rw [← HN.out]; exact hlt))) := (HW.out.cell (p := ⟨g', k, none⟩) hg').trans (HB.out k (by rw [← HN.out]; exact hlt))
          generalize (xs[k]'(by rw [← HN.out]; exact hlt)) = x at h1 h2
          have hx : (x != x) = false := by simp
          go_wp2_with fail
          go_quiet (fail)
          go_wp2_with fail
          go_roundw
          case rel => exact ⟨k + 1, by omega, by go_num, HW.out.trans (belowN _ _ _)⟩
          case measure => simp [intOf] <;> omega
        · obtain rfl : k = N := by omega
          go_wp2_with fail
          go_ret
          exact ⟨rfl, HW.out⟩

set_option maxHeartbeats 1000000 in
theorem fLists_same (w : World) (Ba Bb : Nat) (va vb : Value) (us vs : List Value) (nss : List (List Int)) (ha : IntsRR w Ba va us nss) (hb : IntsRR w Bb vb vs nss) :
    Calls Try.prog 25 #[va, vb] w fun e w' => e = .returned (.bool true) ∧ Below w.heap.size w w' := by
  rcases intsRR_open ha with ⟨rfl, rfl⟩ | ⟨g, cap, rfl, hn, hcp, hg, _, hca⟩
  · rcases intsRR_open hb with ⟨rfl, _⟩ | ⟨g, cap, rfl, _⟩
    all_goals
      clear ha hb
      go_enter Try.func25, Try.ntmps25
      go_wp2_with fail
      refine wp_loop_rounds 1 ?_
      rw [rounds_succ]
      go_wp2
      go_ret
      exact ⟨rfl, Below.refl _ _⟩
  · rcases intsRR_open hb with ⟨rfl, h0⟩ | ⟨g', cap', rfl, _, hcp', hg', _, hcb⟩
    · subst h0
      clear ha hb
      go_enter Try.func25, Try.ntmps25
      go_wp2_with fail
      refine wp_loop_rounds 1 ?_
      rw [rounds_succ]
      go_wp2
      go_ret
      exact ⟨rfl, Below.refl _ _⟩
    · have HA := Lib.hid hca; have HB := Lib.hid hcb
      obtain ⟨N, hN⟩ : ∃ N, N = nss.length := ⟨_, rfl⟩
      have HN := Lib.hid hN
      rw [← hN] at hn ⊢
      have hne : ((N : Int) != (N : Int)) = false := by simp
      clear ha hb hca hcb hN
      go_enter Try.func25, Try.ntmps25
      go_wp2_with fail
      go_loopw [13] (fun i wr => ∃ (k : Nat), k ≤ N ∧ i = .int .i64 k ∧ Hid (Below w.heap.size w wr)) (fun i _ => N - (intOf i).toNat)
      case atStart => exact ⟨0, Nat.zero_le _, rfl, below_refl _⟩
      case round =>
        obtain ⟨k, hk, rfl, HW⟩ := hrel
        by_cases hlt : k < N
        · obtain ⟨u, _, hu, hc1⟩ := HA.out k (by rw [← HN.out]; exact hlt)
          obtain ⟨u', _, hu', hc2⟩ := HB.out k (by rw [← HN.out]; exact hlt)
          have h1 : wr.cell? ⟨g, k, none⟩ = some u := (HW.out.cell (p := ⟨g, k, none⟩) hg).trans hc1
          have h2 : wr.cell? ⟨g', k, none⟩ = some u' := (HW.out.cell (p := ⟨g', k, none⟩) hg').trans hc2
          have HE := Lib.hid (fun (W : World) (hb : Below w.heap.size w W) => fSame_same W Ba Bb u u' _ (own_below hu hb) (own_below hu' hb))
          clear hc1 hc2 hu hu'
          go_wp2_with fail
          go_region_with (go_at_call 47; ((with_reducible refine (HE.out _ HW.out.drew).mono ?_); rintro e w2 ⟨rfl, hb2⟩; have HB2 := Lib.hid hb2; clear hb2))
          all_goals
            go_wp2_with fail
            go_roundw
            case rel => exact ⟨k + 1, by omega, by go_num, below_trans HW.out.drew HB2.out⟩
            case measure => simp [intOf] <;> omega
        · obtain rfl : k = N := by omega
          go_wp2
          go_ret
          exact ⟨rfl, HW.out⟩

theorem sumL_app (a b : List UInt8) : sumL (a ++ b) = sumL a + sumL b := by
  have key : ∀ (b : List UInt8) (x : Int), b.foldl (fun a c => a + ((c.toNat : Int) - 48)) x = x + b.foldl (fun a c => a + ((c.toNat : Int) - 48)) 0 := by
    intro b
    induction b with
    | nil => intro x; simp
    | cons c t ih =>
      intro x
      simp only [List.foldl_cons]
      rw [ih, ih (0 + _)]
      omega
  unfold sumL
  rw [List.foldl_append, key]
theorem sumL_rep (c : UInt8) : ∀ n : Nat, sumL (List.replicate n c) = ((c.toNat : Int) - 48) * (n : Int)
  | 0 => by simp [sumL]
  | n + 1 => by
    rw [List.replicate_succ', sumL_app, sumL_rep c n]
    have : sumL [c] = (c.toNat : Int) - 48 := by simp [sumL]
    rw [this]
    push_cast
    rw [Int.mul_add]
    omega
/-- One run more: sums, counts, the longest. -/
theorem runs_step (rs : List (UInt8 × Nat)) (k : Nat) (h : k < rs.length) :
    sumL (flatP (rs.take (k + 1))) = sumL (flatP (rs.take k)) + ((rs[k].1.toNat : Int) - 48) * (rs[k].2 : Int) ∧
    (flatP (rs.take (k + 1))).length = (flatP (rs.take k)).length + rs[k].2 ∧ longR (rs.take (k + 1)) = max (longR (rs.take k)) rs[k].2 := by
  rw [List.take_succ_eq_append_getElem h, flatP_snoc, sumL_app, sumL_rep, List.length_append, List.length_replicate, longR_snoc]
  exact ⟨rfl, rfl, rfl⟩
theorem flat_take_le (rs : List (UInt8 × Nat)) (k : Nat) : (flatP (rs.take k)).length ≤ (flatP rs).length := by
  have e : flatP rs = flatP (rs.take k) ++ flatP (rs.drop k) := by
    conv => lhs; rw [← List.take_append_drop k rs]
    unfold flatP; rw [List.flatMap_append]
  rw [e, List.length_append]; omega
end Go.Proofs.Ytmlghonidheidaa
