/- Rows of the call's own and an argument's rows are found the same. -/
import Derived.Test.YtmlghonidheidaaW17
import Derived.Test.YtmlghonidheidaaI18
namespace Go.Proofs.Ytmlghonidheidaa
open Go.RowKit Go.BigFrame
set_option linter.unusedSimpArgs false
set_option linter.unusedVariables false
set_option maxRecDepth 4000

set_option maxHeartbeats 1000000 in
theorem fSame_arg (w : World) (Ba : Nat) (va vb : Value) (xs : List Int) (ha : Ints w Ba va xs) (hb : ArgI w vb xs) :
    Calls Try.prog 47 #[va, vb] w fun e w' => e = .returned (.bool true) ∧ Below w.heap.size w w' := by
  rcases ints_open ha with ⟨rfl, rfl⟩ | ⟨g, cap, rfl, _, hg, hn, hcp, hca, _⟩
  · rcases argI_open hb with ⟨A', C', rfl, _⟩ | ⟨g, o', cap, rfl, _⟩
    all_goals
      clear ha hb
      go_enter Try.func47, Try.ntmps47
      go_wp2_with fail
      refine wp_loop_rounds 1 ?_
      rw [rounds_succ]
      go_wp2
      go_ret
      exact ⟨rfl, Below.refl _ _⟩
  · rcases argI_open hb with ⟨A', C', rfl, h0⟩ | ⟨g', o', cap', rfl, _, hcp', hg', _, hcb⟩
    · subst h0
      clear ha hb
      go_enter Try.func47, Try.ntmps47
      go_wp2_with fail
      refine wp_loop_rounds 1 ?_
      rw [rounds_succ]
      go_wp2
      go_ret
      exact ⟨rfl, Below.refl _ _⟩
    · have HA := Lib.hid hca; have HB := Lib.hid hcb
      obtain ⟨N, hN⟩ : ∃ N, N = xs.length := ⟨_, rfl⟩
      have HN := Lib.hid hN
      rw [← hN] at hn ⊢
      have hne : ((N : Int) != (N : Int)) = false := by simp
      clear ha hb hca hcb hN
      go_enter Try.func47, Try.ntmps47
      go_wp2_with fail
      go_loopw [13] (fun i wr => ∃ (k : Nat), k ≤ N ∧ i = .int .i64 k ∧ Hid (Below w.heap.size w wr)) (fun i _ => N - (intOf i).toNat)
      case atStart => exact ⟨0, Nat.zero_le _, rfl, below_refl _⟩
      case round =>
        obtain ⟨k, hk, rfl, HW⟩ := hrel
        by_cases hlt : k < N
        · have h1 : wr.cell? ⟨g, k, none⟩ = some (.int .i64 (xs[k]'(by rw [← HN.out]; exact hlt))) := (HW.out.cell (p := ⟨g, k, none⟩) hg).trans (HA.out k (by rw [← HN.out]; exact hlt))
          have h2 : wr.cell? ⟨g', o' + k, none⟩ = some (.int .i64 (xs[k]'(by rw [← HN.out]; exact hlt))) := (HW.out.cell (p := ⟨g', o' + k, none⟩) hg').trans (HB.out k (by rw [← HN.out]; exact hlt))
          generalize (xs[k]'(by rw [← HN.out]; exact hlt)) = x at h1 h2
          have hx : (x != x) = false := by simp
          go_wp2_with fail
          go_quiet (fail)
          go_wp2_with fail
          go_roundw
          case rel => exact ⟨k + 1, by omega, by go_num, HW.out.trans (belowN _ _ _)⟩
          case measure => simp [intOf] <;> omega
        · obtain rfl : k = N := by omega
          go_wp2_with fail
          go_ret
          exact ⟨rfl, HW.out⟩

set_option maxHeartbeats 1000000 in
theorem fLists_arg (w : World) (Ba : Nat) (va vb : Value) (us : List Value) (nss : List (List Int)) (ha : IntsRR w Ba va us nss) (hb : ArgR w vb nss) :
    Calls Try.prog 25 #[va, vb] w fun e w' => e = .returned (.bool true) ∧ Below w.heap.size w w' := by
  rcases intsRR_open ha with ⟨rfl, rfl⟩ | ⟨g, cap, rfl, hn, hcp, hg, _, hca⟩
  · rcases argR_open hb with ⟨A', C', rfl, _⟩ | ⟨g, o', cap, rfl, _⟩
    all_goals
      clear ha hb
      go_enter Try.func25, Try.ntmps25
      go_wp2_with fail
      refine wp_loop_rounds 1 ?_
      rw [rounds_succ]
      go_wp2
      go_ret
      exact ⟨rfl, Below.refl _ _⟩
  · rcases argR_open hb with ⟨A', C', rfl, h0⟩ | ⟨g', o', cap', rfl, _, hcp', hg', _, hcb⟩
    · subst h0
      clear ha hb
      go_enter Try.func25, Try.ntmps25
      go_wp2_with fail
      refine wp_loop_rounds 1 ?_
      rw [rounds_succ]
      go_wp2
      go_ret
      exact ⟨rfl, Below.refl _ _⟩
    · have HA := Lib.hid hca; have HB := Lib.hid hcb
      obtain ⟨N, hN⟩ : ∃ N, N = nss.length := ⟨_, rfl⟩
      have HN := Lib.hid hN
      rw [← hN] at hn ⊢
      have hne : ((N : Int) != (N : Int)) = false := by simp
      clear ha hb hca hcb hN
      go_enter Try.func25, Try.ntmps25
      go_wp2_with fail
      go_loopw [13] (fun i wr => ∃ (k : Nat), k ≤ N ∧ i = .int .i64 k ∧ Hid (Below w.heap.size w wr)) (fun i _ => N - (intOf i).toNat)
      case atStart => exact ⟨0, Nat.zero_le _, rfl, below_refl _⟩
      case round =>
        obtain ⟨k, hk, rfl, HW⟩ := hrel
        by_cases hlt : k < N
        · obtain ⟨u, _, hu, hc1⟩ := HA.out k (by rw [← HN.out]; exact hlt)
          obtain ⟨u', hu', hc2⟩ := HB.out k (by rw [← HN.out]; exact hlt)
          have h1 : wr.cell? ⟨g, k, none⟩ = some u := (HW.out.cell (p := ⟨g, k, none⟩) hg).trans hc1
          have h2 : wr.cell? ⟨g', o' + k, none⟩ = some u' := (HW.out.cell (p := ⟨g', o' + k, none⟩) hg').trans hc2
          have HE := Lib.hid (fun (W : World) (hb : Below w.heap.size w W) => fSame_arg W Ba u u' _ (own_below hu hb) (argI_below hu' hb))
          clear hc1 hc2 hu hu'
          go_wp2_with fail
          go_region_with (go_at_call 47; ((with_reducible refine (HE.out _ HW.out.drew).mono ?_); rintro e w2 ⟨rfl, hb2⟩; have HB2 := Lib.hid hb2; clear hb2))
          all_goals
            go_wp2_with fail
            go_roundw
            case rel => exact ⟨k + 1, by omega, by go_num, below_trans HW.out.drew HB2.out⟩
            case measure => simp [intOf] <;> omega
        · obtain rfl : k = N := by omega
          go_wp2
          go_ret
          exact ⟨rfl, HW.out⟩
end Go.Proofs.Ytmlghonidheidaa
