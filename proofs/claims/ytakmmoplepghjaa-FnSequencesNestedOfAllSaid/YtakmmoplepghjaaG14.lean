/- The laws' helpers: equal rows are found the same, sums of rows, common divisors. -/
import Derived.Test.YtakmmoplepghjaaE1
namespace Go.Proofs.Ytakmmoplepghjaa
open Go.RowKit Go.BigFrame
set_option linter.unusedSimpArgs false
set_option linter.unusedVariables false
set_option maxRecDepth 4000

set_option maxHeartbeats 1000000 in
theorem fSame_same (w : World) (Ba Bb : Nat) (va vb : Value) (xs : List Int) (ha : Ints w Ba va xs) (hb : Ints w Bb vb xs) :
    Calls Try.prog 19 #[va, vb] w fun e w' => e = .returned (.bool true) ∧ Below w.heap.size w w' := by
  rcases ints_open ha with ⟨rfl, rfl⟩ | ⟨g, cap, rfl, _, hg, hn, hcp, hca, _⟩
  · rcases ints_open hb with ⟨rfl, _⟩ | ⟨g, cap, rfl, _⟩
    all_goals
      clear ha hb
      go_enter Try.func19, Try.ntmps19
      go_wp2_with fail
      refine wp_loop_rounds 1 ?_
      rw [rounds_succ]
      go_wp2
      go_ret
      exact ⟨rfl, Below.refl _ _⟩
  · rcases ints_open hb with ⟨rfl, h0⟩ | ⟨g', cap', rfl, _, hg', _, hcp', hcb, _⟩
    · subst h0
      clear ha hb
      go_enter Try.func19, Try.ntmps19
      go_wp2_with fail
      refine wp_loop_rounds 1 ?_
      rw [rounds_succ]
      go_wp2
      go_ret
      exact ⟨rfl, Below.refl _ _⟩
    · have HA := Lib.hid hca; have HB := Lib.hid hcb
      obtain ⟨N, hN⟩ : ∃ N, N = xs.length := ⟨_, rfl⟩
      have HN := Lib.hid hN
      rw [← hN] at hn ⊢
      have hne : ((N : Int) != (N : Int)) = false := by simp
      clear ha hb hca hcb hN
      go_enter Try.func19, Try.ntmps19
      go_wp2_with fail
      go_loopw [13] (fun i wr => ∃ (k : Nat), k ≤ N ∧ i = .int .i64 k ∧ Hid (Below w.heap.size w wr)) (fun i _ => N - (intOf i).toNat)
      case atStart => exact ⟨0, Nat.zero_le _, rfl, below_refl _⟩
      case round =>
        obtain ⟨k, hk, rfl, HW⟩ := hrel
        by_cases hlt : k < N
        · have h1 : wr.cell? ⟨g, k, none⟩ = some (.int .i64 (xs[k]'(by rw [← HN.out]; exact hlt))) := (HW.out.cell (p := ⟨g, k, none⟩) hg).trans (HA.out k (by rw [← HN.out]; exact hlt))
          have h2 : wr.cell? ⟨g', k, none⟩ = some (.int .i64 (xs[k]'(by rw [← HN.out]; exact hlt))) := (HW.out.cell (p := ⟨g', k, none⟩) hg').trans (HB.out k (by rw [← HN.out]; exact hlt))
          generalize (xs[k]'(by rw [← HN.out]; exact hlt)) = x at h1 h2
          have hx : (x != x) = false := by simp
          go_wp2_with fail
          go_quiet (fail)
          go_wp2_with fail
          go_roundw
          case rel => exact ⟨k + 1, by omega, by go_num, HW.out.trans (belowN _ _ _)⟩
          case measure => simp [intOf] <;> omega
        · obtain rfl : k = N := by omega
          go_wp2_with fail
          go_ret
          exact ⟨rfl, HW.out⟩

theorem sum_take_succ (xs : List Int) (k : Nat) (h : k < xs.length) : (xs.take (k + 1)).sum = (xs.take k).sum + xs[k] := by
  rw [List.take_succ_eq_append_getElem h, List.sum_append]; simp
theorem sum_in (xs : List Int) (hb : ∀ x ∈ xs, 0 ≤ x ∧ x ≤ 1000000) : ∀ k : Nat, k ≤ xs.length → 0 ≤ (xs.take k).sum ∧ (xs.take k).sum ≤ 1000000 * k
  | 0, _ => by simp
  | k + 1, h => by
    have ih := sum_in xs hb k (by omega)
    have hx := hb xs[k] (List.getElem_mem (by omega))
    rw [sum_take_succ xs k (by omega)]
    omega
set_option maxHeartbeats 1000000 in
theorem fSum_any (w : World) (B : Nat) (v : Value) (xs : List Int) (ha : Ints w B v xs) (hb : ∀ x ∈ xs, 0 ≤ x ∧ x ≤ 1000000) (hl : xs.length ≤ 1000000) :
    Calls Try.prog 20 #[v] w fun e w' => e = .returned (.int .i64 xs.sum) ∧ w = w' := by
  rcases ints_open ha with ⟨rfl, rfl⟩ | ⟨g, cap, rfl, _, hg, hn, hcp, hca, _⟩
  · clear ha
    go_enter Try.func20, Try.ntmps20
    go_wp2_with fail
    refine wp_loop_rounds 1 ?_
    rw [rounds_succ]
    go_wp2
    go_ret
    exact ⟨rfl, rfl⟩
  · have HA := Lib.hid hca
    obtain ⟨N, hN⟩ : ∃ N, N = xs.length := ⟨_, rfl⟩
    have HN := Lib.hid hN
    have HS := Lib.hid (show ∀ k, k ≤ N → 0 ≤ (xs.take k).sum ∧ (xs.take k).sum ≤ 1000000 * k by rw [hN]; exact sum_in xs hb)
    have HT := Lib.hid (show (xs.take N).sum = xs.sum by rw [hN, List.take_length])
    have HX := Lib.hid hb
    rw [← hN] at hn hl ⊢
    clear ha hca hN hb
    go_enter Try.func20, Try.ntmps20
    go_wp2_with fail
    go_loop [3, 8] (fun s i => ∃ (k : Nat) (S : Int), k ≤ N ∧ i = .int .i64 k ∧ s = .int .i64 S ∧ Hid (S = (xs.take k).sum)) (fun _ i => N - (intOf i).toNat)
    case atStart => exact ⟨0, 0, Nat.zero_le _, rfl, rfl, Lib.hid (by simp)⟩
    case round =>
      obtain ⟨k, S, hk, rfl, rfl, HW⟩ := hrel
      by_cases hlt : k < N
      · have hkl : k < xs.length := by rw [← HN.out]; exact hlt
        have h1 : w.cell? ⟨g, k, none⟩ = some (.int .i64 (xs[k]'hkl)) := HA.out k hkl
        have h2 := sum_take_succ xs k hkl
        have h3 := HS.out k hk
        have h4 := HX.out xs[k] (List.getElem_mem hkl)
        rw [← HW.out] at h2 h3
        generalize (xs[k]'hkl) = x at h1 h2 h4
        have H2 := Lib.hid h2; clear h2 hkl
        go_wp2_with fail
        go_round
        case rel => exact ⟨k + 1, S + x, by omega, by go_num, by go_num, Lib.hid H2.out.symm⟩
        case measure => simp [intOf] <;> omega
      · obtain rfl : k = N := by omega
        go_wp2_with fail
        go_ret
        exact ⟨ret_int (by rw [HW.out, HT.out]), rfl⟩

set_option maxHeartbeats 1000000 in
theorem fCommon_any (w : World) (a b : Nat) (ha : a ≤ 1000000000000) (hb : b ≤ 1000000000000) :
    Calls Try.prog 53 #[.int .i64 (a : Int), .int .i64 (b : Int)] w fun e w' => e = .returned (.int .i64 (Nat.gcd a b : Nat)) ∧ Below w.heap.size w w' := by
  obtain ⟨G, hG⟩ : ∃ G, G = Nat.gcd a b := ⟨_, rfl⟩
  rw [← hG]
  have HG := Lib.hid hG; clear hG
  go_enter Try.func53, Try.ntmps53
  go_wp2_with fail
  go_loopw [0, 1] (fun x y wr => ∃ (c d : Nat), x = .int .i64 (c : Int) ∧ y = .int .i64 (d : Int) ∧ c ≤ 1000000000000 ∧ d ≤ 1000000000000 ∧ Hid (Nat.gcd c d = G ∧ Below w.heap.size w wr)) (fun _ y _ => (intOf y).toNat)
  case atStart => exact ⟨a, b, rfl, rfl, ha, hb, Lib.hid ⟨HG.out.symm, below_refl _⟩⟩
  case round =>
    obtain ⟨c, d, rfl, rfl, hc, hd, HW⟩ := hrel
    by_cases hlt : 0 < d
    · have hr : (c : Int).tmod (d : Int) = ((c % d : Nat) : Int) := by rw [Int.tmod_eq_emod_of_nonneg (by omega)]; simp
      have hlt2 := Nat.mod_lt c hlt
      have H1 := Lib.hid (show Nat.gcd d (c % d) = G by rw [← HW.out.1, Nat.gcd_comm c d, Nat.gcd_rec d c, Nat.gcd_comm])
      generalize c % d = r at *
      go_wp2_with fail
      go_region
      all_goals
        go_wp2_with fail
        go_roundw
        case rel => exact ⟨d, r, rfl, by go_num, hd, by omega, Lib.hid ⟨H1.out, HW.out.2.trans (belowN _ _ _)⟩⟩
        case measure => simp [intOf] <;> omega
    · obtain rfl : d = 0 := by omega
      have HC := Lib.hid (show c = G by rw [← HW.out.1, Nat.gcd_zero_right])
      go_wp2_with fail
      go_ret
      exact ⟨ret_int (by rw [HC.out]), HW.out.2⟩
end Go.Proofs.Ytakmmoplepghjaa
