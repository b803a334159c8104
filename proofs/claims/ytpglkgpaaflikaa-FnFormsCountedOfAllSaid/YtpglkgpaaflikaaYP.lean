/- Helpers of the laws at rows of rows: qRows, qLess. -/
import Derived.Test.YtpglkgpaaflikaaYH
import Derived.Test.YtpglkgpaaflikaaYO
namespace Go.Proofs.Ytpglkgpaaflikaa
open Go.RowKit Go.BigFrame Go.Maps
set_option linter.unusedSimpArgs false
set_option linter.unusedVariables false
set_option maxRecDepth 4000

theorem lesL_at (xs ys : List Int) (k : Nat) (hx : k < xs.length) (hy : k < ys.length) : lesL (xs.drop k) (ys.drop k) = if xs[k] = ys[k] then lesL (xs.drop (k + 1)) (ys.drop (k + 1)) else decide (xs[k] < ys[k]) := by
  rw [List.drop_eq_getElem_cons hx, List.drop_eq_getElem_cons hy]
  rfl

set_option maxHeartbeats 2000000 in
theorem qLess_true (w : World) (Ba Bb : Nat) (va vb : Value) (xs ys : List Int) (ha : IntsA w Ba va xs) (hb : IntsA w Bb vb ys) (hl : xs.length = ys.length) (h : lesL xs ys = true) (h1 : 1 ≤ xs.length) :
    Calls Try.prog 38 #[va, vb] w fun e w' => e = .returned (.bool true) ∧ Below w.heap.size w w' := by
  obtain ⟨g, cap, rfl, hc1, hc2, _, hg, hca⟩ := intsA_at ha h1
  obtain ⟨g', cap', rfl, hc1', hc2', _, hg', hcb⟩ := intsA_at hb (by omega)
  have HA := Lib.hid hca; have HB := Lib.hid hcb
  obtain ⟨N, hN⟩ : ∃ N, N = xs.length := ⟨_, rfl⟩
  have HN := Lib.hid hN
  have HL := Lib.hid hl
  have HLE := Lib.hid h
  rw [← hl, ← hN]
  rw [← hN] at hc1
  clear ha hb hca hcb hN hl h hc1' h1
  have hn : N ≤ 9223372036854775807 := by omega
  go_enter Try.func38, Try.ntmps38
  go_wp2_with fail
  go_loopw [5] (fun i wr => ∃ (k : Nat), k ≤ N ∧ i = .int .i64 k ∧ Hid (lesL (xs.drop k) (ys.drop k) = true) ∧ Hid (Below w.heap.size w wr)) (fun i _ => N - (intOf i).toNat)
  case atStart => exact ⟨0, Nat.zero_le _, rfl, HLE, below_refl _⟩
  case round =>
    obtain ⟨k, hk, rfl, HT, HW⟩ := hrel
    by_cases hlt : k < N
    · have hkx : k < xs.length := by rw [← HN.out]; exact hlt
      have hky : k < ys.length := by rw [← HL.out]; exact hkx
      have hs := lesL_at xs ys k hkx hky
      rw [HT.out] at hs
      have h1 : wr.cell? ⟨g, k, none⟩ = some (.int .i64 xs[k]) := (HW.out.cell (p := ⟨g, k, none⟩) hg).trans (HA.out k hkx)
      have h2 : wr.cell? ⟨g', k, none⟩ = some (.int .i64 ys[k]) := (HW.out.cell (p := ⟨g', k, none⟩) hg').trans (HB.out k hky)
      obtain ⟨x, hx⟩ : ∃ x, x = xs[k] := ⟨_, rfl⟩
      obtain ⟨y, hy⟩ : ∃ y, y = ys[k] := ⟨_, rfl⟩
      rw [← hx] at h1 hs
      rw [← hy] at h2 hs
      clear hx hy
      by_cases hxy : x = y
      · have hb : (x != y) = false := by simp [hxy]
        rw [if_pos hxy] at hs
        have HS := Lib.hid hs.symm
        clear hxy hs
        go_wp2_with fail
        go_quiet (fail)
        go_wp2_with fail
        go_roundw
        case rel => exact ⟨k + 1, by omega, by go_num, HS, HW.out.trans (belowN _ _ _)⟩
        case measure => simp [intOf] <;> omega
      · have hb : (x != y) = true := by simp [hxy]
        rw [if_neg hxy] at hs
        have hd : x < y := of_decide_eq_true hs.symm
        have hdb : decide (x < y) = true := hs.symm
        have h3 : ∀ q, (wr.drewN q).cell? ⟨g, k, none⟩ = some (.int .i64 x) := fun q => h1
        have h4 : ∀ q, (wr.drewN q).cell? ⟨g', k, none⟩ = some (.int .i64 y) := fun q => h2
        clear hxy hs
        go_wp2_with fail
        go_quiet (fail)
        go_wp2_with fail
        go_quiet (fail)
        go_wp2_with fail
        go_ret
        exact ⟨rfl, HW.out.trans ((belowN _ _ _).trans (belowN _ _ _))⟩
    · obtain rfl : k = N := by omega
      exfalso
      have := HT.out
      rw [List.drop_of_length_le (by rw [← HN.out]; exact Nat.le_refl _), List.drop_of_length_le (by rw [← HL.out, ← HN.out]; exact Nat.le_refl _)] at this
      cases this

set_option maxHeartbeats 2000000 in
theorem qRows_same (w : World) (Ba Bb : Nat) (va vb : Value) (us vs : List Value) (nss : List (List Int)) (ha : IntsRR w Ba va us nss) (hb : IntsRR w Bb vb vs nss) :
    Calls Try.prog 37 #[va, vb] w fun e w' => e = .returned (.bool true) ∧ Below w.heap.size w w' := by
  rcases intsRR_open ha with ⟨rfl, rfl⟩ | ⟨g, cap, rfl, hn, hcp, hg, _, hca⟩
  · rcases intsRR_open hb with ⟨rfl, _⟩ | ⟨g, cap, rfl, _⟩
    all_goals
      clear ha hb
      go_enter Try.func37, Try.ntmps37
      go_wp2_with fail
      refine wp_loop_rounds 1 ?_
      rw [rounds_succ]
      go_wp2
      go_ret
      exact ⟨rfl, Below.refl _ _⟩
  · rcases intsRR_open hb with ⟨rfl, h0⟩ | ⟨g', cap', rfl, _, hcp', hg', _, hcb⟩
    · subst h0
      clear ha hb
      go_enter Try.func37, Try.ntmps37
      go_wp2_with fail
      refine wp_loop_rounds 1 ?_
      rw [rounds_succ]
      go_wp2
      go_ret
      exact ⟨rfl, Below.refl _ _⟩
    · have HA := Lib.hid hca; have HB := Lib.hid hcb
      obtain ⟨N, hN⟩ : ∃ N, N = nss.length := ⟨_, rfl⟩
      have HN := Lib.hid hN
      rw [← hN] at hn ⊢
      have hne : ((N : Int) != (N : Int)) = false := by simp
      clear ha hb hca hcb hN
      go_enter Try.func37, Try.ntmps37
      go_wp2_with fail
      go_loopw [13] (fun i wr => ∃ (k : Nat), k ≤ N ∧ i = .int .i64 k ∧ Hid (Below w.heap.size w wr)) (fun i _ => N - (intOf i).toNat)
      case atStart => exact ⟨0, Nat.zero_le _, rfl, below_refl _⟩
      case round =>
        obtain ⟨k, hk, rfl, HW⟩ := hrel
        by_cases hlt : k < N
        · obtain ⟨u, _, hu, hc1⟩ := HA.out k (by rw [← HN.out]; exact hlt)
          obtain ⟨u', _, hu', hc2⟩ := HB.out k (by rw [← HN.out]; exact hlt)
          have h1 : wr.cell? ⟨g, k, none⟩ = some u := (HW.out.cell (p := ⟨g, k, none⟩) hg).trans hc1
          have h2 : wr.cell? ⟨g', k, none⟩ = some u' := (HW.out.cell (p := ⟨g', k, none⟩) hg').trans hc2
          have HE0 := Lib.hid (fun (W : World) (hb : Below w.heap.size w W) => qSame_any W Ba Bb u u' _ _ (intsA_of (own_below hu hb)) (intsA_of (own_below hu' hb)))
          have he := HE0.out
          rw [decide_eq_true rfl] at he
          have HE := Lib.hid he
          clear hc1 hc2 hu hu' he HE0
          go_wp2_with fail
          go_region_with (go_at_call 16; ((with_reducible refine (HE.out _ HW.out.drew).mono ?_); rintro e w2 ⟨rfl, hb2⟩; have HB2 := Lib.hid hb2; clear hb2))
          all_goals
            go_wp2_with fail
            go_roundw
            case rel => exact ⟨k + 1, by omega, by go_num, below_trans HW.out.drew HB2.out⟩
            case measure => simp [intOf] <;> omega
        · obtain rfl : k = N := by omega
          go_wp2
          go_ret
          exact ⟨rfl, HW.out⟩
end Go.Proofs.Ytpglkgpaaflikaa
