/- The laws' own helpers on rows of numbers that may lie in an array: equal rows are found equal; marks are laid and found again. -/
import Derived.Test.YtjnegoninojglaaDoorE2
import Derived.Laws.Rows
namespace Go.Proofs.YtjnegoninojglaaDoor
open Go.RowKit Go.BigFrame
set_option linter.unusedSimpArgs false
set_option linter.unusedVariables false
set_option maxRecDepth 4000

abbrev ivs (xs : List Int) : List Value := xs.map (.int .i64)
/-- A slice value owns a row of numbers; behind it more cells of the same block may lie. -/
def IntsA (w : World) (B : Nat) (v : Value) (xs : List Int) : Prop := (v = .slice none 0 0 ∧ xs = []) ∨
  ∃ g cap E rest, v = .slice (some ⟨g, 0, none⟩) xs.length cap ∧ B ≤ g ∧ w.heap[g]? = some (.cells (ivs xs ++ rest).toArray E (0, 0)) ∧ xs.length ≤ cap ∧ cap ≤ 9223372036854775807
theorem intsA_of {w : World} {B : Nat} {v : Value} {xs : List Int} (h : Ints w B v xs) : IntsA w B v xs := by
  rcases h.2 with ⟨rfl, h0⟩ | ⟨g, cap, cur, rfl, hB, hg, h1, h2, h3, h4⟩
  · exact .inl ⟨rfl, List.eq_nil_of_length_eq_zero h0⟩
  · unfold maxLen at h2
    refine .inr ⟨g, cap, 3, cur.toList.drop xs.length, rfl, hB, ?_, h1, by omega⟩
    rw [hg]
    congr 2
    apply Array.ext'
    simp only [Nat.mul_one] at h4
    simp only [ivs, ← h4]
    rw [List.take_append_drop]
theorem intsA_nil (w : World) (B : Nat) : IntsA w B (.slice none 0 0) [] := .inl ⟨rfl, rfl⟩
theorem intsA_below {w w' : World} {B : Nat} {v : Value} {xs : List Int} (h : IntsA w B v xs) (hb : Below w.heap.size w w') : IntsA w' B v xs := by
  rcases h with h | ⟨g, cap, E, rest, h1, h2, h3, h4⟩
  · exact .inl h
  · exact .inr ⟨g, cap, E, rest, h1, h2, (hb.block g (Array.getElem?_eq_some_iff.1 h3).1).trans h3, h4⟩
theorem intsA_mono {w : World} {B B' : Nat} {v : Value} {xs : List Int} (h : IntsA w B v xs) (hB : B' ≤ B) : IntsA w B' v xs := by
  rcases h with h | ⟨g, cap, E, rest, h1, h2, h3⟩
  · exact .inl h
  · exact .inr ⟨g, cap, E, rest, h1, by omega, h3⟩
theorem intsA_open {w : World} {B : Nat} {v : Value} {xs : List Int} (h : IntsA w B v xs) : (v = .slice none 0 0 ∧ xs = []) ∨
    ∃ g cap E rest, v = .slice (some ⟨g, 0, none⟩) xs.length cap ∧ B ≤ g ∧ g < w.heap.size ∧ w.heap[g]? = some (.cells (ivs xs ++ rest).toArray E (0, 0)) ∧ xs.length ≤ 9223372036854775807 ∧ cap ≤ 9223372036854775807 ∧ xs.length ≤ cap ∧
      (∀ i (hi : i < xs.length), w.cell? ⟨g, i, none⟩ = some (.int .i64 xs[i])) := by
  rcases h with h | ⟨g, cap, E, rest, h1, h2, h3, h4, h5⟩
  · exact .inl h
  · refine .inr ⟨g, cap, E, rest, h1, h2, (Array.getElem?_eq_some_iff.1 h3).1, h3, by omega, h5, h4, fun i hi => ?_⟩
    rw [cell_of_row w g i _ _ _ h3]
    simp [ivs, List.getElem?_append_left, hi]

set_option maxHeartbeats 1000000 in
theorem eqIntA_same (w : World) (Ba Bb : Nat) (va vb : Value) (xs : List Int) (ha : IntsA w Ba va xs) (hb : IntsA w Bb vb xs) :
    Calls Tryd.prog 38 #[va, vb] w fun e w' => e = .returned (.bool true) ∧ Below w.heap.size w w' := by
  rcases intsA_open ha with ⟨rfl, rfl⟩ | ⟨g, cap, E, rest, rfl, _, hg, _, hn, hcp, _, hca⟩
  · rcases intsA_open hb with ⟨rfl, _⟩ | ⟨g, cap, E, rest, rfl, _⟩
    all_goals
      clear ha hb
      go_enter Tryd.func38, Tryd.ntmps38
      go_wp2_with fail
      refine wp_loop_rounds 1 ?_
      rw [rounds_succ]
      go_wp2
      go_ret
      exact ⟨rfl, Below.refl _ _⟩
  · rcases intsA_open hb with ⟨rfl, h0⟩ | ⟨g', cap', E', rest', rfl, _, hg', _, _, hcp', _, hcb⟩
    · subst h0
      clear ha hb
      go_enter Tryd.func38, Tryd.ntmps38
      go_wp2_with fail
      refine wp_loop_rounds 1 ?_
      rw [rounds_succ]
      go_wp2
      go_ret
      exact ⟨rfl, Below.refl _ _⟩
    · have HA := Lib.hid hca; have HB := Lib.hid hcb
      obtain ⟨N, hN⟩ : ∃ N, N = xs.length := ⟨_, rfl⟩
      have HN := Lib.hid hN
      rw [← hN] at hn ⊢
      have hne : ((N : Int) != (N : Int)) = false := by simp
      clear ha hb hca hcb hN
      go_enter Tryd.func38, Tryd.ntmps38
      go_wp2_with fail
      go_loopw [5] (fun i wr => ∃ (k : Nat), k ≤ N ∧ i = .int .i64 k ∧ Hid (Below w.heap.size w wr)) (fun i _ => N - (intOf i).toNat)
      case atStart => exact ⟨0, Nat.zero_le _, rfl, below_refl _⟩
      case round =>
        obtain ⟨k, hk, rfl, HW⟩ := hrel
        by_cases hlt : k < N
        · have h1 : wr.cell? ⟨g, k, none⟩ = some (.int .i64 (xs[k]'(by rw [← HN.out]; exact hlt))) := (HW.out.cell (p := ⟨g, k, none⟩) hg).trans (HA.out k (by rw [← HN.out]; exact hlt))
          have h2 : wr.cell? ⟨g', k, none⟩ = some (.int .i64 (xs[k]'(by rw [← HN.out]; exact hlt))) := (HW.out.cell (p := ⟨g', k, none⟩) hg').trans (HB.out k (by rw [← HN.out]; exact hlt))
          generalize (xs[k]'(by rw [← HN.out]; exact hlt)) = x at h1 h2
          have hx : (x != x) = false := by simp
          go_wp2_with fail
          go_quiet (fail)
          go_wp2_with fail
          go_roundw
          case rel => exact ⟨k + 1, by omega, by go_num, HW.out.trans (belowN _ _ _)⟩
          case measure => simp [intOf] <;> omega
        · obtain rfl : k = N := by omega
          go_wp2_with fail
          go_ret
          exact ⟨rfl, HW.out⟩

set_option maxHeartbeats 1000000 in
theorem markIntA_any (w : World) (B k0 : Nat) (v : Value) (xs : List Int) (ha : IntsA w B v xs) (hk0 : k0 + xs.length ≤ 4000000000) :
    Calls Tryd.prog 39 #[v, .int .i64 k0] w fun e w' => e = .returned (.int .i64 ((k0 + xs.length : Nat) : Int)) ∧ IntsA w' B v (markI k0 xs.length) ∧ Below B w w' ∧ ∀ k, v.ownBlock ≠ some k → k < w.heap.size → w'.heap[k]? = w.heap[k]? := by
  rcases intsA_open ha with ⟨rfl, rfl⟩ | ⟨g, cap, E, rest, rfl, hB, hg, hrow, hn, hcp, hnc, hca⟩
  · clear ha
    go_enter Tryd.func39, Tryd.ntmps39
    go_wp2_with fail
    refine wp_loop_rounds 1 ?_
    rw [rounds_succ]
    go_wp2
    go_ret
    exact ⟨rfl, intsA_nil _ _, Below.refl _ _, fun _ _ _ => rfl⟩
  · have HR := Lib.hid hrow; have HC := Lib.hid hca
    obtain ⟨N, hN⟩ : ∃ N, N = xs.length := ⟨_, rfl⟩
    have HN := Lib.hid hN
    rw [← hN] at hn hk0 hnc ⊢
    clear ha hca hrow hN
    go_enter Tryd.func39, Tryd.ntmps39
    go_wp2_with fail
    go_loopw [1, 5] (fun q i wr => ∃ (k : Nat), k ≤ N ∧ i = .int .i64 k ∧ q = .int .i64 ((k0 + k : Nat) : Int) ∧ Hid (wr.heap[g]? = some (.cells (ivs (markI k0 k ++ xs.drop k) ++ rest).toArray E (0, 0)) ∧ Below B w wr ∧ ∀ j, j ≠ g → j < w.heap.size → wr.heap[j]? = w.heap[j]?)) (fun _ i _ => N - (intOf i).toNat)
    case atStart => exact ⟨0, Nat.zero_le _, rfl, rfl, by simpa [markI] using HR.out, Below.refl _ _, fun _ _ _ => rfl⟩
    case round =>
      obtain ⟨k, hk, rfl, rfl, HW⟩ := hrel
      by_cases hlt : k < N
      · have hkx : k < xs.length := by rw [← HN.out]; exact hlt
        have h1 : wr.cell? ⟨g, k, none⟩ = some (.int .i64 (xs[k]'hkx)) := by
          rw [cell_of_row wr g k _ _ _ HW.out.1]
          simp [ivs, markI_len, List.getElem?_append, hkx]
          intro h0; omega
        have h2 : wr.frozen? ⟨g, k, none⟩ = false := frozen_of_row wr g k _ _ HW.out.1
        generalize (xs[k]'hkx) = x at h1
        go_wp2_with fail
        go_roundw
        case rel =>
          refine ⟨k + 1, by omega, by go_num, by go_num, ?_, HW.out.2.1.setCell hB _, fun j h1 h2 => (Below.heap_setCell _ _ _ _ (by simpa using h1)).trans (HW.out.2.2 j h1 h2)⟩
          rw [heap_setCell_same wr g k _ _ _ HW.out.1]
          have hd : xs.drop k = xs[k] :: xs.drop (k + 1) := List.drop_eq_getElem_cons hkx
          rw [List.setIfInBounds_toArray, markI_succ, hd]
          simp only [ivs, List.map_append, List.map_cons, List.map_nil, List.append_assoc, List.cons_append, List.nil_append]
          rw [List.set_append_right _ _ (by simp [markI_len])]
          simp only [List.length_map, markI_len, Nat.sub_self, List.set_cons_zero, Int.natCast_add]
        case measure => simp [intOf] <;> omega
      · obtain rfl : k = N := by omega
        go_wp2_with fail
        go_ret
        refine ⟨rfl, .inr ⟨g, cap, E, rest, by rw [markI_len], hB, ?_, by rw [markI_len]; exact hnc, hcp⟩, HW.out.2.1, fun j h1 h2 => HW.out.2.2 j (fun e => h1 (by rw [e]; rfl)) h2⟩
        have := HW.out.1
        rw [List.drop_of_length_le (by rw [← HN.out]; exact Nat.le_refl _), List.append_nil] at this
        exact this

set_option maxHeartbeats 1000000 in
theorem heldIntA_any (w : World) (B k0 n : Nat) (v : Value) (ha : IntsA w B v (markI k0 n)) (hk0 : k0 + n ≤ 4000000000) :
    Calls Tryd.prog 40 #[v, .int .i64 k0] w fun e w' => e = .returned (.int .i64 ((k0 + n : Nat) : Int)) ∧ Below w.heap.size w w' := by
  rcases intsA_open ha with ⟨rfl, h0⟩ | ⟨g, cap, E, rest, hv, _, hg, _, hn, hcp, _, hca⟩
  · obtain rfl : n = 0 := by have := markI_len k0 n; rw [h0] at this; simpa using this.symm
    clear ha
    go_enter Tryd.func40, Tryd.ntmps40
    go_wp2_with fail
    refine wp_loop_rounds 1 ?_
    rw [rounds_succ]
    go_wp2
    go_ret
    exact ⟨rfl, Below.refl _ _⟩
  · rw [markI_len] at hv hn
    subst hv
    have hat : ∀ k, k < n → w.cell? ⟨g, k, none⟩ = some (.int .i64 ((k0 : Int) + (k : Int))) := by
      intro k hk
      have := hca k (by rw [markI_len]; exact hk)
      rw [markI_get k0 n k hk] at this
      rw [this]; congr 2
    have HC := Lib.hid hat
    clear ha hca hat
    go_enter Tryd.func40, Tryd.ntmps40
    go_wp2_with fail
    go_loopw [1, 5] (fun q i wr => ∃ (k : Nat), k ≤ n ∧ i = .int .i64 k ∧ q = .int .i64 ((k0 + k : Nat) : Int) ∧ Hid (Below w.heap.size w wr)) (fun _ i _ => n - (intOf i).toNat)
    case atStart => exact ⟨0, Nat.zero_le _, rfl, rfl, below_refl _⟩
    case round =>
      obtain ⟨k, hk, rfl, rfl, HW⟩ := hrel
      by_cases hlt : k < n
      · have h1 : wr.cell? ⟨g, k, none⟩ = some (.int .i64 ((k0 : Int) + (k : Int))) := (HW.out.cell (p := ⟨g, k, none⟩) hg).trans (HC.out k hlt)
        have hx : (((k0 : Int) + (k : Int)) != ((k0 : Int) + (k : Int))) = false := by simp
        go_wp2_with fail
        go_roundw
        case rel => exact ⟨k + 1, by omega, by go_num, by go_num, HW.out⟩
        case measure => simp [intOf] <;> omega
      · obtain rfl : k = n := by omega
        go_wp2_with fail
        go_ret
        exact ⟨rfl, HW.out⟩
end Go.Proofs.YtjnegoninojglaaDoor
