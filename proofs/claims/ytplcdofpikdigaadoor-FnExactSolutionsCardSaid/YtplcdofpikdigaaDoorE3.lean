/- The laws' own helpers on rows of texts: equal rows are found equal; marks are laid and found again. -/
import Derived.Test.YtplcdofpikdigaaDoorE2
import Derived.Test.YtplcdofpikdigaaDoorA4
namespace Go.Proofs.YtplcdofpikdigaaDoor
open Go.RowKit Go.BigFrame
set_option linter.unusedSimpArgs false
set_option linter.unusedVariables false
set_option maxRecDepth 4000

def markT (k : Nat) : List UInt8 := 109 :: numL k
def numT (k : Nat) : List UInt8 := if k = 0 then [] else numL k
theorem numT_step (k : Nat) (h : 0 < k) : numT k = numT (k / 10) ++ [UInt8.ofNat (48 + k % 10)] := by
  unfold numT
  rw [if_neg (by omega)]
  by_cases h2 : k < 10
  · rw [numL_one k h2, if_pos (by omega), show k % 10 = k by omega]; rfl
  · rw [numL_more k h2, if_neg (by omega)]
theorem markT_len (k : Nat) (h : k ≤ 1000000) : (markT k).length ≤ 20 := by
  have := numL_len19 k (by omega)
  simp [markT]; omega

set_option maxHeartbeats 1000000 in
theorem markText_any (k : Nat) (w : World) (hk : k ≤ 1000000) :
    Calls Tryd.prog 35 #[.int .i64 k] w fun e w' => e = .returned (.string (bs (markT k))) ∧ Below w.heap.size w w' := by
  by_cases h0 : k = 0
  · subst h0
    go_enter Tryd.func35, Tryd.ntmps35
    go_wp2_with fail
    go_ret
    exact ⟨ret_str (by unfold markT; rw [numL_one 0 (by omega)]; rfl), Below.refl _ _⟩
  · have hcv := conv1
    have hpos : ¬ ((k : Int) ≤ 0) := by omega
    have hl := numL_len19 k (by omega)
    go_enter Tryd.func35, Tryd.ntmps35
    go_wp2_with fail
    go_loopw [0, 3] (fun q o wr => ∃ (j : Nat) (t : ByteArray), q = .int .i64 j ∧ j ≤ k ∧ o = .string t ∧ t.size ≤ 19 ∧ Hid (numT j ++ t.data.toList = numL k) ∧ Hid (Below w.heap.size w wr)) (fun q _ _ => (intOf q).toNat)
    case atStart => exact ⟨k, bs [], rfl, Nat.le_refl _, rfl, by simp [bs_size], by rw [bs_list, List.append_nil, numT, if_neg h0]; exact rfl, below_refl _⟩
    case round =>
      obtain ⟨j, t, rfl, hj, rfl, ht, HT, HW⟩ := hrel
      by_cases hlt : 0 < j
      · have hst := Lib.hid (numT_step j hlt)
        have hsz : t.size + 1 ≤ 19 := by
          have h1 := congrArg List.length HT.out
          rw [List.length_append, numT_step j hlt, List.length_append] at h1
          simp only [List.length_singleton, size_list] at h1
          omega
        have hbs1 : ∀ c, (bs [c]).size = 1 := fun c => bs_size _
        go_wp2_with fail
        go_roundw
        case rel =>
          refine ⟨j / 10, _, by go_num, by omega, rfl, by rw [ByteArray.size_append, bs_size]; simp; omega, ?_, HW.out.trans ((below_alloc _ _).mono HW.out.size)⟩
          have e : numT (j / 10) ++ (bs [48 + UInt8.ofNat (j % 10)] ++ t).data.toList = numL k := by
            have := HT.out
            rw [hst.out] at this
            rw [list_append, bs_list, ← this]
            simp
          exact e
        case measure => simp [intOf] <;> omega
      · obtain rfl : j = 0 := by omega
        go_wp2_with fail
        go_ret
        refine ⟨ret_str ?_, HW.out⟩
        apply bs_eq
        have := HT.out
        rw [numT, if_pos rfl, List.nil_append] at this
        rw [list_append, this]; rfl
def Strs (w : World) (B : Nat) (v : Value) (ls : List (List UInt8)) : Prop := w.ownsRow B 9 1 v ls.length (ls.map (fun l => .string (bs l)))
theorem strs_open {w : World} {B : Nat} {v : Value} {ls : List (List UInt8)} (h : Strs w B v ls) : (v = .slice none 0 0 ∧ ls = []) ∨
    ∃ g cap, v = .slice (some ⟨g, 0, none⟩) ls.length cap ∧ B ≤ g ∧ g < w.heap.size ∧ ls.length ≤ 9223372036854775807 ∧ cap ≤ 9223372036854775807 ∧
      (∀ i (hi : i < ls.length), w.cell? ⟨g, i, none⟩ = some (.string (bs ls[i]))) ∧ (∀ i, w.frozen? ⟨g, i, none⟩ = false) := by
  rcases own_open h with ⟨rfl, h2, h3⟩ | ⟨g, cap, rfl, h1, h2, h3, h4, _, h5, h6⟩
  · exact .inl ⟨rfl, List.eq_nil_of_length_eq_zero h2⟩
  · unfold maxLen at h4
    exact .inr ⟨g, cap, rfl, h1, h2, by omega, by omega, fun i hi => by have := h5 i (by simpa using hi); simpa using this, h6⟩

set_option maxHeartbeats 1000000 in
theorem eqStringS_same (w : World) (Ba Bb : Nat) (va vb : Value) (xs : List (List UInt8)) (ha : Strs w Ba va xs) (hb : Strs w Bb vb xs) :
    Calls Tryd.prog 15 #[va, vb] w fun e w' => e = .returned (.bool true) ∧ Below w.heap.size w w' := by
  rcases strs_open ha with ⟨rfl, rfl⟩ | ⟨g, cap, rfl, _, hg, hn, hcp, hca, _⟩
  · rcases strs_open hb with ⟨rfl, _⟩ | ⟨g, cap, rfl, _⟩
    all_goals
      clear ha hb
      go_enter Tryd.func15, Tryd.ntmps15
      go_wp2_with fail
      refine wp_loop_rounds 1 ?_
      rw [rounds_succ]
      go_wp2
      go_ret
      exact ⟨rfl, Below.refl _ _⟩
  · rcases strs_open hb with ⟨rfl, h0⟩ | ⟨g', cap', rfl, _, hg', _, hcp', hcb, _⟩
    · subst h0
      clear ha hb
      go_enter Tryd.func15, Tryd.ntmps15
      go_wp2_with fail
      refine wp_loop_rounds 1 ?_
      rw [rounds_succ]
      go_wp2
      go_ret
      exact ⟨rfl, Below.refl _ _⟩
    · have HA := Lib.hid hca; have HB := Lib.hid hcb
      obtain ⟨N, hN⟩ : ∃ N, N = xs.length := ⟨_, rfl⟩
      have HN := Lib.hid hN
      rw [← hN] at hn ⊢
      have hne : ((N : Int) != (N : Int)) = false := by simp
      clear ha hb hca hcb hN
      go_enter Tryd.func15, Tryd.ntmps15
      go_wp2_with fail
      go_loopw [5] (fun i wr => ∃ (k : Nat), k ≤ N ∧ i = .int .i64 k ∧ Hid (Below w.heap.size w wr)) (fun i _ => N - (intOf i).toNat)
      case atStart => exact ⟨0, Nat.zero_le _, rfl, below_refl _⟩
      case round =>
        obtain ⟨k, hk, rfl, HW⟩ := hrel
        by_cases hlt : k < N
        · have h1 : wr.cell? ⟨g, k, none⟩ = some (.string (bs (xs[k]'(by rw [← HN.out]; exact hlt)))) := (HW.out.cell (p := ⟨g, k, none⟩) hg).trans (HA.out k (by rw [← HN.out]; exact hlt))
          have h2 : wr.cell? ⟨g', k, none⟩ = some (.string (bs (xs[k]'(by rw [← HN.out]; exact hlt)))) := (HW.out.cell (p := ⟨g', k, none⟩) hg').trans (HB.out k (by rw [← HN.out]; exact hlt))
          generalize bs (xs[k]'(by rw [← HN.out]; exact hlt)) = x at h1 h2
          have hx : (x.toList != x.toList) = false := by simp
          go_wp2_with fail
          go_quiet (fail)
          go_wp2_with fail
          go_roundw
          case rel => exact ⟨k + 1, by omega, by go_num, HW.out.trans (belowN _ _ _)⟩
          case measure => simp [intOf] <;> omega
        · obtain rfl : k = N := by omega
          go_wp2_with fail
          go_ret
          exact ⟨rfl, HW.out⟩

def markTS (k n : Nat) : List (List UInt8) := (List.range n).map (fun i => markT (k + i))
theorem markTS_len (k n : Nat) : (markTS k n).length = n := by simp [markTS]
theorem markTS_succ (k n : Nat) : markTS k (n + 1) = markTS k n ++ [markT (k + n)] := by simp [markTS, List.range_succ]
theorem markTS_get (k n i : Nat) (h : i < n) : (markTS k n)[i]'(by rw [markTS_len]; exact h) = markT (k + i) := by simp [markTS]

set_option maxHeartbeats 1000000 in
theorem markStringS_any (w : World) (B k0 : Nat) (v : Value) (xs : List (List UInt8)) (ha : Strs w B v xs) (hB : B ≤ w.heap.size) (hk0 : k0 + xs.length ≤ 1000000) :
    Calls Tryd.prog 16 #[v, .int .i64 k0] w fun e w' => e = .returned (.int .i64 ((k0 + xs.length : Nat) : Int)) ∧ Strs w' B v (markTS k0 xs.length) ∧ Below B w w' := by
  rcases strs_open ha with ⟨rfl, rfl⟩ | ⟨g, cap, rfl, hBg, hg, hn, hcp, hca, hfr⟩
  · clear ha
    go_enter Tryd.func16, Tryd.ntmps16
    go_wp2_with fail
    refine wp_loop_rounds 1 ?_
    rw [rounds_succ]
    go_wp2
    go_ret
    exact ⟨rfl, World.ownsRow_nil _ _ _ _, Below.refl _ _⟩
  · have HA := Lib.hid ha
    obtain ⟨N, hN⟩ : ∃ N, N = xs.length := ⟨_, rfl⟩
    have HN := Lib.hid hN
    rw [← hN] at hn hk0 ⊢
    clear ha hca hfr hN
    go_enter Tryd.func16, Tryd.ntmps16
    go_wp2_with fail
    go_loopw [1, 5] (fun q i wr => ∃ (k : Nat), k ≤ N ∧ i = .int .i64 k ∧ q = .int .i64 ((k0 + k : Nat) : Int) ∧ Hid (wr.ownsRow B 9 1 (.slice (some ⟨g, 0, none⟩) N cap) N ((markTS k0 k ++ xs.drop k).map (fun l => .string (bs l))) ∧ Below B w wr)) (fun _ i _ => N - (intOf i).toNat)
    case atStart => exact ⟨0, Nat.zero_le _, rfl, rfl, by
      have := HA.out
      unfold Strs at this
      rw [← HN.out] at this
      exact ⟨by simpa [markTS] using this, Below.refl _ _⟩⟩
    case round =>
      obtain ⟨k, hk, rfl, rfl, HW⟩ := hrel
      by_cases hlt : k < N
      · have hgr : g < wr.heap.size := Nat.lt_of_lt_of_le hg HW.out.2.size
        have hcon := fun (W : World) => markText_any (k0 + k) W (by omega)
        rw [show ((k0 + k : Nat) : Int) = (k0 : Int) + (k : Int) by omega] at hcon
        have HC := Lib.hid hcon; clear hcon
        go_wp2_with fail
        refine (HC.out _).mono ?_
        rintro e w2 ⟨rfl, hb2⟩
        have HB2 := Lib.hid hb2
        obtain ⟨x1, h1⟩ := own_cell_some (own_below HW.out.1 hb2) k hlt
        have h2 := (own_below HW.out.1 HB2.out).frozenAt k
        clear hb2
        go_wp2_with fail
        go_roundw
        case rel =>
          refine ⟨k + 1, by omega, by go_num, by go_num, ?_⟩
          have hs := (own_below HW.out.1 HB2.out).stored k (.string (bs (markT (k0 + k))))
          refine ⟨?_, (HW.out.2.trans (HB2.out.mono (by have := HW.out.2.size; omega))).setCell (p := ⟨g, k, none⟩) hBg _⟩
          have e : ((markTS k0 k ++ xs.drop k).map (fun l => Value.string (bs l))).set k (.string (bs (markT (k0 + k)))) = (markTS k0 (k + 1) ++ xs.drop (k + 1)).map (fun l => .string (bs l)) := by
            have hd : xs.drop k = xs[k]'(by rw [← HN.out]; exact hlt) :: xs.drop (k + 1) := List.drop_eq_getElem_cons _
            rw [markTS_succ, hd, List.map_append, List.map_cons, List.set_append_right _ _ (by simp [markTS_len])]
            simp only [List.length_map, markTS_len, Nat.sub_self, List.set_cons_zero, List.map_append, List.map_cons, List.map_nil, List.append_assoc, List.cons_append, List.nil_append]
          rw [← e]
          exact hs.1
        case measure => simp [intOf] <;> omega
      · obtain rfl : k = N := by omega
        go_wp2_with fail
        go_ret
        refine ⟨rfl, ?_, HW.out.2⟩
        have := HW.out.1
        rw [List.drop_of_length_le (by rw [← HN.out]; exact Nat.le_refl _), List.append_nil] at this
        unfold Strs
        rw [markTS_len]
        exact this

set_option maxHeartbeats 1000000 in
theorem heldStringS_any (w : World) (B k0 n : Nat) (v : Value) (ha : Strs w B v (markTS k0 n)) (hk0 : k0 + n ≤ 1000000) :
    Calls Tryd.prog 17 #[v, .int .i64 k0] w fun e w' => e = .returned (.int .i64 ((k0 + n : Nat) : Int)) ∧ Below w.heap.size w w' := by
  rcases strs_open ha with ⟨rfl, h0⟩ | ⟨g, cap, hv, _, hg, hn, hcp, hca, hfr⟩
  · obtain rfl : n = 0 := by have := markTS_len k0 n; rw [h0] at this; simpa using this.symm
    clear ha
    go_enter Tryd.func17, Tryd.ntmps17
    go_wp2_with fail
    refine wp_loop_rounds 1 ?_
    rw [rounds_succ]
    go_wp2
    go_ret
    exact ⟨rfl, Below.refl _ _⟩
  · rw [markTS_len] at hv hn
    subst hv
    have hat : ∀ k, k < n → w.cell? ⟨g, k, none⟩ = some (.string (bs (markT (k0 + k)))) := by
      intro k hk
      have := hca k (by rw [markTS_len]; exact hk)
      rw [markTS_get k0 n k hk] at this
      exact this
    have HC := Lib.hid hat
    clear ha hca hfr hat
    go_enter Tryd.func17, Tryd.ntmps17
    go_wp2_with fail
    go_loopw [1, 5] (fun q i wr => ∃ (k : Nat), k ≤ n ∧ i = .int .i64 k ∧ q = .int .i64 ((k0 + k : Nat) : Int) ∧ Hid (Below w.heap.size w wr)) (fun _ i _ => n - (intOf i).toNat)
    case atStart => exact ⟨0, Nat.zero_le _, rfl, rfl, below_refl _⟩
    case round =>
      obtain ⟨k, hk, rfl, rfl, HW⟩ := hrel
      by_cases hlt : k < n
      · have h1 : wr.cell? ⟨g, k, none⟩ = some (.string (bs (markT (k0 + k)))) := (HW.out.cell (p := ⟨g, k, none⟩) hg).trans (HC.out k hlt)
        have hcon := fun (W : World) => markText_any (k0 + k) W (by omega)
        rw [show ((k0 + k : Nat) : Int) = (k0 : Int) + (k : Int) by omega] at hcon
        obtain ⟨x, hx⟩ : ∃ x, x = bs (markT (k0 + k)) := ⟨_, rfl⟩
        rw [← hx] at h1 hcon
        have hgr : g < wr.heap.size := Nat.lt_of_lt_of_le hg HW.out.size
        have hxx : (x.toList != x.toList) = false := by simp
        have H2 := Lib.hid hcon; clear hcon hx
        go_wp2_with fail
        go_region_with (go_at_call 35; ((with_reducible refine (H2.out _).mono ?_); rintro e w2 ⟨rfl, hb2⟩; have HB2 := Lib.hid (below_trans (below_drew wr) hb2); have h1' := (hb2.cell (p := ⟨g, k, none⟩) hgr).trans h1; clear hb2))
        all_goals
          go_wp2_with fail
          go_roundw
          case rel => exact ⟨k + 1, by omega, by go_num, by go_num, below_trans HW.out HB2.out⟩
          case measure => simp [intOf] <;> omega
      · obtain rfl : k = n := by omega
        go_wp2_with fail
        go_ret
        exact ⟨rfl, HW.out⟩
end Go.Proofs.YtplcdofpikdigaaDoor
