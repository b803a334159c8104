/- The laws' own helpers on rows of texts that begin inside a block: equal rows are found equal; marks are laid and found again. -/
import Derived.Test.YtjnegoninojglaaDoorE3
namespace Go.Proofs.YtjnegoninojglaaDoor
open Go.RowKit Go.BigFrame
set_option linter.unusedSimpArgs false
set_option linter.unusedVariables false
set_option maxRecDepth 4000

theorem markTB_len (k : Nat) (h : k ≤ 3000000000) : (markT k).length ≤ 20 := by
  have := numL_len19 k (by omega)
  simp [markT]; omega

set_option maxHeartbeats 1000000 in
theorem markTextB_any (k : Nat) (w : World) (hk : k ≤ 3000000000) :
    Calls Tryd.prog 65 #[.int .i64 k] w fun e w' => e = .returned (.string (bs (markT k))) ∧ Below w.heap.size w w' := by
  by_cases h0 : k = 0
  · subst h0
    go_enter Tryd.func65, Tryd.ntmps65
    go_wp2_with fail
    go_ret
    exact ⟨ret_str (by unfold markT; rw [numL_one 0 (by omega)]; rfl), Below.refl _ _⟩
  · have hcv := conv1
    have hpos : ¬ ((k : Int) ≤ 0) := by omega
    have hl := numL_len19 k (by omega)
    go_enter Tryd.func65, Tryd.ntmps65
    go_wp2_with fail
    go_loopw [0, 3] (fun q o wr => ∃ (j : Nat) (t : ByteArray), q = .int .i64 j ∧ j ≤ k ∧ o = .string t ∧ t.size ≤ 19 ∧ Hid (numT j ++ t.data.toList = numL k) ∧ Hid (Below w.heap.size w wr)) (fun q _ _ => (intOf q).toNat)
    case atStart => exact ⟨k, bs [], rfl, Nat.le_refl _, rfl, by simp [bs_size], by rw [bs_list, List.append_nil, numT, if_neg h0]; exact rfl, below_refl _⟩
    case round =>
      obtain ⟨j, t, rfl, hj, rfl, ht, HT, HW⟩ := hrel
      by_cases hlt : 0 < j
      · have hst := Lib.hid (numT_step j hlt)
        have hsz : t.size + 1 ≤ 19 := by
          have h1 := congrArg List.length HT.out
          rw [List.length_append, numT_step j hlt, List.length_append] at h1
          simp only [List.length_singleton, size_list] at h1
          omega
        have hbs1 : ∀ c, (bs [c]).size = 1 := fun c => bs_size _
        go_wp2_with fail
        go_roundw
        case rel =>
          refine ⟨j / 10, _, by go_num, by omega, rfl, by rw [ByteArray.size_append, bs_size]; simp; omega, ?_, HW.out.trans ((below_alloc _ _).mono HW.out.size)⟩
          have e : numT (j / 10) ++ (bs [48 + UInt8.ofNat (j % 10)] ++ t).data.toList = numL k := by
            have := HT.out
            rw [hst.out] at this
            rw [list_append, bs_list, ← this]
            simp
          exact e
        case measure => simp [intOf] <;> omega
      · obtain rfl : j = 0 := by omega
        go_wp2_with fail
        go_ret
        refine ⟨ret_str ?_, HW.out⟩
        apply bs_eq
        have := HT.out
        rw [numT, if_pos rfl, List.nil_append] at this
        rw [list_append, this]; rfl

/-- A slice value owns a row of texts, which may begin inside its block. -/
def StrsO (w : World) (B : Nat) (v : Value) (ls : List (List UInt8)) : Prop := (v = .slice none 0 0 ∧ ls = []) ∨
    ∃ g o cap, v = .slice (some ⟨g, o, none⟩) ls.length cap ∧ B ≤ g ∧ g < w.heap.size ∧ ls.length ≤ 9223372036854775807 ∧ cap ≤ 9223372036854775807 ∧
      (∀ i (hi : i < ls.length), w.cell? ⟨g, o + i, none⟩ = some (.string (bs ls[i]))) ∧ (∀ i, w.frozen? ⟨g, i, none⟩ = false)
theorem strsO_open {w : World} {B : Nat} {v : Value} {ls : List (List UInt8)} (h : StrsO w B v ls) : (v = .slice none 0 0 ∧ ls = []) ∨
    ∃ g o cap, v = .slice (some ⟨g, o, none⟩) ls.length cap ∧ B ≤ g ∧ g < w.heap.size ∧ ls.length ≤ 9223372036854775807 ∧ cap ≤ 9223372036854775807 ∧
      (∀ i (hi : i < ls.length), w.cell? ⟨g, o + i, none⟩ = some (.string (bs ls[i]))) ∧ (∀ i, w.frozen? ⟨g, i, none⟩ = false) := h
theorem strsO_of {w : World} {B : Nat} {v : Value} {ls : List (List UInt8)} (h : Strs w B v ls) : StrsO w B v ls := by
  rcases strs_open h with h | ⟨g, cap, h1, h2, h3, h4, h5, h6, h7⟩
  · exact .inl h
  · exact .inr ⟨g, 0, cap, h1, h2, h3, h4, h5, fun i hi => by rw [Nat.zero_add]; exact h6 i hi, h7⟩
theorem strsO_below {w w' : World} {B : Nat} {v : Value} {ls : List (List UInt8)} (h : StrsO w B v ls) (hb : Below w.heap.size w w') : StrsO w' B v ls := by
  rcases h with h | ⟨g, o, cap, h1, h2, h3, h4, h5, h6, h7⟩
  · exact .inl h
  · exact .inr ⟨g, o, cap, h1, h2, Nat.lt_of_lt_of_le h3 hb.size, h4, h5, fun i hi => (hb.cell (p := ⟨g, o + i, none⟩) h3).trans (h6 i hi), fun i => (hb.frozen (p := ⟨g, i, none⟩) h3).trans (h7 i)⟩

set_option maxHeartbeats 1000000 in
theorem eqStringO_same (w : World) (Ba Bb : Nat) (va vb : Value) (xs : List (List UInt8)) (ha : StrsO w Ba va xs) (hb : StrsO w Bb vb xs) :
    Calls Tryd.prog 25 #[va, vb] w fun e w' => e = .returned (.bool true) ∧ Below w.heap.size w w' := by
  rcases strsO_open ha with ⟨rfl, rfl⟩ | ⟨g, o, cap, rfl, _, hg, hn, hcp, hca, _⟩
  · rcases strsO_open hb with ⟨rfl, _⟩ | ⟨g, o, cap, rfl, _⟩
    all_goals
      clear ha hb
      go_enter Tryd.func25, Tryd.ntmps25
      go_wp2_with fail
      refine wp_loop_rounds 1 ?_
      rw [rounds_succ]
      go_wp2
      go_ret
      exact ⟨rfl, Below.refl _ _⟩
  · rcases strsO_open hb with ⟨rfl, h0⟩ | ⟨g', o', cap', rfl, _, hg', _, hcp', hcb, _⟩
    · subst h0
      clear ha hb
      go_enter Tryd.func25, Tryd.ntmps25
      go_wp2_with fail
      refine wp_loop_rounds 1 ?_
      rw [rounds_succ]
      go_wp2
      go_ret
      exact ⟨rfl, Below.refl _ _⟩
    · have HA := Lib.hid hca; have HB := Lib.hid hcb
      obtain ⟨N, hN⟩ : ∃ N, N = xs.length := ⟨_, rfl⟩
      have HN := Lib.hid hN
      rw [← hN] at hn ⊢
      have hne : ((N : Int) != (N : Int)) = false := by simp
      clear ha hb hca hcb hN
      go_enter Tryd.func25, Tryd.ntmps25
      go_wp2_with fail
      go_loopw [5] (fun i wr => ∃ (k : Nat), k ≤ N ∧ i = .int .i64 k ∧ Hid (Below w.heap.size w wr)) (fun i _ => N - (intOf i).toNat)
      case atStart => exact ⟨0, Nat.zero_le _, rfl, below_refl _⟩
      case round =>
        obtain ⟨k, hk, rfl, HW⟩ := hrel
        by_cases hlt : k < N
        · have h1 : wr.cell? ⟨g, o + k, none⟩ = some (.string (bs (xs[k]'(by rw [← HN.out]; exact hlt)))) := (HW.out.cell (p := ⟨g, o + k, none⟩) hg).trans (HA.out k (by rw [← HN.out]; exact hlt))
          have h2 : wr.cell? ⟨g', o' + k, none⟩ = some (.string (bs (xs[k]'(by rw [← HN.out]; exact hlt)))) := (HW.out.cell (p := ⟨g', o' + k, none⟩) hg').trans (HB.out k (by rw [← HN.out]; exact hlt))
          generalize bs (xs[k]'(by rw [← HN.out]; exact hlt)) = x at h1 h2
          have hx : (x.toList != x.toList) = false := by simp
          go_wp2_with fail
          go_quiet (fail)
          go_wp2_with fail
          go_roundw
          case rel => exact ⟨k + 1, by omega, by go_num, HW.out.trans (belowN _ _ _)⟩
          case measure => simp [intOf] <;> omega
        · obtain rfl : k = N := by omega
          go_wp2_with fail
          go_ret
          exact ⟨rfl, HW.out⟩


def markMix (k0 k : Nat) (xs : List (List UInt8)) : List (List UInt8) := markTS k0 k ++ xs.drop k
theorem markMix_succ (k0 k : Nat) (xs : List (List UInt8)) (h : k < xs.length) : markMix k0 (k + 1) xs = (markMix k0 k xs).set k (markT (k0 + k)) := by
  unfold markMix
  have hd : xs.drop k = xs[k] :: xs.drop (k + 1) := List.drop_eq_getElem_cons h
  rw [markTS_succ, hd, List.set_append_right _ _ (by simp [markTS_len])]
  simp only [markTS_len, Nat.sub_self, List.set_cons_zero, List.append_assoc, List.cons_append, List.nil_append]
theorem markMix_len (k0 k : Nat) (xs : List (List UInt8)) (h : k ≤ xs.length) : (markMix k0 k xs).length = xs.length := by
  simp [markMix, markTS_len]; omega

set_option maxHeartbeats 1000000 in
theorem markStringO_any (w : World) (B k0 : Nat) (v : Value) (xs : List (List UInt8)) (ha : StrsO w B v xs) (hB : B ≤ w.heap.size) (hk0 : k0 + xs.length ≤ 3000000000) :
    Calls Tryd.prog 26 #[v, .int .i64 k0] w fun e w' => e = .returned (.int .i64 ((k0 + xs.length : Nat) : Int)) ∧ StrsO w' B v (markTS k0 xs.length) ∧ Below B w w' := by
  rcases strsO_open ha with ⟨rfl, rfl⟩ | ⟨g, o, cap, rfl, hBg, hg, hn, hcp, hca, hfr⟩
  · clear ha
    go_enter Tryd.func26, Tryd.ntmps26
    go_wp2_with fail
    refine wp_loop_rounds 1 ?_
    rw [rounds_succ]
    go_wp2
    go_ret
    exact ⟨rfl, .inl ⟨rfl, rfl⟩, Below.refl _ _⟩
  · have HA := Lib.hid hca; have HFR := Lib.hid hfr
    obtain ⟨N, hN⟩ : ∃ N, N = xs.length := ⟨_, rfl⟩
    have HN := Lib.hid hN
    rw [← hN] at hn hk0 ⊢
    clear ha hca hfr hN
    go_enter Tryd.func26, Tryd.ntmps26
    go_wp2_with fail
    go_loopw [1, 5] (fun q i wr => ∃ (k : Nat), k ≤ N ∧ i = .int .i64 k ∧ q = .int .i64 ((k0 + k : Nat) : Int) ∧ Hid ((∀ i, i < N → wr.cell? ⟨g, o + i, none⟩ = some (.string (bs ((markMix k0 k xs).getD i [])))) ∧ (∀ i, wr.frozen? ⟨g, i, none⟩ = false) ∧ Below B w wr)) (fun _ i _ => N - (intOf i).toNat)
    case atStart => exact ⟨0, Nat.zero_le _, rfl, rfl, fun i hi => by
      have hi' : i < xs.length := by rw [← HN.out]; exact hi
      rw [HA.out i hi']
      simp [markMix, markTS, List.getD_eq_getElem?_getD, hi'], HFR.out, Below.refl _ _⟩
    case round =>
      obtain ⟨k, hk, rfl, rfl, HW⟩ := hrel
      by_cases hlt : k < N
      · have hgr : g < wr.heap.size := Nat.lt_of_lt_of_le hg HW.out.2.2.size
        have hcon := fun (W : World) => markTextB_any (k0 + k) W (by omega)
        rw [show ((k0 + k : Nat) : Int) = (k0 : Int) + (k : Int) by omega] at hcon
        have HC := Lib.hid hcon; clear hcon
        go_wp2_with fail
        refine (HC.out _).mono ?_
        rintro e w2 ⟨rfl, hb2⟩
        have HB2 := Lib.hid hb2
        have h1 := (hb2.cell (p := ⟨g, o + k, none⟩) hgr).trans (HW.out.1 k hlt)
        have h2 := (hb2.frozen (p := ⟨g, o + k, none⟩) hgr).trans (HW.out.2.1 (o + k))
        have H1 := Lib.hid h1
        obtain ⟨x1, hx1⟩ : ∃ x1, x1 = Value.string (bs ((markMix k0 k xs).getD k [])) := ⟨_, rfl⟩
        rw [← hx1] at h1
        clear hb2 hx1
        go_wp2_with fail
        go_roundw
        case rel =>
          refine ⟨k + 1, by omega, by go_num, by go_num, fun i hi => ?_, fun i => ?_, ?_⟩
          · have hs := markMix_succ k0 k xs (by rw [← HN.out]; exact hlt)
            by_cases e : i = k
            · subst e
              rw [World.cell?_setCell_same _ _ _ H1.out, hs, List.getD_eq_getElem?_getD, List.getElem?_set_self (by rw [markMix_len _ _ _ (by have := HN.out; omega)]; have := HN.out; omega)]
              rfl
            · rw [World.cell?_setCell_other _ _ _ _ (by intro h; simp at h <;> omega)]
              rw [(HB2.out.cell (p := ⟨g, o + i, none⟩) hgr).trans (HW.out.1 i hi), hs, List.getD_eq_getElem?_getD, List.getD_eq_getElem?_getD, List.getElem?_set_ne (by omega)]
          · rw [World.frozen?_setCell]
            exact (HB2.out.frozen (p := ⟨g, i, none⟩) hgr).trans (HW.out.2.1 i)
          · exact (HW.out.2.2.trans (HB2.out.mono (by have := HW.out.2.2.size; omega))).setCell (p := ⟨g, o + k, none⟩) hBg _
        case measure => simp [intOf] <;> omega
      · obtain rfl : k = N := by omega
        go_wp2_with fail
        go_ret
        refine ⟨rfl, .inr ⟨g, o, cap, by rw [markTS_len], hBg, Nat.lt_of_lt_of_le hg HW.out.2.2.size, by rw [markTS_len]; omega, hcp, fun i hi => ?_, HW.out.2.1⟩, HW.out.2.2⟩
        rw [markTS_len] at hi
        rw [HW.out.1 i hi]
        have e : markMix k0 k xs = markTS k0 k := by unfold markMix; rw [List.drop_of_length_le (by rw [← HN.out]; exact Nat.le_refl _), List.append_nil]
        rw [e, List.getD_eq_getElem?_getD, List.getElem?_eq_getElem (by rw [markTS_len]; exact hi)]
        rfl

set_option maxHeartbeats 1000000 in
theorem heldStringO_any (w : World) (B k0 n : Nat) (v : Value) (ha : StrsO w B v (markTS k0 n)) (hk0 : k0 + n ≤ 3000000000) :
    Calls Tryd.prog 27 #[v, .int .i64 k0] w fun e w' => e = .returned (.int .i64 ((k0 + n : Nat) : Int)) ∧ Below w.heap.size w w' := by
  rcases strsO_open ha with ⟨rfl, h0⟩ | ⟨g, o, cap, hv, _, hg, hn, hcp, hca, hfr⟩
  · obtain rfl : n = 0 := by have := markTS_len k0 n; rw [h0] at this; simpa using this.symm
    clear ha
    go_enter Tryd.func27, Tryd.ntmps27
    go_wp2_with fail
    refine wp_loop_rounds 1 ?_
    rw [rounds_succ]
    go_wp2
    go_ret
    exact ⟨rfl, Below.refl _ _⟩
  · rw [markTS_len] at hv hn
    subst hv
    have hat : ∀ k, k < n → w.cell? ⟨g, o + k, none⟩ = some (.string (bs (markT (k0 + k)))) := by
      intro k hk
      have := hca k (by rw [markTS_len]; exact hk)
      rw [markTS_get k0 n k hk] at this
      exact this
    have HC := Lib.hid hat
    clear ha hca hfr hat
    go_enter Tryd.func27, Tryd.ntmps27
    go_wp2_with fail
    go_loopw [1, 5] (fun q i wr => ∃ (k : Nat), k ≤ n ∧ i = .int .i64 k ∧ q = .int .i64 ((k0 + k : Nat) : Int) ∧ Hid (Below w.heap.size w wr)) (fun _ i _ => n - (intOf i).toNat)
    case atStart => exact ⟨0, Nat.zero_le _, rfl, rfl, below_refl _⟩
    case round =>
      obtain ⟨k, hk, rfl, rfl, HW⟩ := hrel
      by_cases hlt : k < n
      · have h1 : wr.cell? ⟨g, o + k, none⟩ = some (.string (bs (markT (k0 + k)))) := (HW.out.cell (p := ⟨g, o + k, none⟩) hg).trans (HC.out k hlt)
        have hcon := fun (W : World) => markTextB_any (k0 + k) W (by omega)
        rw [show ((k0 + k : Nat) : Int) = (k0 : Int) + (k : Int) by omega] at hcon
        obtain ⟨x, hx⟩ : ∃ x, x = bs (markT (k0 + k)) := ⟨_, rfl⟩
        rw [← hx] at h1 hcon
        have hgr : g < wr.heap.size := Nat.lt_of_lt_of_le hg HW.out.size
        have hxx : (x.toList != x.toList) = false := by simp
        have H2 := Lib.hid hcon; clear hcon hx
        go_wp2_with fail
        go_region_with (go_at_call 65; ((with_reducible refine (H2.out _).mono ?_); rintro e w2 ⟨rfl, hb2⟩; have HB2 := Lib.hid (below_trans (below_drew wr) hb2); have h1' := (hb2.cell (p := ⟨g, o + k, none⟩) hgr).trans h1; clear hb2))
        all_goals
          go_wp2_with fail
          go_roundw
          case rel => exact ⟨k + 1, by omega, by go_num, by go_num, below_trans HW.out HB2.out⟩
          case measure => simp [intOf] <;> omega
      · obtain rfl : k = n := by omega
        go_wp2_with fail
        go_ret
        exact ⟨rfl, HW.out⟩
end Go.Proofs.YtjnegoninojglaaDoor
