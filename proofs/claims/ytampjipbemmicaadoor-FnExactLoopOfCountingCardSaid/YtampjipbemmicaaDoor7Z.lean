/- Chapter 7: rows of rows of numbers (made, kept, compared, marked, found again), copies of a row. -/
import Derived.Test.YtampjipbemmicaaDoor7V
namespace Go.Proofs.YtampjipbemmicaaDoor
open Go.RowKit Go.BigFrame
set_option linter.unusedSimpArgs false
set_option linter.unusedVariables false
set_option maxRecDepth 4000

theorem intsA_far {w w' : World} {B : Nat} {u : Value} {xs : List Int} (h : IntsA w B u xs) (hk : ∀ k, u.ownBlock = some k → w'.heap[k]? = w.heap[k]?) : IntsA w' B u xs := by
  rcases h with h | ⟨g, cap, E, rest, rfl, h2, h3, h4⟩
  · exact .inl h
  · exact .inr ⟨g, cap, E, rest, rfl, h2, (hk g rfl).trans h3, h4⟩
theorem intsA_lt {w : World} {B : Nat} {u : Value} {xs : List Int} (h : IntsA w B u xs) : ∀ k, u.ownBlock = some k → B ≤ k ∧ k < w.heap.size := by
  rcases h with ⟨rfl, _⟩ | ⟨g, cap, E, rest, rfl, h2, h3, h4⟩
  · intro k e; cases e
  · intro k e
    have e' : g = k := by simpa [Value.ownBlock] using e
    subst e'
    exact ⟨h2, (Array.getElem?_eq_some_iff.1 h3).1⟩
/-- A row of rows. -/
structure IntsRA (w : World) (B : Nat) (v : Value) (vs : List Value) (nss : List (List Int)) : Prop where
  outer : w.ownsRow B 31 1 v vs.length vs
  len : nss.length = vs.length
  inner : ∀ (i : Nat) (u : Value) (xs : List Int), vs[i]? = some u → nss[i]? = some xs → IntsA w B u xs
  apart : ∀ (i j : Nat) (u u' : Value), i ≠ j → vs[i]? = some u → vs[j]? = some u' → Apart u u'
  alone : ∀ (i : Nat) (u : Value), vs[i]? = some u → Apart u v
theorem intsRA_nil (w : World) (B : Nat) : IntsRA w B (.slice none 0 0) [] [] :=
  ⟨World.ownsRow_nil _ _ _ _, rfl, fun i u xs h => by simp at h, fun i j u u' _ h => by simp at h, fun i u h => by simp at h⟩
theorem intsRA_row {w : World} {B : Nat} {v : Value} {vs : List Value} {nss : List (List Int)} (h : IntsRA w B v vs nss) (k : Nat) (hk : k < nss.length) : ∃ u, vs[k]? = some u ∧ IntsA w B u nss[k] := by
  have hk' : k < vs.length := by rw [← h.len]; exact hk
  exact ⟨vs[k], List.getElem?_eq_getElem hk', h.inner k _ _ (List.getElem?_eq_getElem hk') (List.getElem?_eq_getElem hk)⟩
theorem intsRA_below {w w' : World} {B : Nat} {v : Value} {vs : List Value} {nss : List (List Int)} (h : IntsRA w B v vs nss) (hb : Below w.heap.size w w') : IntsRA w' B v vs nss :=
  ⟨own_below h.outer hb, h.len, fun i u xs h1 h2 => intsA_below (h.inner i u xs h1 h2) hb, h.apart, h.alone⟩
theorem intsRA_mono {w : World} {B B' : Nat} {v : Value} {vs : List Value} {nss : List (List Int)} (h : IntsRA w B v vs nss) (hB : B' ≤ B) : IntsRA w B' v vs nss :=
  ⟨own_mono h.outer hB, h.len, fun i u xs h1 h2 => intsA_mono (h.inner i u xs h1 h2) hB, h.apart, h.alone⟩
theorem intsRA_other {w w' : World} {B : Nat} {v : Value} {vs : List Value} {nss : List (List Int)} (h : IntsRA w B v vs nss) (hk : ∀ k, B ≤ k → k < w.heap.size → w'.heap[k]? = w.heap[k]?) : IntsRA w' B v vs nss :=
  ⟨own_block h.outer (fun g hg => hk g (h.outer.lt g hg).1 (h.outer.lt g hg).2), h.len, fun i u xs h1 h2 => intsA_other (h.inner i u xs h1 h2) hk, h.apart, h.alone⟩
theorem intsRA_open {w : World} {B : Nat} {v : Value} {vs : List Value} {nss : List (List Int)} (h : IntsRA w B v vs nss) : (v = .slice none 0 0 ∧ nss = []) ∨
    ∃ g cap, v = .slice (some ⟨g, 0, none⟩) nss.length cap ∧ nss.length ≤ 9223372036854775807 ∧ cap ≤ 9223372036854775807 ∧ g < w.heap.size ∧ B ≤ g ∧
      (∀ k (hk : k < nss.length), ∃ u, vs[k]? = some u ∧ IntsA w B u nss[k] ∧ w.cell? ⟨g, k, none⟩ = some u) := by
  rcases own_open h.outer with ⟨h1, h2, h3⟩ | ⟨g, cap, h1, hB, hg, h2, h3, _, h4, _⟩
  · exact .inl ⟨h1, List.eq_nil_of_length_eq_zero (by rw [h.len, h2])⟩
  · unfold maxLen at h3
    refine .inr ⟨g, cap, by rw [h.len]; exact h1, by rw [h.len]; omega, by omega, hg, hB, fun k hk => ?_⟩
    obtain ⟨u, e1, e2⟩ := intsRA_row h k hk
    refine ⟨u, e1, e2, ?_⟩
    have hk' : k < vs.length := by rw [← h.len]; exact hk
    rw [h4 k hk']
    rw [List.getElem?_eq_getElem hk'] at e1
    exact e1
/-- A new row behind the others: by the law on append. -/
theorem intsRA_snoc {w w' : World} {B : Nat} {v v' u : Value} {vs : List Value} {nss : List (List Int)} {xs : List Int} (h : IntsRA w B v vs nss) (hu : IntsA w B u xs)
    (hfar : ∀ (i : Nat) (u' : Value), vs[i]? = some u' → Apart u' u) (hfar' : Apart u v)
    (hown : w'.ownsRow B 31 1 v' (vs.length + 1) (vs ++ [u])) (hg : w.grownBy w' v.ownBlock) (hw : v'.ownBlock = v.ownBlock ∨ v'.ownBlock = some w.heap.size) : IntsRA w' B v' (vs ++ [u]) (nss ++ [xs]) := by
  have keep : ∀ x ys, IntsA w B x ys → Apart x v → IntsA w' B x ys ∧ Apart x v' := by
    intro x ys h1 h2
    refine ⟨intsA_far h1 (fun k e => hg.block k ((intsA_lt h1 k e).2) (fun e' => h2 k e e'.symm)), ?_⟩
    intro k e1 e2
    rcases hw with hw | hw
    · rw [hw] at e2; exact h2 k e1 e2
    · rw [hw] at e2
      have := (intsA_lt h1 k e1).2
      have : w.heap.size = k := Option.some.inj e2
      omega
  refine ⟨by simpa using hown, by simp [h.len], ?_, ?_, ?_⟩
  · intro i x ys h1 h2
    rcases snoc_get h1 with h1 | ⟨e1, rfl⟩ <;> rcases snoc_get h2 with h2 | ⟨e2, rfl⟩
    · exact (keep x ys (h.inner i x ys h1 h2) (h.alone i x h1)).1
    · have := get_lt h1; have := h.len; omega
    · have := get_lt h2; have := h.len; omega
    · exact (keep _ _ hu hfar').1
  · intro i j x x' hij h1 h2
    rcases snoc_get h1 with h1 | ⟨e1, e⟩ <;> rcases snoc_get h2 with h2 | ⟨e2, e'⟩
    · exact h.apart i j x x' hij h1 h2
    · rw [e']; exact hfar i x h1
    · rw [e]; exact (hfar j x' h2).symm
    · omega
  · intro i x h1
    rcases snoc_get h1 with h1 | ⟨e1, rfl⟩
    · obtain ⟨u', e1, e2⟩ := intsRA_row h i (by rw [h.len]; exact get_lt h1)
      rw [h1] at e1; cases e1
      exact (keep _ _ e2 (h.alone i x h1)).2
    · exact (keep _ _ hu hfar').2
/-- One of the rows written. -/
theorem intsRA_inner {w w' : World} {B : Nat} {v u : Value} {vs : List Value} {nss : List (List Int)} {ys : List Int} {i : Nat} (h : IntsRA w B v vs nss) (hu : vs[i]? = some u)
    (hk : ∀ k, u.ownBlock ≠ some k → k < w.heap.size → w'.heap[k]? = w.heap[k]?) (hy : IntsA w' B u ys) : IntsRA w' B v vs (nss.set i ys) := by
  refine ⟨own_block h.outer (fun g hg => hk g (fun e => h.alone i u hu g e hg) (h.outer.lt g hg).2), by simp [h.len], ?_, h.apart, h.alone⟩
  intro k u' zs h1 h2
  by_cases e : k = i
  · subst e
    rw [hu] at h1; cases h1
    have hlt : k < nss.length := by rw [h.len]; exact get_lt hu
    rw [List.getElem?_set_self hlt] at h2; cases h2
    exact hy
  · rw [List.getElem?_set_ne (fun e' => e e'.symm)] at h2
    have h3 := h.inner k u' zs h1 h2
    exact intsA_far h3 (fun g hg => hk g (fun e' => h.apart k i u' u e h1 hu g hg e') (intsA_lt h3 g hg).2)

set_option maxHeartbeats 1000000 in
theorem eqIntSA_same (w : World) (Ba Bb : Nat) (va vb : Value) (us vs : List Value) (nss : List (List Int)) (ha : IntsRA w Ba va us nss) (hb : IntsRA w Bb vb vs nss) :
    Calls Tryd.prog 36 #[va, vb] w fun e w' => e = .returned (.bool true) ∧ Below w.heap.size w w' := by
  rcases intsRA_open ha with ⟨rfl, rfl⟩ | ⟨g, cap, rfl, hn, hcp, hg, _, hca⟩
  · rcases intsRA_open hb with ⟨rfl, _⟩ | ⟨g, cap, rfl, _⟩
    all_goals
      clear ha hb
      go_enter Tryd.func36, Tryd.ntmps36
      go_wp2_with fail
      refine wp_loop_rounds 1 ?_
      rw [rounds_succ]
      go_wp2
      go_ret
      exact ⟨rfl, Below.refl _ _⟩
  · rcases intsRA_open hb with ⟨rfl, h0⟩ | ⟨g', cap', rfl, _, hcp', hg', _, hcb⟩
    · subst h0
      clear ha hb
      go_enter Tryd.func36, Tryd.ntmps36
      go_wp2_with fail
      refine wp_loop_rounds 1 ?_
      rw [rounds_succ]
      go_wp2
      go_ret
      exact ⟨rfl, Below.refl _ _⟩
    · have HA := Lib.hid hca; have HB := Lib.hid hcb
      obtain ⟨N, hN⟩ : ∃ N, N = nss.length := ⟨_, rfl⟩
      have HN := Lib.hid hN
      rw [← hN] at hn ⊢
      have hne : ((N : Int) != (N : Int)) = false := by simp
      clear ha hb hca hcb hN
      go_enter Tryd.func36, Tryd.ntmps36
      go_wp2_with fail
      go_loopw [5] (fun i wr => ∃ (k : Nat), k ≤ N ∧ i = .int .i64 k ∧ Hid (Below w.heap.size w wr)) (fun i _ => N - (intOf i).toNat)
      case atStart => exact ⟨0, Nat.zero_le _, rfl, below_refl _⟩
      case round =>
        obtain ⟨k, hk, rfl, HW⟩ := hrel
        by_cases hlt : k < N
        · obtain ⟨u, _, hu, hc1⟩ := HA.out k (by rw [← HN.out]; exact hlt)
          obtain ⟨u', _, hu', hc2⟩ := HB.out k (by rw [← HN.out]; exact hlt)
          have h1 : wr.cell? ⟨g, k, none⟩ = some u := (HW.out.cell (p := ⟨g, k, none⟩) hg).trans hc1
          have h2 : wr.cell? ⟨g', k, none⟩ = some u' := (HW.out.cell (p := ⟨g', k, none⟩) hg').trans hc2
          have HE := Lib.hid (fun (W : World) (hb : Below w.heap.size w W) => eqIntA_same W Ba Bb u u' _ (intsA_below hu hb) (intsA_below hu' hb))
          clear hc1 hc2 hu hu'
          go_wp2_with fail
          go_region_with (go_at_call 22; ((with_reducible refine (HE.out _ HW.out.drew).mono ?_); rintro e w2 ⟨rfl, hb2⟩; have HB2 := Lib.hid hb2; clear hb2))
          all_goals
            go_wp2_with fail
            go_roundw
            case rel => exact ⟨k + 1, by omega, by go_num, below_trans HW.out.drew HB2.out⟩
            case measure => simp [intOf] <;> omega
        · obtain rfl : k = N := by omega
          go_wp2
          go_ret
          exact ⟨rfl, HW.out⟩
set_option maxHeartbeats 1000000 in
theorem markIntSA_any (w : World) (B k0 : Nat) (v : Value) (vs : List Value) (nss : List (List Int)) (ha : IntsRA w B v vs nss) (hk0 : k0 + totalSS nss ≤ 1000000) :
    Calls Tryd.prog 37 #[v, .int .i64 k0] w fun e w' => e = .returned (.int .i64 ((k0 + totalSS nss : Nat) : Int)) ∧ IntsRA w' B v vs (markSS k0 nss) ∧ Below B w w' := by
  rcases intsRA_open ha with ⟨rfl, rfl⟩ | ⟨g, cap, rfl, hn, hcp, hg, hBg, hca⟩
  · have HA := Lib.hid ha
    clear ha
    go_enter Tryd.func37, Tryd.ntmps37
    go_wp2_with fail
    refine wp_loop_rounds 1 ?_
    rw [rounds_succ]
    go_wp2
    go_ret
    exact ⟨rfl, HA.out, Below.refl _ _⟩
  · have HA := Lib.hid ha
    obtain ⟨N, hN⟩ : ∃ N, N = nss.length := ⟨_, rfl⟩
    have HN := Lib.hid hN
    rw [← hN] at hn ⊢
    clear ha hca hN
    go_enter Tryd.func37, Tryd.ntmps37
    go_wp2_with fail
    go_loopw [1, 5] (fun q i wr => ∃ (k : Nat), k ≤ N ∧ i = .int .i64 k ∧ q = .int .i64 ((k0 + totalSS (nss.take k) : Nat) : Int) ∧ Hid (IntsRA wr B (.slice (some ⟨g, 0, none⟩) N cap) vs (markSS k0 (nss.take k) ++ nss.drop k) ∧ Below B w wr)) (fun _ i _ => N - (intOf i).toNat)
    case atStart => exact ⟨0, Nat.zero_le _, rfl, by simp [totalSS], by
      have := HA.out
      rw [← HN.out] at this
      exact ⟨by simpa [markSS] using this, Below.refl _ _⟩⟩
    case round =>
      obtain ⟨k, hk, rfl, rfl, HW⟩ := hrel
      have hle := totalSS_le nss k
      by_cases hlt : k < N
      · have hlt' : k < nss.length := by rw [← HN.out]; exact hlt
        have hlm : (markSS k0 (nss.take k)).length = k := by rw [markSS_len]; simp; omega
        have hsuc := totalSS_take nss k hlt'
        have hle2 := totalSS_le nss (k + 1)
        obtain ⟨u, hu0, hu, hc⟩ : ∃ u, vs[k]? = some u ∧ IntsA wr B u nss[k] ∧ wr.cell? ⟨g, k, none⟩ = some u := by
          rcases intsRA_open HW.out.1 with ⟨e, _⟩ | ⟨g', cap', e, _, _, _, _, hc⟩
          · cases e
          · simp only [Value.slice.injEq, Option.some.injEq, Addr.mk.injEq] at e
            obtain ⟨⟨rfl, _⟩, _, rfl⟩ := e
            obtain ⟨u, h1, h2, h3⟩ := hc k (by simp [markSS_len]; omega)
            rw [List.getElem_append_right (by omega)] at h2
            simp only [hlm, Nat.sub_self, List.getElem_drop, Nat.add_zero] at h2
            exact ⟨u, h1, h2, h3⟩
        have HU := Lib.hid hu; have HU0 := Lib.hid hu0; have HM := Lib.hid hlm; have HS := Lib.hid hsuc
        rw [hsuc] at hle2
        clear hu hu0 hlm hsuc
        go_wp2_with fail
        refine (markIntA_any wr B (k0 + totalSS (nss.take k)) u _ HU.out (by omega)).mono ?_
        rintro e w1 ⟨rfl, h1, h2, h3⟩
        have H1 := Lib.hid h1; have H2 := Lib.hid h2; have H3 := Lib.hid h3
        clear h1 h2 h3
        go_wp2_with fail
        go_roundw
        case rel =>
          refine ⟨k + 1, by omega, by go_num, by rw [HS.out]; go_num, ?_⟩
          have hx : (markSS k0 (nss.take k) ++ nss.drop k)[k]? = some nss[k] := by
            rw [List.getElem?_append_right (by rw [HM.out]; exact Nat.le_refl _), HM.out, Nat.sub_self, List.getElem?_drop, Nat.add_zero, List.getElem?_eq_getElem hlt']
          have hin := intsRA_inner (ys := markI (k0 + totalSS (nss.take k)) nss[k].length) HW.out.1 HU0.out H3.out H1.out
          refine ⟨?_, HW.out.2.trans ?_⟩
          · have e : (markSS k0 (nss.take k) ++ nss.drop k).set k (markI (k0 + totalSS (nss.take k)) nss[k].length) = markSS k0 (nss.take (k + 1)) ++ nss.drop (k + 1) := by
              apply List.ext_getElem?
              intro j
              by_cases hj : j = k
              · subst hj
                rw [List.getElem?_set_self (get_lt hx), List.getElem?_append_left (by rw [markSS_len]; simp; omega), markSS_get _ _ _ (by simp; omega)]
                simp [List.take_take]
              · rw [List.getElem?_set_ne (fun e => hj e.symm)]
                by_cases hjk : j < k
                · rw [List.getElem?_append_left (by rw [HM.out]; exact hjk), List.getElem?_append_left (by rw [markSS_len]; simp; omega), markSS_get _ _ _ (by simp; omega), markSS_get _ _ _ (by simp; omega)]
                  simp [List.take_take, Nat.min_eq_left (Nat.le_of_lt hjk), Nat.min_eq_left (show j ≤ k + 1 by omega)]
                · rw [List.getElem?_append_right (by rw [HM.out]; omega), List.getElem?_append_right (by rw [markSS_len]; simp; omega), HM.out, markSS_len]
                  simp only [List.getElem?_drop, List.length_take]
                  congr 1; omega
            rw [← e]
            exact hin
          · exact H2.out
        case measure => simp [intOf] <;> omega
      · obtain rfl : k = N := by omega
        go_wp2_with fail
        go_ret
        have := HW.out.1
        rw [List.drop_of_length_le (by rw [← HN.out]; exact Nat.le_refl _), List.append_nil, List.take_of_length_le (by rw [← HN.out]; exact Nat.le_refl _)] at this
        refine ⟨ret_int (by rw [List.take_of_length_le (by rw [← HN.out]; exact Nat.le_refl _)]), this, HW.out.2⟩

set_option maxHeartbeats 1000000 in
theorem heldIntSA_any (w : World) (B k0 : Nat) (v : Value) (vs : List Value) (nss : List (List Int)) (ha : IntsRA w B v vs (markSS k0 nss)) (hk0 : k0 + totalSS nss ≤ 1000000) :
    Calls Tryd.prog 38 #[v, .int .i64 k0] w fun e w' => e = .returned (.int .i64 ((k0 + totalSS nss : Nat) : Int)) ∧ Below w.heap.size w w' := by
  rcases intsRA_open ha with ⟨rfl, h0⟩ | ⟨g, cap, hv, hn, hcp, hg, hBg, hca⟩
  · have : nss = [] := List.eq_nil_of_length_eq_zero (by rw [← markSS_len k0 nss, h0]; rfl)
    subst this
    clear ha
    go_enter Tryd.func38, Tryd.ntmps38
    go_wp2_with fail
    refine wp_loop_rounds 1 ?_
    rw [rounds_succ]
    go_wp2
    go_ret
    exact ⟨rfl, Below.refl _ _⟩
  · rw [markSS_len] at hv hn
    have hat : ∀ k (h : k < nss.length), ∃ u, IntsA w B u (markI (k0 + totalSS (nss.take k)) nss[k].length) ∧ w.cell? ⟨g, k, none⟩ = some u := by
      intro k h
      obtain ⟨u, _, h1, h2⟩ := hca k (by rw [markSS_len]; exact h)
      refine ⟨u, ?_, h2⟩
      have := markSS_get k0 nss k h
      rw [List.getElem?_eq_getElem (by rw [markSS_len]; exact h)] at this
      rw [Option.some.inj this] at h1
      exact h1
    have HC := Lib.hid hat
    obtain ⟨N, hN⟩ : ∃ N, N = nss.length := ⟨_, rfl⟩
    have HN := Lib.hid hN
    rw [← hN] at hn hv
    subst hv
    clear ha hca hat hN
    go_enter Tryd.func38, Tryd.ntmps38
    go_wp2_with fail
    go_loopw [1, 5] (fun q i wr => ∃ (k : Nat), k ≤ N ∧ i = .int .i64 k ∧ q = .int .i64 ((k0 + totalSS (nss.take k) : Nat) : Int) ∧ Hid (Below w.heap.size w wr)) (fun _ i _ => N - (intOf i).toNat)
    case atStart => exact ⟨0, Nat.zero_le _, rfl, by simp [totalSS], below_refl _⟩
    case round =>
      obtain ⟨k, hk, rfl, rfl, HW⟩ := hrel
      by_cases hlt : k < N
      · have hlt' : k < nss.length := by rw [← HN.out]; exact hlt
        obtain ⟨u, hu, hc⟩ := HC.out k hlt'
        have hsuc := totalSS_take nss k hlt'
        have hle2 := totalSS_le nss (k + 1)
        have h1 : wr.cell? ⟨g, k, none⟩ = some u := (HW.out.cell (p := ⟨g, k, none⟩) hg).trans hc
        have HU := Lib.hid (intsA_below hu HW.out); have HS := Lib.hid hsuc
        rw [hsuc] at hle2
        clear hu hc hsuc
        go_wp2_with fail
        refine (heldIntA_any wr B (k0 + totalSS (nss.take k)) _ u HU.out (by omega)).mono ?_
        rintro e w1 ⟨rfl, hb1⟩
        have H1 := Lib.hid hb1
        clear hb1
        go_wp2_with fail
        go_roundw
        case rel => exact ⟨k + 1, by omega, by go_num, by rw [HS.out]; go_num, below_trans HW.out H1.out⟩
        case measure => simp [intOf] <;> omega
      · obtain rfl : k = N := by omega
        go_wp2_with fail
        go_ret
        refine ⟨ret_int (by rw [List.take_of_length_le (by rw [← HN.out]; exact Nat.le_refl _)]), HW.out⟩

theorem info_rowT : (Tryd.prog.info? 31).map (fun i => (i.zero, i.size, i.bytes)) = some (some (.slice none 0 0), 1, 24) := by kernel_rfl

/-- A copy of a row. -/
theorem own_copy {w w3 : World} {g : Nat} {xs : List Int} (hce : ∀ i (hi : i < xs.length), w.cell? ⟨g, i, none⟩ = some (.int .i64 xs[i])) : ∀ j u, (ivs xs)[j]? = some u → (w.alloc (.cells #[] 3)).cell? ((⟨g, 0, none⟩ : Addr).add j) = some u := by
  intro j u hj
  rw [add_plainL, Nat.zero_add]
  obtain ⟨hjl, e⟩ := List.getElem?_eq_some_iff.1 hj
  have hjl' : j < xs.length := by simpa [ivs] using hjl
  have hlt := World.block_lt_of_cell? w _ (hce j hjl')
  rw [(below_alloc w _).cell (p := ⟨g, j, none⟩) hlt, hce j hjl', ← e]
  simp [ivs]

set_option maxHeartbeats 1000000 in
theorem l1Own_any (w : World) (B : Nat) (v : Value) (xs : List Int) (ha : IntsA w B v xs) (h1 : 1 ≤ xs.length) (h9 : xs.length ≤ 1000) :
    Calls Tryd.prog 66 #[v] w fun e w' => ∃ g c, e = .returned (.slice (some ⟨g, 0, none⟩) xs.length c) ∧ IntsA w' w.heap.size (.slice (some ⟨g, 0, none⟩) xs.length c) xs ∧ Below w.heap.size w w' := by
  obtain ⟨i0, hi, hz0, hz1, hz2⟩ := info_parts info_intT
  obtain ⟨g, cap, rfl, hc1, hc2, _, hg, hce⟩ := intsA_at ha h1
  have hcp := own_copy (w3 := w) hce
  obtain ⟨N, hN⟩ : ∃ N, N = xs.length := ⟨_, rfl⟩
  have HC := Lib.hid hcp; have HN := Lib.hid hN
  rw [← hN] at hc1 h1 h9 ⊢
  clear ha hce hcp hN
  go_enter Tryd.func66, Tryd.ntmps66
  go_wp2_with (at_builtin; refine wpList_app _ rfl _ _ 31 rfl w.heap.size 3 i0 (.int .i64 0) 8 Tryd.underlying31 hi hz0 hz1 hz2 rfl _ 0 [] rfl (own_lit w w.heap.size 3 [] (Nat.le_refl _) (by simp [maxLen])) ⟨g, 0, none⟩ N cap (ivs xs) rfl (by rw [HN.out]; simp [ivs]) HC.out ?c2 ?c3 ?c4 ?c5 ?_)
  case c2 =>
    intro u hu
    simp only [ivs, List.mem_map] at hu
    obtain ⟨l, _, rfl⟩ := hu
    rfl
  case c3 => unfold maxLen; omega
  case c4 => omega
  case c5 => simp
  intro v' w3 hown' hgrow _
  rcases own_open hown' with ⟨_, h0, _⟩ | ⟨g', c', rfl, _, _, _, _, _, _, _⟩
  · omega
  have R1 := Lib.hid hown'
  have R2 := Lib.hid ((below_alloc w _).grown hgrow (by simp) (fun q hq => by cases hq; exact Nat.le_refl _))
  clear hown' hgrow
  go_wp2_with fail
  go_ret
  have hr : w3.ownsRow w.heap.size 3 1 (.slice (some ⟨g', 0, none⟩) N c') N (ivs xs) := by have := R1.out; simpa using this
  refine ⟨g', c', by first | rfl | (simp; done), intsA_of ?_, R2.out⟩
  unfold Ints
  rw [← HN.out]
  exact hr

set_option maxHeartbeats 1000000 in
theorem cloneI_any (w : World) (B : Nat) (v : Value) (xs : List Int) (ha : IntsA w B v xs) (h1 : 1 ≤ xs.length) (h9 : xs.length ≤ 1000) :
    Calls Tryd.prog 68 #[v] w fun e w' => ∃ g c, e = .returned (.slice (some ⟨g, 0, none⟩) xs.length c) ∧ IntsA w' w.heap.size (.slice (some ⟨g, 0, none⟩) xs.length c) xs ∧ Below w.heap.size w w' := by
  obtain ⟨i0, hi, hz0, hz1, hz2⟩ := info_parts info_intT
  obtain ⟨g, cap, rfl, hc1, hc2, _, hg, hce⟩ := intsA_at ha h1
  have hcp := own_copy (w3 := w) hce
  obtain ⟨N, hN⟩ : ∃ N, N = xs.length := ⟨_, rfl⟩
  have HC := Lib.hid hcp; have HN := Lib.hid hN
  rw [← hN] at hc1 h1 h9 ⊢
  clear ha hce hcp hN
  have hnil : ∀ W, (binOp .eql 31 (.slice (some ⟨g, 0, none⟩) N cap) (.slice none 0 0)).run Tryd.prog W = .ok (.bool false) W := fun W => Lib.run_eql_slice_nil (P := Tryd.prog) W 31 3 (some ⟨g, 0, none⟩) N cap 0 0 Tryd.underlying31
  go_enter Tryd.func68, Tryd.ntmps68
  go_wp2_with (at_builtin; refine wpList_app _ rfl _ _ 31 rfl w.heap.size 3 i0 (.int .i64 0) 8 Tryd.underlying31 hi hz0 hz1 hz2 rfl _ 0 [] rfl (own_lit w w.heap.size 3 [] (Nat.le_refl _) (by simp [maxLen])) ⟨g, 0, none⟩ N cap (ivs xs) rfl (by rw [HN.out]; simp [ivs]) HC.out ?c2 ?c3 ?c4 ?c5 ?_)
  case c2 =>
    intro u hu
    simp only [ivs, List.mem_map] at hu
    obtain ⟨l, _, rfl⟩ := hu
    rfl
  case c3 => unfold maxLen; omega
  case c4 => omega
  case c5 => simp
  intro v' w3 hown' hgrow _
  rcases own_open hown' with ⟨_, h0, _⟩ | ⟨g', c', rfl, _, _, _, _, _, _, _⟩
  · omega
  have R1 := Lib.hid hown'
  have R2 := Lib.hid ((below_alloc w _).grown hgrow (by simp) (fun q hq => by cases hq; exact Nat.le_refl _))
  clear hown' hgrow
  go_wp2_with fail
  go_ret
  have hr : w3.ownsRow w.heap.size 3 1 (.slice (some ⟨g', 0, none⟩) N c') N (ivs xs) := by have := R1.out; simpa using this
  refine ⟨g', c', by first | rfl | (simp; done), intsA_of ?_, R2.out⟩
  unfold Ints
  rw [← HN.out]
  exact hr

theorem intsRA_one {w : World} {B : Nat} {u : Value} {xs : List Int} (hu : IntsA w B u xs) (hB : B ≤ w.heap.size) : IntsRA (w.alloc (.cells #[u] 31)) B (.slice (some ⟨w.heap.size, 0, none⟩) 1 1) [u] [xs] := by
  refine ⟨own_lit w B 31 [u] hB (by simp [maxLen]), rfl, ?_, ?_, ?_⟩
  · intro i x ys h1 h2
    match i, h1, h2 with
    | 0, h1, h2 => simp at h1 h2; subst h1; subst h2; exact intsA_below hu (below_alloc _ _)
    | i + 1, h1, _ => simp at h1
  · intro i j x x' hij h1 h2
    match i, j, h1, h2 with
    | 0, 0, _, _ => omega
    | i + 1, _, h1, _ => simp at h1
    | 0, j + 1, _, h2 => simp at h2
  · intro i x h1
    match i, h1 with
    | 0, h1 =>
      simp at h1; subst h1
      intro k e1 e2
      have := (intsA_lt hu k e1).2
      have e' : w.heap.size = k := by simpa [Value.ownBlock] using e2
      omega
    | i + 1, h1 => simp at h1
/-- Rows and true, or nil and false. -/
def TellOk (o : Option (List (List Int))) (w w' : World) (e : Ending) : Prop :=
  ∃ v vs, e = .returned (.tuple #[v, .bool o.isSome]) ∧ IntsRA w' w.heap.size v vs (o.getD []) ∧ Below w.heap.size w w' ∧ (o = none → v = .slice none 0 0)
end Go.Proofs.YtampjipbemmicaaDoor
