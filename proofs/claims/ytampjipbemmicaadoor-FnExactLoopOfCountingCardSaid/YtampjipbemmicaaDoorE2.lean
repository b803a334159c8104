/- Marks: a row of numbers is overwritten with counted marks, and they are found again. -/
import Derived.Test.YtampjipbemmicaaDoorE1
namespace Go.Proofs.YtampjipbemmicaaDoor
open Go.RowKit Go.BigFrame
set_option linter.unusedSimpArgs false
set_option linter.unusedVariables false
set_option maxRecDepth 4000

def markI (k n : Nat) : List Int := (List.range n).map (fun i => ((k + i : Nat) : Int))
theorem markI_len (k n : Nat) : (markI k n).length = n := by simp [markI]
theorem markI_succ (k n : Nat) : markI k (n + 1) = markI k n ++ [((k + n : Nat) : Int)] := by simp [markI, List.range_succ]
theorem markI_get (k n i : Nat) (h : i < n) : (markI k n)[i]'(by rw [markI_len]; exact h) = ((k + i : Nat) : Int) := by simp [markI]
def markSS : Nat → List (List Int) → List (List Int)
  | _, [] => []
  | k, xs :: r => markI k xs.length :: markSS (k + xs.length) r
def totalSS (nss : List (List Int)) : Nat := (nss.map List.length).sum
theorem markSS_len : ∀ (k : Nat) (nss : List (List Int)), (markSS k nss).length = nss.length
  | _, [] => rfl
  | k, xs :: r => by simp [markSS, markSS_len (k + xs.length) r]
theorem totalSS_take (nss : List (List Int)) (i : Nat) (h : i < nss.length) : totalSS (nss.take (i + 1)) = totalSS (nss.take i) + nss[i].length := by
  rw [totalSS, List.take_succ_eq_append_getElem h, List.map_append, List.sum_append]; simp [totalSS]
theorem markSS_get : ∀ (k : Nat) (nss : List (List Int)) (i : Nat) (h : i < nss.length), (markSS k nss)[i]? = some (markI (k + totalSS (nss.take i)) nss[i].length)
  | k, [], i, h => by simp at h
  | k, xs :: r, 0, h => by simp [markSS, totalSS]
  | k, xs :: r, i + 1, h => by
    simp only [markSS, List.getElem?_cons_succ, List.getElem_cons_succ, List.take_succ_cons]
    rw [markSS_get (k + xs.length) r i (by simpa using h)]
    simp [totalSS, Nat.add_assoc]
theorem totalSS_le (nss : List (List Int)) (i : Nat) : totalSS (nss.take i) ≤ totalSS nss := by
  have : totalSS nss = totalSS (nss.take i) + totalSS (nss.drop i) := by
    conv => lhs; rw [← List.take_append_drop i nss]
    simp only [totalSS, List.map_append, List.sum_append]
  omega

set_option maxHeartbeats 1000000 in
theorem markIntS_any (w : World) (B k0 : Nat) (v : Value) (xs : List Int) (ha : Ints w B v xs) (hk0 : k0 + xs.length ≤ 1000000) :
    Calls Tryd.prog 26 #[v, .int .i64 k0] w fun e w' => e = .returned (.int .i64 ((k0 + xs.length : Nat) : Int)) ∧ Ints w' B v (markI k0 xs.length) ∧ w.grownBy w' v.ownBlock := by
  rcases ints_open ha with ⟨rfl, rfl⟩ | ⟨g, cap, rfl, _, hg, hn, hcp, hca, hfr⟩
  · clear ha
    go_enter Tryd.func26, Tryd.ntmps26
    go_wp2_with fail
    refine wp_loop_rounds 1 ?_
    rw [rounds_succ]
    go_wp2
    go_ret
    exact ⟨rfl, World.ownsRow_nil _ _ _ _, World.grownBy.refl _ _⟩
  · have hfz : ∀ k, w.frozen? ⟨g, k, none⟩ = false := hfr
    have HA := Lib.hid ha; have HF := Lib.hid hfz; have HC := Lib.hid hca
    obtain ⟨N, hN⟩ : ∃ N, N = xs.length := ⟨_, rfl⟩
    have HN := Lib.hid hN
    rw [← hN] at hn hk0 ⊢
    clear ha hca hfr hfz hN
    go_enter Tryd.func26, Tryd.ntmps26
    go_wp2_with fail
    go_loopw [1, 5] (fun q i wr => ∃ (k : Nat), k ≤ N ∧ i = .int .i64 k ∧ q = .int .i64 ((k0 + k : Nat) : Int) ∧ Hid (wr.ownsRow B 3 1 (.slice (some ⟨g, 0, none⟩) N cap) N ((markI k0 k ++ xs.drop k).map (.int .i64)) ∧ w.grownBy wr (some g))) (fun _ i _ => N - (intOf i).toNat)
    case atStart => exact ⟨0, Nat.zero_le _, rfl, rfl, by
      have := HA.out
      unfold Ints at this
      rw [← HN.out] at this
      exact ⟨by simpa [markI] using this, World.grownBy.refl _ _⟩⟩
    case round =>
      obtain ⟨k, hk, rfl, rfl, HW⟩ := hrel
      by_cases hlt : k < N
      · have hlen : ((markI k0 k ++ xs.drop k).map (Value.int .i64)).length = N := by have := own_len HW.out.1; exact this
        have h1 : ∃ x, wr.cell? ⟨g, k, none⟩ = some x := by
          rcases own_open HW.out.1 with ⟨e, _⟩ | ⟨g', cap', e, _, _, _, _, hl, hc, _⟩
          · cases e
          · cases e
            exact ⟨_, hc k (by rw [hl]; exact hlt)⟩
        obtain ⟨x, h1⟩ := h1
        have h2 : wr.frozen? ⟨g, k, none⟩ = false := HW.out.1.frozenAt k
        clear hlen
        go_wp2_with fail
        go_roundw
        case rel =>
          refine ⟨k + 1, by omega, by go_num, by go_num, ?_⟩
          have hs := HW.out.1.stored k (.int .i64 ((k0 + k : Nat) : Int))
          refine ⟨?_, HW.out.2.trans hs.2⟩
          have e : ((markI k0 k ++ xs.drop k).map (Value.int .i64)).set k (.int .i64 ((k0 + k : Nat) : Int)) = (markI k0 (k + 1) ++ xs.drop (k + 1)).map (.int .i64) := by
            have hd : xs.drop k = xs[k]'(by rw [← HN.out]; exact hlt) :: xs.drop (k + 1) := List.drop_eq_getElem_cons _
            rw [markI_succ, hd, List.map_append, List.map_cons, List.set_append_right _ _ (by simp [markI_len])]
            simp only [List.length_map, markI_len, Nat.sub_self, List.set_cons_zero, List.map_append, List.map_cons, List.map_nil, List.append_assoc, List.cons_append, List.nil_append]
          rw [← e]
          exact hs.1
        case measure => simp [intOf] <;> omega
      · obtain rfl : k = N := by omega
        go_wp2_with fail
        go_ret
        refine ⟨rfl, ?_, HW.out.2⟩
        have := HW.out.1
        rw [List.drop_of_length_le (by rw [← HN.out]; exact Nat.le_refl _), List.append_nil] at this
        unfold Ints
        rw [markI_len]
        exact this

set_option maxHeartbeats 1000000 in
theorem heldIntS_any (w : World) (B k0 n : Nat) (v : Value) (ha : Ints w B v (markI k0 n)) (hk0 : k0 + n ≤ 1000000) :
    Calls Tryd.prog 27 #[v, .int .i64 k0] w fun e w' => e = .returned (.int .i64 ((k0 + n : Nat) : Int)) ∧ Below w.heap.size w w' := by
  rcases ints_open ha with ⟨rfl, h0⟩ | ⟨g, cap, hv, _, hg, hn, hcp, hca, hfr⟩
  · obtain rfl : n = 0 := by have := markI_len k0 n; rw [h0] at this; simpa using this.symm
    clear ha
    go_enter Tryd.func27, Tryd.ntmps27
    go_wp2_with fail
    refine wp_loop_rounds 1 ?_
    rw [rounds_succ]
    go_wp2
    go_ret
    exact ⟨rfl, Below.refl _ _⟩
  · rw [markI_len] at hv hn
    subst hv
    have hat : ∀ k, k < n → w.cell? ⟨g, k, none⟩ = some (.int .i64 ((k0 : Int) + (k : Int))) := by
      intro k hk
      have := hca k (by rw [markI_len]; exact hk)
      rw [markI_get k0 n k hk] at this
      rw [this]; congr 2
    have HC := Lib.hid hat
    clear ha hca hfr hat
    go_enter Tryd.func27, Tryd.ntmps27
    go_wp2_with fail
    go_loopw [1, 5] (fun q i wr => ∃ (k : Nat), k ≤ n ∧ i = .int .i64 k ∧ q = .int .i64 ((k0 + k : Nat) : Int) ∧ Hid (Below w.heap.size w wr)) (fun _ i _ => n - (intOf i).toNat)
    case atStart => exact ⟨0, Nat.zero_le _, rfl, rfl, below_refl _⟩
    case round =>
      obtain ⟨k, hk, rfl, rfl, HW⟩ := hrel
      by_cases hlt : k < n
      · have h1 : wr.cell? ⟨g, k, none⟩ = some (.int .i64 ((k0 : Int) + (k : Int))) := (HW.out.cell (p := ⟨g, k, none⟩) hg).trans (HC.out k hlt)
        have hx : (((k0 : Int) + (k : Int)) != ((k0 : Int) + (k : Int))) = false := by simp
        go_wp2_with fail
        go_roundw
        case rel => exact ⟨k + 1, by omega, by go_num, by go_num, HW.out⟩
        case measure => simp [intOf] <;> omega
      · obtain rfl : k = n := by omega
        go_wp2_with fail
        go_ret
        exact ⟨rfl, HW.out⟩

set_option maxHeartbeats 1000000 in
theorem markIntSS_any (w : World) (B k0 : Nat) (v : Value) (vs : List Value) (nss : List (List Int)) (ha : IntsRR w B v vs nss) (hk0 : k0 + totalSS nss ≤ 1000000) :
    Calls Tryd.prog 37 #[v, .int .i64 k0] w fun e w' => e = .returned (.int .i64 ((k0 + totalSS nss : Nat) : Int)) ∧ IntsRR w' B v vs (markSS k0 nss) ∧ Below B w w' := by
  rcases intsRR_open ha with ⟨rfl, rfl⟩ | ⟨g, cap, rfl, hn, hcp, hg, hBg, hca⟩
  · have HA := Lib.hid ha
    clear ha
    go_enter Tryd.func37, Tryd.ntmps37
    go_wp2_with fail
    refine wp_loop_rounds 1 ?_
    rw [rounds_succ]
    go_wp2
    go_ret
    exact ⟨rfl, HA.out, Below.refl _ _⟩
  · have HA := Lib.hid ha
    obtain ⟨N, hN⟩ : ∃ N, N = nss.length := ⟨_, rfl⟩
    have HN := Lib.hid hN
    rw [← hN] at hn ⊢
    clear ha hca hN
    go_enter Tryd.func37, Tryd.ntmps37
    go_wp2_with fail
    go_loopw [1, 5] (fun q i wr => ∃ (k : Nat), k ≤ N ∧ i = .int .i64 k ∧ q = .int .i64 ((k0 + totalSS (nss.take k) : Nat) : Int) ∧ Hid (IntsRR wr B (.slice (some ⟨g, 0, none⟩) N cap) vs (markSS k0 (nss.take k) ++ nss.drop k) ∧ Below B w wr)) (fun _ i _ => N - (intOf i).toNat)
    case atStart => exact ⟨0, Nat.zero_le _, rfl, by simp [totalSS], by
      have := HA.out
      rw [← HN.out] at this
      exact ⟨by simpa [markSS] using this, Below.refl _ _⟩⟩
    case round =>
      obtain ⟨k, hk, rfl, rfl, HW⟩ := hrel
      have hle := totalSS_le nss k
      by_cases hlt : k < N
      · have hlt' : k < nss.length := by rw [← HN.out]; exact hlt
        have hlm : (markSS k0 (nss.take k)).length = k := by rw [markSS_len]; simp; omega
        have hsuc := totalSS_take nss k hlt'
        have hle2 := totalSS_le nss (k + 1)
        obtain ⟨u, hu0, hu, hc⟩ : ∃ u, vs[k]? = some u ∧ Ints wr B u nss[k] ∧ wr.cell? ⟨g, k, none⟩ = some u := by
          rcases intsRR_open HW.out.1 with ⟨e, _⟩ | ⟨g', cap', e, _, _, _, _, hc⟩
          · cases e
          · simp only [Value.slice.injEq, Option.some.injEq, Addr.mk.injEq] at e
            obtain ⟨⟨rfl, _⟩, _, rfl⟩ := e
            obtain ⟨u, h1, h2, h3⟩ := hc k (by simp [markSS_len]; omega)
            rw [List.getElem_append_right (by omega)] at h2
            simp only [hlm, Nat.sub_self, List.getElem_drop, Nat.add_zero] at h2
            exact ⟨u, h1, h2, h3⟩
        have HU := Lib.hid hu; have HU0 := Lib.hid hu0; have HM := Lib.hid hlm; have HS := Lib.hid hsuc
        rw [hsuc] at hle2
        clear hu hu0 hlm hsuc
        go_wp2_with fail
        refine (markIntS_any wr B (k0 + totalSS (nss.take k)) u _ HU.out (by omega)).mono ?_
        rintro e w1 ⟨rfl, h1, h2⟩
        have H1 := Lib.hid h1; have H2 := Lib.hid h2
        clear h1 h2
        go_wp2_with fail
        go_roundw
        case rel =>
          refine ⟨k + 1, by omega, by go_num, by rw [HS.out]; go_num, ?_⟩
          have hx : (markSS k0 (nss.take k) ++ nss.drop k)[k]? = some nss[k] := by
            rw [List.getElem?_append_right (by rw [HM.out]; exact Nat.le_refl _), HM.out, Nat.sub_self, List.getElem?_drop, Nat.add_zero, List.getElem?_eq_getElem hlt']
          have hin := ownsRR_inner (ys := (markI (k0 + totalSS (nss.take k)) nss[k].length).map (.int .i64)) HW.out.1 HU0.out (xs := nss[k].map (.int .i64)) (by rw [List.getElem?_map, hx]; rfl) H2.out (by have := H1.out; unfold Ints at this; simpa using this)
          refine ⟨?_, HW.out.2.trans ?_⟩
          · have e : (List.map (fun x => List.map (Value.int .i64) x) (markSS k0 (nss.take k) ++ nss.drop k)).set k ((markI (k0 + totalSS (nss.take k)) nss[k].length).map (.int .i64)) = (markSS k0 (nss.take (k + 1)) ++ nss.drop (k + 1)).map (fun x => x.map (Value.int .i64)) := by
              rw [← List.map_set]
              congr 1
              apply List.ext_getElem?
              intro j
              by_cases hj : j = k
              · subst hj
                rw [List.getElem?_set_self (get_lt hx), List.getElem?_append_left (by rw [markSS_len]; simp; omega), markSS_get _ _ _ (by simp; omega)]
                simp [List.take_take]
              · rw [List.getElem?_set_ne (fun e => hj e.symm)]
                by_cases hjk : j < k
                · rw [List.getElem?_append_left (by rw [HM.out]; exact hjk), List.getElem?_append_left (by rw [markSS_len]; simp; omega), markSS_get _ _ _ (by simp; omega), markSS_get _ _ _ (by simp; omega)]
                  simp [List.take_take, Nat.min_eq_left (Nat.le_of_lt hjk), Nat.min_eq_left (show j ≤ k + 1 by omega)]
                · rw [List.getElem?_append_right (by rw [HM.out]; omega), List.getElem?_append_right (by rw [markSS_len]; simp; omega), HM.out, markSS_len]
                  simp only [List.getElem?_drop, List.length_take]
                  congr 1; omega
            unfold IntsRR
            rw [← e]
            exact hin
          · exact (Below.refl B wr).grown H2.out (by have := HW.out.2.size; omega) (fun j hj => (HU.out.lt j hj).1)
        case measure => simp [intOf] <;> omega
      · obtain rfl : k = N := by omega
        go_wp2_with fail
        go_ret
        have := HW.out.1
        rw [List.drop_of_length_le (by rw [← HN.out]; exact Nat.le_refl _), List.append_nil, List.take_of_length_le (by rw [← HN.out]; exact Nat.le_refl _)] at this
        refine ⟨ret_int (by rw [List.take_of_length_le (by rw [← HN.out]; exact Nat.le_refl _)]), this, HW.out.2⟩

set_option maxHeartbeats 1000000 in
theorem heldIntSS_any (w : World) (B k0 : Nat) (v : Value) (vs : List Value) (nss : List (List Int)) (ha : IntsRR w B v vs (markSS k0 nss)) (hk0 : k0 + totalSS nss ≤ 1000000) :
    Calls Tryd.prog 38 #[v, .int .i64 k0] w fun e w' => e = .returned (.int .i64 ((k0 + totalSS nss : Nat) : Int)) ∧ Below w.heap.size w w' := by
  rcases intsRR_open ha with ⟨rfl, h0⟩ | ⟨g, cap, hv, hn, hcp, hg, hBg, hca⟩
  · have : nss = [] := List.eq_nil_of_length_eq_zero (by rw [← markSS_len k0 nss, h0]; rfl)
    subst this
    clear ha
    go_enter Tryd.func38, Tryd.ntmps38
    go_wp2_with fail
    refine wp_loop_rounds 1 ?_
    rw [rounds_succ]
    go_wp2
    go_ret
    exact ⟨rfl, Below.refl _ _⟩
  · rw [markSS_len] at hv hn
    have hat : ∀ k (h : k < nss.length), ∃ u, Ints w B u (markI (k0 + totalSS (nss.take k)) nss[k].length) ∧ w.cell? ⟨g, k, none⟩ = some u := by
      intro k h
      obtain ⟨u, _, h1, h2⟩ := hca k (by rw [markSS_len]; exact h)
      refine ⟨u, ?_, h2⟩
      have := markSS_get k0 nss k h
      rw [List.getElem?_eq_getElem (by rw [markSS_len]; exact h)] at this
      rw [Option.some.inj this] at h1
      exact h1
    have HC := Lib.hid hat
    obtain ⟨N, hN⟩ : ∃ N, N = nss.length := ⟨_, rfl⟩
    have HN := Lib.hid hN
    rw [← hN] at hn hv
    subst hv
    clear ha hca hat hN
    go_enter Tryd.func38, Tryd.ntmps38
    go_wp2_with fail
    go_loopw [1, 5] (fun q i wr => ∃ (k : Nat), k ≤ N ∧ i = .int .i64 k ∧ q = .int .i64 ((k0 + totalSS (nss.take k) : Nat) : Int) ∧ Hid (Below w.heap.size w wr)) (fun _ i _ => N - (intOf i).toNat)
    case atStart => exact ⟨0, Nat.zero_le _, rfl, by simp [totalSS], below_refl _⟩
    case round =>
      obtain ⟨k, hk, rfl, rfl, HW⟩ := hrel
      by_cases hlt : k < N
      · have hlt' : k < nss.length := by rw [← HN.out]; exact hlt
        obtain ⟨u, hu, hc⟩ := HC.out k hlt'
        have hsuc := totalSS_take nss k hlt'
        have hle2 := totalSS_le nss (k + 1)
        have h1 : wr.cell? ⟨g, k, none⟩ = some u := (HW.out.cell (p := ⟨g, k, none⟩) hg).trans hc
        have HU := Lib.hid (own_below hu HW.out); have HS := Lib.hid hsuc
        rw [hsuc] at hle2
        clear hu hc hsuc
        go_wp2_with fail
        refine (heldIntS_any wr B (k0 + totalSS (nss.take k)) _ u HU.out (by omega)).mono ?_
        rintro e w1 ⟨rfl, hb1⟩
        have H1 := Lib.hid hb1
        clear hb1
        go_wp2_with fail
        go_roundw
        case rel => exact ⟨k + 1, by omega, by go_num, by rw [HS.out]; go_num, below_trans HW.out H1.out⟩
        case measure => simp [intOf] <;> omega
      · obtain rfl : k = N := by omega
        go_wp2_with fail
        go_ret
        refine ⟨ret_int (by rw [List.take_of_length_le (by rw [← HN.out]; exact Nat.le_refl _)]), HW.out⟩
end Go.Proofs.YtampjipbemmicaaDoor
