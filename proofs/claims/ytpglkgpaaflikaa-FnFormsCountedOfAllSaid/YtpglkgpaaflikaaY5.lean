/- Chapter 6: distances ahead, on both sides, and the law. -/
import Derived.Test.YtpglkgpaaflikaaY4
namespace Go.Proofs.Ytpglkgpaaflikaa
open Go.RowKit Go.BigFrame Go.Maps
set_option linter.unusedSimpArgs false
set_option linter.unusedVariables false
set_option maxRecDepth 4000

/-- A row's cell. -/
theorem ints_at {w : World} {B g n c : Nat} {xs : List Int} (h : Ints w B (.slice (some ⟨g, 0, none⟩) n c) xs) (i : Nat) (hi : i < xs.length) : w.cell? ⟨g, i, none⟩ = some (.int .i64 xs[i]) := by
  rcases ints_open h with ⟨e, _⟩ | ⟨g', c', e, _, _, _, _, hc, _⟩
  · cases e
  · cases e; exact hc i hi
theorem ints_slice {w : World} {B : Nat} {u : Value} {xs : List Int} (h : Ints w B u xs) (h1 : 1 ≤ xs.length) : ∃ g c, u = .slice (some ⟨g, 0, none⟩) xs.length c ∧ B ≤ g ∧ g < w.heap.size ∧ c ≤ 9223372036854775807 ∧ xs.length ≤ c := by
  rcases own_open h with ⟨_, e, _⟩ | ⟨g, c, e, h2, h3, h4, h5, _⟩
  · omega
  · unfold maxLen at h5; exact ⟨g, c, e, h2, h3, by omega, h4⟩
/-- The distances ahead that the first k places tell. -/
def ah (d : Nat → Nat) (N : Nat) : Nat → List Int
  | 0 => List.replicate N 0
  | k + 1 => if d k = 0 then ah d N k else (ah d N k).set (k - d k) ((d k : Nat) : Int)
theorem ah_len (d : Nat → Nat) (N : Nat) : ∀ k, (ah d N k).length = N
  | 0 => by simp [ah]
  | k + 1 => by
    unfold ah; split
    · exact ah_len d N k
    · rw [List.length_set]; exact ah_len d N k
def ahL (xs : List Int) : List Int := ah (bk (sq xs)) xs.length xs.length
theorem ahL_len (xs : List Int) : (ahL xs).length = xs.length := ah_len _ _ _
def daO (xs : List Int) : Option (List Int) := if plL xs = true then some (ahL xs) else none
theorem daO_len (xs : List Int) : ((daO xs).getD []).length ≤ 60 := by
  unfold daO
  split
  · rename_i h; simp only [Option.getD_some, ahL_len]; exact (plL_open h).2.1
  · simp
theorem bkL_at {xs : List Int} {k : Nat} (h : k < xs.length) : (bkL xs)[k]'(by rw [bkL_len]; exact h) = ((bk (sq xs) k : Nat) : Int) := upL_at h

set_option maxHeartbeats 2000000 in
theorem specDistancesAhead_any (w : World) (B : Nat) (v : Value) (xs : List Int) (ha : IntsA w B v xs) :
    Calls Try.prog 9 #[v] w fun e w' => IntsAOk (daO xs) w w' e := by
  obtain ⟨i0, hi, hz0, hz1, hz2⟩ := info_parts info_intT
  have hL := plGood_any w B v xs ha
  cases ht : plL xs with
  | false =>
    rw [ht] at hL
    rw [show daO xs = none by unfold daO; rw [ht]; rfl]
    obtain ⟨a, cap, rfl, _, _⟩ := intsA_slice ha
    have HL := Lib.hid hL; clear hL ha ht
    go_enter Try.func9, Try.ntmps9
    go_wp2_with fail
    refine HL.out.mono ?_
    rintro e w1 ⟨rfl, rfl⟩
    go_wp2_with fail
    go_ret2
    exact ⟨_, rfl, intsA_nil _ _, Below.refl _ _, fun _ => rfl⟩
  | true =>
    rw [ht] at hL
    rw [show daO xs = some (ahL xs) by unfold daO; rw [ht]; rfl]
    obtain ⟨h1, h60, _⟩ := plL_open ht
    have hB : ∀ W, Below w.heap.size w W → Calls Try.prog 56 #[v] W fun e w' => ∃ u, e = .returned u ∧ Ints w' W.heap.size u (bkL xs) ∧ Below W.heap.size W w' := fun W hb => plBacks_any W B v xs (intsA_below ha hb) (by omega) (by omega)
    obtain ⟨a, cap, hv, _, _⟩ := intsA_slice ha
    obtain ⟨N, hN⟩ : ∃ N, N = xs.length := ⟨_, rfl⟩
    have HN := Lib.hid hN
    rw [← hN] at hv h1 h60
    subst hv
    have HL := Lib.hid hL; have HB := Lib.hid hB; clear hL ha ht hB hN
    go_enter Try.func9, Try.ntmps9
    go_wp2_with fail
    refine HL.out.mono ?_
    rintro e w1 ⟨rfl, rfl⟩
    go_wp2_with (refine wpList_make_full _ rfl _ _ 22 rfl w.heap.size 3 i0 (.int .i64 0) 1 Try.underlying22 hi hz0 hz1 .i64 .i64 (N : Int) (N : Int) N rfl rfl rfl rfl (by rw [hz2]; omega) (by unfold maxLen; omega) (Nat.le_refl _) ?_; intro w1 hown hgr; have HO := Lib.hid hown; have HB1 := Lib.hid ((Below.refl w.heap.size w).grown hgr (Nat.le_refl _) (fun k h => by cases h)); clear hown hgr)
    refine (HB.out w1 HB1.out).mono ?_
    rintro e w2 ⟨u, rfl, hu, hb2⟩
    obtain ⟨gu, cu, rfl, hgu, hgw, hcu, hnc⟩ := ints_slice hu (by rw [bkL_len, ← HN.out]; exact h1)
    have hne : w.heap.size < w1.heap.size := (HO.out.lt w.heap.size rfl).2
    have hlen : (bkL xs).length = N := by rw [bkL_len, HN.out]
    rw [hlen] at hu hnc ⊢
    have HU := Lib.hid hu; have HB2 := Lib.hid (below_trans HB1.out hb2); have HO2 := Lib.hid (own_below HO.out hb2)
    clear hu hb2 hlen
    go_wp2_with fail
    go_loopw [16] (fun iv wr => ∃ k : Nat, k ≤ N ∧ iv = .int .i64 k ∧ Hid (wr.ownsRow w.heap.size 3 1 (.slice (some ⟨w.heap.size, 0, none⟩) N N) N ((ah (bk (sq xs)) N k).map (.int .i64)) ∧ Ints wr w1.heap.size (.slice (some ⟨gu, 0, none⟩) N cu) (bkL xs) ∧ Below w.heap.size w wr)) (fun iv _ => N - (intOf iv).toNat)
    case atStart =>
      refine ⟨0, Nat.zero_le _, rfl, ?_, HU.out, HB2.out⟩
      have e : (madeCells (Value.int .i64 0).cells (N * 1)).toList = (ah (bk (sq xs)) N 0).map (.int .i64) := by
        rw [Nat.mul_one]; unfold ah; rw [List.map_replicate]; exact toList_madeCells_one _ _
      exact e ▸ HO2.out
    case round =>
      obtain ⟨k, hk, rfl, HX⟩ := hrel
      by_cases hlt : k < N
      · have hk' : k < xs.length := by rw [← HN.out]; exact hlt
        have h2 : wr.cell? ⟨gu, k, none⟩ = some (.int .i64 ((bk (sq xs) k : Nat) : Int)) := by rw [ints_at HX.out.2.1 k (by rw [bkL_len]; exact hk'), bkL_at hk']
        have hle := bk_le (sq xs) k
        have hstep : ah (bk (sq xs)) N (k + 1) = if bk (sq xs) k = 0 then ah (bk (sq xs)) N k else (ah (bk (sq xs)) N k).set (k - bk (sq xs) k) ((bk (sq xs) k : Nat) : Int) := rfl
        obtain ⟨d, hd⟩ : ∃ d, d = bk (sq xs) k := ⟨_, rfl⟩
        rw [← hd] at h2 hle hstep
        by_cases h0 : d = 0
        · rw [if_pos h0] at hstep
          have HS := Lib.hid hstep
          subst h0
          clear hd hstep
          go_wp2_with fail
          go_roundw
          case rel => exact ⟨k + 1, by omega, by go_num, by rw [HS.out]; exact HX.out.1, HX.out.2⟩
          case measure => simp [intOf] <;> omega
        · rw [if_neg h0] at hstep
          obtain ⟨m, hm⟩ : ∃ m, m = k - d := ⟨_, rfl⟩
          rw [← hm] at hstep
          have he : (k : Int) - (d : Int) = (m : Int) := by omega
          have hmN : m < N := by omega
          have h3 : ∃ y, wr.cell? ⟨w.heap.size, m, none⟩ = some y := ⟨_, (HX.out.1.cellAt m (by simp [ah_len]; exact hmN)).trans (List.getElem?_eq_getElem (by simp [ah_len]; exact hmN))⟩
          obtain ⟨y, hy⟩ := h3
          have h4 : wr.frozen? ⟨w.heap.size, m, none⟩ = false := HX.out.1.frozenAt m
          have HS := Lib.hid hstep
          clear hd hstep hm
          go_wp2_with fail
          go_roundw
          case rel =>
            refine ⟨k + 1, by omega, by go_num, ?_, own_block HX.out.2.1 (fun j hj => ?_), HX.out.2.2.setCell (p := ⟨w.heap.size, m, none⟩) (Nat.le_refl _) _⟩
            · have := (HX.out.1.stored m (.int .i64 (d : Int))).1
              rw [HS.out, List.map_set]
              exact this
            · cases hj
              exact Below.heap_setCell _ _ _ _ (by simp; omega)
          case measure => simp [intOf] <;> omega
      · obtain rfl : k = N := by omega
        go_wp2_with fail
        go_ret2
        refine ⟨_, rfl, intsA_of ?_, HX.out.2.2, fun h => by cases h⟩
        unfold Ints ahL
        simp only [Option.getD_some]
        rw [ah_len, ← HN.out]
        exact HX.out.1

set_option maxHeartbeats 2000000 in
theorem implDistancesAhead_any (w : World) (B : Nat) (v : Value) (xs : List Int) (ha : IntsA w B v xs) :
    Calls Try.prog 8 #[v] w fun e w' => IntsAOk (daO xs) w w' e := by
  obtain ⟨i0, hi, hz0, hz1, hz2⟩ := info_parts info_intT
  have hL := isPlaceList_any w B v xs ha
  cases ht : plL xs with
  | false =>
    rw [ht] at hL
    rw [show daO xs = none by unfold daO; rw [ht]; rfl]
    obtain ⟨a, cap, rfl, _, _⟩ := intsA_slice ha
    have HL := Lib.hid hL; clear hL ha ht
    go_enter Try.func8, Try.ntmps8
    go_wp2_with fail
    refine HL.out.mono ?_
    rintro e w1 ⟨rfl, rfl⟩
    go_wp2_with fail
    go_ret2
    exact ⟨_, rfl, intsA_nil _ _, Below.refl _ _, fun _ => rfl⟩
  | true =>
    rw [ht] at hL
    rw [show daO xs = some (ahL xs) by unfold daO; rw [ht]; rfl]
    obtain ⟨h1, h60, _⟩ := plL_open ht
    have hB : ∀ W, Below w.heap.size w W → Calls Try.prog 54 #[v] W fun e w' => ∃ u, e = .returned u ∧ Ints w' W.heap.size u (bkL xs) ∧ Below W.heap.size W w' := fun W hb => (distancesBack_any W B v xs (intsA_below ha hb) ht).mono fun e w2 ⟨h1, h2, h3⟩ => ⟨_, h1, h2, h3⟩
    obtain ⟨a, cap, hv, _, _⟩ := intsA_slice ha
    obtain ⟨N, hN⟩ : ∃ N, N = xs.length := ⟨_, rfl⟩
    have HN := Lib.hid hN
    rw [← hN] at hv h1 h60
    subst hv
    have HL := Lib.hid hL; have HB := Lib.hid hB; clear hL ha ht hB hN
    go_enter Try.func8, Try.ntmps8
    go_wp2_with fail
    refine HL.out.mono ?_
    rintro e w1 ⟨rfl, rfl⟩
    go_wp2_with (refine wpList_make_full _ rfl _ _ 22 rfl w.heap.size 3 i0 (.int .i64 0) 1 Try.underlying22 hi hz0 hz1 .i64 .i64 (N : Int) (N : Int) N rfl rfl rfl rfl (by rw [hz2]; omega) (by unfold maxLen; omega) (Nat.le_refl _) ?_; intro w1 hown hgr; have HO := Lib.hid hown; have HB1 := Lib.hid ((Below.refl w.heap.size w).grown hgr (Nat.le_refl _) (fun k h => by cases h)); clear hown hgr)
    refine (HB.out w1 HB1.out).mono ?_
    rintro e w2 ⟨u, rfl, hu, hb2⟩
    obtain ⟨gu, cu, rfl, hgu, hgw, hcu, hnc⟩ := ints_slice hu (by rw [bkL_len, ← HN.out]; exact h1)
    have hne : w.heap.size < w1.heap.size := (HO.out.lt w.heap.size rfl).2
    have hlen : (bkL xs).length = N := by rw [bkL_len, HN.out]
    rw [hlen] at hu hnc ⊢
    have HU := Lib.hid hu; have HB2 := Lib.hid (below_trans HB1.out hb2); have HO2 := Lib.hid (own_below HO.out hb2)
    clear hu hb2 hlen
    go_wp2_with fail
    go_loopw [16] (fun iv wr => ∃ k : Nat, k ≤ N ∧ iv = .int .i64 k ∧ Hid (wr.ownsRow w.heap.size 3 1 (.slice (some ⟨w.heap.size, 0, none⟩) N N) N ((ah (bk (sq xs)) N k).map (.int .i64)) ∧ Ints wr w1.heap.size (.slice (some ⟨gu, 0, none⟩) N cu) (bkL xs) ∧ Below w.heap.size w wr)) (fun iv _ => N - (intOf iv).toNat)
    case atStart =>
      refine ⟨0, Nat.zero_le _, rfl, ?_, HU.out, HB2.out⟩
      have e : (madeCells (Value.int .i64 0).cells (N * 1)).toList = (ah (bk (sq xs)) N 0).map (.int .i64) := by
        rw [Nat.mul_one]; unfold ah; rw [List.map_replicate]; exact toList_madeCells_one _ _
      exact e ▸ HO2.out
    case round =>
      obtain ⟨k, hk, rfl, HX⟩ := hrel
      by_cases hlt : k < N
      · have hk' : k < xs.length := by rw [← HN.out]; exact hlt
        have h2 : wr.cell? ⟨gu, k, none⟩ = some (.int .i64 ((bk (sq xs) k : Nat) : Int)) := by rw [ints_at HX.out.2.1 k (by rw [bkL_len]; exact hk'), bkL_at hk']
        have hle := bk_le (sq xs) k
        have hstep : ah (bk (sq xs)) N (k + 1) = if bk (sq xs) k = 0 then ah (bk (sq xs)) N k else (ah (bk (sq xs)) N k).set (k - bk (sq xs) k) ((bk (sq xs) k : Nat) : Int) := rfl
        obtain ⟨d, hd⟩ : ∃ d, d = bk (sq xs) k := ⟨_, rfl⟩
        rw [← hd] at h2 hle hstep
        by_cases h0 : d = 0
        · rw [if_pos h0] at hstep
          have HS := Lib.hid hstep
          subst h0
          clear hd hstep
          go_wp2_with fail
          go_roundw
          case rel => exact ⟨k + 1, by omega, by go_num, by rw [HS.out]; exact HX.out.1, HX.out.2⟩
          case measure => simp [intOf] <;> omega
        · rw [if_neg h0] at hstep
          obtain ⟨m, hm⟩ : ∃ m, m = k - d := ⟨_, rfl⟩
          rw [← hm] at hstep
          have he : (k : Int) - (d : Int) = (m : Int) := by omega
          have hmN : m < N := by omega
          have h3 : ∃ y, wr.cell? ⟨w.heap.size, m, none⟩ = some y := ⟨_, (HX.out.1.cellAt m (by simp [ah_len]; exact hmN)).trans (List.getElem?_eq_getElem (by simp [ah_len]; exact hmN))⟩
          obtain ⟨y, hy⟩ := h3
          have h4 : wr.frozen? ⟨w.heap.size, m, none⟩ = false := HX.out.1.frozenAt m
          have HS := Lib.hid hstep
          clear hd hstep hm
          go_wp2_with fail
          go_roundw
          case rel =>
            refine ⟨k + 1, by omega, by go_num, ?_, own_block HX.out.2.1 (fun j hj => ?_), HX.out.2.2.setCell (p := ⟨w.heap.size, m, none⟩) (Nat.le_refl _) _⟩
            · have := (HX.out.1.stored m (.int .i64 (d : Int))).1
              rw [HS.out, List.map_set]
              exact this
            · cases hj
              exact Below.heap_setCell _ _ _ _ (by simp; omega)
          case measure => simp [intOf] <;> omega
      · obtain rfl : k = N := by omega
        go_wp2_with fail
        go_ret2
        refine ⟨_, rfl, intsA_of ?_, HX.out.2.2, fun h => by cases h⟩
        unfold Ints ahL
        simp only [Option.getD_some]
        rw [ah_len, ← HN.out]
        exact HX.out.1

end Go.Proofs.Ytpglkgpaaflikaa
