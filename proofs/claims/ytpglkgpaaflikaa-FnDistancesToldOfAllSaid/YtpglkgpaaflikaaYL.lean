/- Chapter 6, at rows of numbers that lie anywhere: distances, places and gaps (by tools/genwide.py). -/
import Derived.Test.YtpglkgpaaflikaaYJ
import Derived.Test.YtpglkgpaaflikaaY7
namespace Go.Proofs.Ytpglkgpaaflikaa
open Go.RowKit Go.BigFrame Go.Maps
set_option linter.unusedSimpArgs false
set_option linter.unusedVariables false
set_option maxRecDepth 4000

set_option maxHeartbeats 1000000 in
theorem specDistancesBack_arg (w : World) (v : Value) (xs : List Int) (ha : ArgL w v xs) :
    Calls Try.prog 7 #[v] w fun e w' => IntsAOk (dbO xs) w w' e := by
  have hL := plGood_arg w v xs ha
  cases ht : plL xs with
  | false =>
    rw [ht] at hL
    rw [show dbO xs = none by unfold dbO; rw [ht]; rfl]
    obtain ⟨a, cap, rfl, _, _⟩ := argL_slice ha
    have HL := Lib.hid hL; clear hL ha ht
    go_enter Try.func7, Try.ntmps7
    go_wp2_with fail
    refine HL.out.mono ?_
    rintro e w1 ⟨rfl, rfl⟩
    go_wp2_with fail
    go_ret2
    exact ⟨_, rfl, intsA_nil _ _, Below.refl _ _, fun _ => rfl⟩
  | true =>
    rw [ht] at hL
    rw [show dbO xs = some (bkL xs) by unfold dbO; rw [ht]; rfl]
    obtain ⟨h1, h60, _⟩ := plL_open ht
    have hB := plBacks_arg w v xs ha h1 (by omega)
    obtain ⟨a, cap, rfl, _, _⟩ := argL_slice ha
    have HL := Lib.hid hL; have HB := Lib.hid hB; clear hL ha ht hB
    go_enter Try.func7, Try.ntmps7
    go_wp2_with fail
    refine HL.out.mono ?_
    rintro e w1 ⟨rfl, rfl⟩
    go_wp2_with fail
    refine HB.out.mono ?_
    rintro e w1 ⟨u, rfl, ho, hb⟩
    go_wp2_with fail
    go_ret2
    exact ⟨_, rfl, intsA_of ho, hb, fun h => by cases h⟩

set_option maxHeartbeats 1000000 in
theorem implDistancesBack_arg (w : World) (v : Value) (xs : List Int) (ha : ArgL w v xs) :
    Calls Try.prog 6 #[v] w fun e w' => IntsAOk (dbO xs) w w' e := by
  have hL := isPlaceList_arg w v xs ha
  cases ht : plL xs with
  | false =>
    rw [ht] at hL
    rw [show dbO xs = none by unfold dbO; rw [ht]; rfl]
    obtain ⟨a, cap, rfl, _, _⟩ := argL_slice ha
    have HL := Lib.hid hL; clear hL ha ht
    go_enter Try.func6, Try.ntmps6
    go_wp2_with fail
    refine HL.out.mono ?_
    rintro e w1 ⟨rfl, rfl⟩
    go_wp2_with fail
    go_ret2
    exact ⟨_, rfl, intsA_nil _ _, Below.refl _ _, fun _ => rfl⟩
  | true =>
    rw [ht] at hL
    rw [show dbO xs = some (bkL xs) by unfold dbO; rw [ht]; rfl]
    have hB := distancesBack_arg w v xs ha ht
    obtain ⟨a, cap, rfl, _, _⟩ := argL_slice ha
    have HL := Lib.hid hL; have HB := Lib.hid hB; clear hL ha ht hB
    go_enter Try.func6, Try.ntmps6
    go_wp2_with fail
    refine HL.out.mono ?_
    rintro e w1 ⟨rfl, rfl⟩
    go_wp2_with fail
    refine HB.out.mono ?_
    rintro e w1 ⟨rfl, ho, hb⟩
    go_wp2_with fail
    go_ret2
    exact ⟨_, rfl, intsA_of ho, hb, fun h => by cases h⟩

set_option maxHeartbeats 2000000 in
theorem specDistancesAhead_arg (w : World) (v : Value) (xs : List Int) (ha : ArgL w v xs) :
    Calls Try.prog 9 #[v] w fun e w' => IntsAOk (daO xs) w w' e := by
  obtain ⟨i0, hi, hz0, hz1, hz2⟩ := info_parts info_intT
  have hL := plGood_arg w v xs ha
  cases ht : plL xs with
  | false =>
    rw [ht] at hL
    rw [show daO xs = none by unfold daO; rw [ht]; rfl]
    obtain ⟨a, cap, rfl, _, _⟩ := argL_slice ha
    have HL := Lib.hid hL; clear hL ha ht
    go_enter Try.func9, Try.ntmps9
    go_wp2_with fail
    refine HL.out.mono ?_
    rintro e w1 ⟨rfl, rfl⟩
    go_wp2_with fail
    go_ret2
    exact ⟨_, rfl, intsA_nil _ _, Below.refl _ _, fun _ => rfl⟩
  | true =>
    rw [ht] at hL
    rw [show daO xs = some (ahL xs) by unfold daO; rw [ht]; rfl]
    obtain ⟨h1, h60, _⟩ := plL_open ht
    have hB : ∀ W, Below w.heap.size w W → Calls Try.prog 56 #[v] W fun e w' => ∃ u, e = .returned u ∧ Ints w' W.heap.size u (bkL xs) ∧ Below W.heap.size W w' := fun W hb => plBacks_arg W v xs (argL_below ha hb) (by omega) (by omega)
    obtain ⟨a, cap, hv, _, _⟩ := argL_slice ha
    obtain ⟨N, hN⟩ : ∃ N, N = xs.length := ⟨_, rfl⟩
    have HN := Lib.hid hN
    rw [← hN] at hv h1 h60
    subst hv
    have HL := Lib.hid hL; have HB := Lib.hid hB; clear hL ha ht hB hN
    go_enter Try.func9, Try.ntmps9
    go_wp2_with fail
    refine HL.out.mono ?_
    rintro e w1 ⟨rfl, rfl⟩
    go_wp2_with (refine wpList_make_full _ rfl _ _ 22 rfl w.heap.size 3 i0 (.int .i64 0) 1 Try.underlying22 hi hz0 hz1 .i64 .i64 (N : Int) (N : Int) N rfl rfl rfl rfl (by rw [hz2]; omega) (by unfold maxLen; omega) (Nat.le_refl _) ?_; intro w1 hown hgr; have HO := Lib.hid hown; have HB1 := Lib.hid ((Below.refl w.heap.size w).grown hgr (Nat.le_refl _) (fun k h => by cases h)); clear hown hgr)
    refine (HB.out w1 HB1.out).mono ?_
    rintro e w2 ⟨u, rfl, hu, hb2⟩
    obtain ⟨gu, cu, rfl, hgu, hgw, hcu, hnc⟩ := ints_slice hu (by rw [bkL_len, ← HN.out]; exact h1)
    have hne : w.heap.size < w1.heap.size := (HO.out.lt w.heap.size rfl).2
    have hlen : (bkL xs).length = N := by rw [bkL_len, HN.out]
    rw [hlen] at hu hnc ⊢
    have HU := Lib.hid hu; have HB2 := Lib.hid (below_trans HB1.out hb2); have HO2 := Lib.hid (own_below HO.out hb2)
    clear hu hb2 hlen
    go_wp2_with fail
    go_loopw [16] (fun iv wr => ∃ k : Nat, k ≤ N ∧ iv = .int .i64 k ∧ Hid (wr.ownsRow w.heap.size 3 1 (.slice (some ⟨w.heap.size, 0, none⟩) N N) N ((ah (bk (sq xs)) N k).map (.int .i64)) ∧ Ints wr w1.heap.size (.slice (some ⟨gu, 0, none⟩) N cu) (bkL xs) ∧ Below w.heap.size w wr)) (fun iv _ => N - (intOf iv).toNat)
    case atStart =>
      refine ⟨0, Nat.zero_le _, rfl, ?_, HU.out, HB2.out⟩
      have e : (madeCells (Value.int .i64 0).cells (N * 1)).toList = (ah (bk (sq xs)) N 0).map (.int .i64) := by
        rw [Nat.mul_one]; unfold ah; rw [List.map_replicate]; exact toList_madeCells_one _ _
      exact e ▸ HO2.out
    case round =>
      obtain ⟨k, hk, rfl, HX⟩ := hrel
      by_cases hlt : k < N
      · have hk' : k < xs.length := by rw [← HN.out]; exact hlt
        have h2 : wr.cell? ⟨gu, k, none⟩ = some (.int .i64 ((bk (sq xs) k : Nat) : Int)) := by rw [ints_at HX.out.2.1 k (by rw [bkL_len]; exact hk'), bkL_at hk']
        have hle := bk_le (sq xs) k
        have hstep : ah (bk (sq xs)) N (k + 1) = if bk (sq xs) k = 0 then ah (bk (sq xs)) N k else (ah (bk (sq xs)) N k).set (k - bk (sq xs) k) ((bk (sq xs) k : Nat) : Int) := rfl
        obtain ⟨d, hd⟩ : ∃ d, d = bk (sq xs) k := ⟨_, rfl⟩
        rw [← hd] at h2 hle hstep
        by_cases h0 : d = 0
        · rw [if_pos h0] at hstep
          have HS := Lib.hid hstep
          subst h0
          clear hd hstep
          go_wp2_with fail
          go_roundw
          case rel => exact ⟨k + 1, by omega, by go_num, by rw [HS.out]; exact HX.out.1, HX.out.2⟩
          case measure => simp [intOf] <;> omega
        · rw [if_neg h0] at hstep
          obtain ⟨m, hm⟩ : ∃ m, m = k - d := ⟨_, rfl⟩
          rw [← hm] at hstep
          have he : (k : Int) - (d : Int) = (m : Int) := by omega
          have hmN : m < N := by omega
          have h3 : ∃ y, wr.cell? ⟨w.heap.size, m, none⟩ = some y := ⟨_, (HX.out.1.cellAt m (by simp [ah_len]; exact hmN)).trans (List.getElem?_eq_getElem (by simp [ah_len]; exact hmN))⟩
          obtain ⟨y, hy⟩ := h3
          have h4 : wr.frozen? ⟨w.heap.size, m, none⟩ = false := HX.out.1.frozenAt m
          have HS := Lib.hid hstep
          clear hd hstep hm
          go_wp2_with fail
          go_roundw
          case rel =>
            refine ⟨k + 1, by omega, by go_num, ?_, own_block HX.out.2.1 (fun j hj => ?_), HX.out.2.2.setCell (p := ⟨w.heap.size, m, none⟩) (Nat.le_refl _) _⟩
            · have := (HX.out.1.stored m (.int .i64 (d : Int))).1
              rw [HS.out, List.map_set]
              exact this
            · cases hj
              exact Below.heap_setCell _ _ _ _ (by simp; omega)
          case measure => simp [intOf] <;> omega
      · obtain rfl : k = N := by omega
        go_wp2_with fail
        go_ret2
        refine ⟨_, rfl, intsA_of ?_, HX.out.2.2, fun h => by cases h⟩
        unfold Ints ahL
        simp only [Option.getD_some]
        rw [ah_len, ← HN.out]
        exact HX.out.1

set_option maxHeartbeats 2000000 in
theorem implDistancesAhead_arg (w : World) (v : Value) (xs : List Int) (ha : ArgL w v xs) :
    Calls Try.prog 8 #[v] w fun e w' => IntsAOk (daO xs) w w' e := by
  obtain ⟨i0, hi, hz0, hz1, hz2⟩ := info_parts info_intT
  have hL := isPlaceList_arg w v xs ha
  cases ht : plL xs with
  | false =>
    rw [ht] at hL
    rw [show daO xs = none by unfold daO; rw [ht]; rfl]
    obtain ⟨a, cap, rfl, _, _⟩ := argL_slice ha
    have HL := Lib.hid hL; clear hL ha ht
    go_enter Try.func8, Try.ntmps8
    go_wp2_with fail
    refine HL.out.mono ?_
    rintro e w1 ⟨rfl, rfl⟩
    go_wp2_with fail
    go_ret2
    exact ⟨_, rfl, intsA_nil _ _, Below.refl _ _, fun _ => rfl⟩
  | true =>
    rw [ht] at hL
    rw [show daO xs = some (ahL xs) by unfold daO; rw [ht]; rfl]
    obtain ⟨h1, h60, _⟩ := plL_open ht
    have hB : ∀ W, Below w.heap.size w W → Calls Try.prog 54 #[v] W fun e w' => ∃ u, e = .returned u ∧ Ints w' W.heap.size u (bkL xs) ∧ Below W.heap.size W w' := fun W hb => (distancesBack_arg W v xs (argL_below ha hb) ht).mono fun e w2 ⟨h1, h2, h3⟩ => ⟨_, h1, h2, h3⟩
    obtain ⟨a, cap, hv, _, _⟩ := argL_slice ha
    obtain ⟨N, hN⟩ : ∃ N, N = xs.length := ⟨_, rfl⟩
    have HN := Lib.hid hN
    rw [← hN] at hv h1 h60
    subst hv
    have HL := Lib.hid hL; have HB := Lib.hid hB; clear hL ha ht hB hN
    go_enter Try.func8, Try.ntmps8
    go_wp2_with fail
    refine HL.out.mono ?_
    rintro e w1 ⟨rfl, rfl⟩
    go_wp2_with (refine wpList_make_full _ rfl _ _ 22 rfl w.heap.size 3 i0 (.int .i64 0) 1 Try.underlying22 hi hz0 hz1 .i64 .i64 (N : Int) (N : Int) N rfl rfl rfl rfl (by rw [hz2]; omega) (by unfold maxLen; omega) (Nat.le_refl _) ?_; intro w1 hown hgr; have HO := Lib.hid hown; have HB1 := Lib.hid ((Below.refl w.heap.size w).grown hgr (Nat.le_refl _) (fun k h => by cases h)); clear hown hgr)
    refine (HB.out w1 HB1.out).mono ?_
    rintro e w2 ⟨u, rfl, hu, hb2⟩
    obtain ⟨gu, cu, rfl, hgu, hgw, hcu, hnc⟩ := ints_slice hu (by rw [bkL_len, ← HN.out]; exact h1)
    have hne : w.heap.size < w1.heap.size := (HO.out.lt w.heap.size rfl).2
    have hlen : (bkL xs).length = N := by rw [bkL_len, HN.out]
    rw [hlen] at hu hnc ⊢
    have HU := Lib.hid hu; have HB2 := Lib.hid (below_trans HB1.out hb2); have HO2 := Lib.hid (own_below HO.out hb2)
    clear hu hb2 hlen
    go_wp2_with fail
    go_loopw [16] (fun iv wr => ∃ k : Nat, k ≤ N ∧ iv = .int .i64 k ∧ Hid (wr.ownsRow w.heap.size 3 1 (.slice (some ⟨w.heap.size, 0, none⟩) N N) N ((ah (bk (sq xs)) N k).map (.int .i64)) ∧ Ints wr w1.heap.size (.slice (some ⟨gu, 0, none⟩) N cu) (bkL xs) ∧ Below w.heap.size w wr)) (fun iv _ => N - (intOf iv).toNat)
    case atStart =>
      refine ⟨0, Nat.zero_le _, rfl, ?_, HU.out, HB2.out⟩
      have e : (madeCells (Value.int .i64 0).cells (N * 1)).toList = (ah (bk (sq xs)) N 0).map (.int .i64) := by
        rw [Nat.mul_one]; unfold ah; rw [List.map_replicate]; exact toList_madeCells_one _ _
      exact e ▸ HO2.out
    case round =>
      obtain ⟨k, hk, rfl, HX⟩ := hrel
      by_cases hlt : k < N
      · have hk' : k < xs.length := by rw [← HN.out]; exact hlt
        have h2 : wr.cell? ⟨gu, k, none⟩ = some (.int .i64 ((bk (sq xs) k : Nat) : Int)) := by rw [ints_at HX.out.2.1 k (by rw [bkL_len]; exact hk'), bkL_at hk']
        have hle := bk_le (sq xs) k
        have hstep : ah (bk (sq xs)) N (k + 1) = if bk (sq xs) k = 0 then ah (bk (sq xs)) N k else (ah (bk (sq xs)) N k).set (k - bk (sq xs) k) ((bk (sq xs) k : Nat) : Int) := rfl
        obtain ⟨d, hd⟩ : ∃ d, d = bk (sq xs) k := ⟨_, rfl⟩
        rw [← hd] at h2 hle hstep
        by_cases h0 : d = 0
        · rw [if_pos h0] at hstep
          have HS := Lib.hid hstep
          subst h0
          clear hd hstep
          go_wp2_with fail
          go_roundw
          case rel => exact ⟨k + 1, by omega, by go_num, by rw [HS.out]; exact HX.out.1, HX.out.2⟩
          case measure => simp [intOf] <;> omega
        · rw [if_neg h0] at hstep
          obtain ⟨m, hm⟩ : ∃ m, m = k - d := ⟨_, rfl⟩
          rw [← hm] at hstep
          have he : (k : Int) - (d : Int) = (m : Int) := by omega
          have hmN : m < N := by omega
          have h3 : ∃ y, wr.cell? ⟨w.heap.size, m, none⟩ = some y := ⟨_, (HX.out.1.cellAt m (by simp [ah_len]; exact hmN)).trans (List.getElem?_eq_getElem (by simp [ah_len]; exact hmN))⟩
          obtain ⟨y, hy⟩ := h3
          have h4 : wr.frozen? ⟨w.heap.size, m, none⟩ = false := HX.out.1.frozenAt m
          have HS := Lib.hid hstep
          clear hd hstep hm
          go_wp2_with fail
          go_roundw
          case rel =>
            refine ⟨k + 1, by omega, by go_num, ?_, own_block HX.out.2.1 (fun j hj => ?_), HX.out.2.2.setCell (p := ⟨w.heap.size, m, none⟩) (Nat.le_refl _) _⟩
            · have := (HX.out.1.stored m (.int .i64 (d : Int))).1
              rw [HS.out, List.map_set]
              exact this
            · cases hj
              exact Below.heap_setCell _ _ _ _ (by simp; omega)
          case measure => simp [intOf] <;> omega
      · obtain rfl : k = N := by omega
        go_wp2_with fail
        go_ret2
        refine ⟨_, rfl, intsA_of ?_, HX.out.2.2, fun h => by cases h⟩
        unfold Ints ahL
        simp only [Option.getD_some]
        rw [ah_len, ← HN.out]
        exact HX.out.1

set_option maxHeartbeats 2000000 in
theorem specFirstPlaces_arg (w : World) (v : Value) (xs : List Int) (ha : ArgL w v xs) :
    Calls Try.prog 13 #[v] w fun e w' => IntsAOk (fpO xs) w w' e := by
  have hL := plGood_arg w v xs ha
  cases ht : plL xs with
  | false =>
    rw [ht] at hL
    rw [show fpO xs = none by unfold fpO; rw [ht]; rfl]
    obtain ⟨a, cap, rfl, _, _⟩ := argL_slice ha
    have HL := Lib.hid hL; clear hL ha ht
    go_enter Try.func13, Try.ntmps13
    go_wp2_with fail
    refine HL.out.mono ?_
    rintro e w1 ⟨rfl, rfl⟩
    go_wp2_with fail
    go_ret2
    exact ⟨_, rfl, intsA_nil _ _, Below.refl _ _, fun _ => rfl⟩
  | true =>
    rw [ht] at hL
    rw [show fpO xs = some (pls (bkS xs) 0 xs.length) by unfold fpO; rw [ht]; rfl]
    obtain ⟨h1, h60, _⟩ := plL_open ht
    have hB := plBacks_arg w v xs ha h1 (by omega)
    obtain ⟨a, cap, hv, _, _⟩ := argL_slice ha
    obtain ⟨N, hN⟩ : ∃ N, N = xs.length := ⟨_, rfl⟩
    have HN := Lib.hid hN
    rw [← hN] at hv h1 h60 ⊢
    subst hv
    have HL := Lib.hid hL; have HB := Lib.hid hB; clear hL ha ht hB hN
    go_enter Try.func13, Try.ntmps13
    go_wp2_with fail
    refine HL.out.mono ?_
    rintro e w1 ⟨rfl, rfl⟩
    go_wp2_with fail
    refine HB.out.mono ?_
    rintro e w2 ⟨u, rfl, hu, hb2⟩
    obtain ⟨gu, cu, rfl, hgu, hgw, hcu, hnc⟩ := ints_slice hu (by rw [bkL_len, ← HN.out]; exact h1)
    have hlen : (bkL xs).length = N := by rw [bkL_len, HN.out]
    rw [hlen] at hu hnc ⊢
    have HU := Lib.hid hu; have HB2 := Lib.hid hb2
    clear hu hb2 hlen
    go_wp2_with fail
    go_loopw [4, 13] (fun ov iv wr => ∃ k : Nat, k ≤ N ∧ iv = .int .i64 k ∧ Hid (Ints wr w2.heap.size ov (pls (bkS xs) 0 k) ∧ Below w2.heap.size w2 wr)) (fun _ iv _ => N - (intOf iv).toNat)
    case atStart => exact ⟨0, Nat.zero_le _, rfl, World.ownsRow_nil _ _ _ _, Below.refl _ _⟩
    case round =>
      obtain ⟨k, hk, rfl, HX⟩ := hrel
      by_cases hlt : k < N
      · have hk' : k < xs.length := by rw [← HN.out]; exact hlt
        have h2 : wr.cell? ⟨gu, k, none⟩ = some (.int .i64 (bkS xs k)) := (HX.out.2.cell (p := ⟨gu, k, none⟩) hgw).trans (by rw [ints_at HU.out k (by rw [bkL_len]; exact hk'), bkL_at hk']; rfl)
        have hstep : pls (bkS xs) 0 (k + 1) = pls (bkS xs) 0 k ++ if bkS xs k = 0 then [((k : Int) + 1)] else [] := rfl
        have hpl := pls_len (bkS xs) 0 k
        obtain ⟨x, hx⟩ : ∃ x, x = bkS xs k := ⟨_, rfl⟩
        rw [← hx] at h2 hstep
        have HPL := Lib.hid hpl
        clear hx hpl
        by_cases he : x = 0
        · rw [if_pos he] at hstep
          have hbe : (x == 0) = true := by simpa using he
          have HS := Lib.hid hstep
          clear he hstep
          go_wp2_with (at_builtin; refine wpI_app wr rfl _ _ rfl w2 ((k : Int) + 1) HX.out.1 rfl rfl HX.out.2 (by have := HPL.out; omega) ?_; intro v4 w4 ho4 hb4 hk4 hs4 hw4; have HO4 := Lib.hid ho4; have HB4 := Lib.hid hb4; clear ho4 hb4 hk4 hs4 hw4)
          go_roundw
          case rel => exact ⟨k + 1, by omega, by go_num, by rw [HS.out]; exact HO4.out, HB4.out⟩
          case measure => simp [intOf] <;> omega
        · rw [if_neg he, List.append_nil] at hstep
          have hbe : (x == 0) = false := by simpa using he
          have HS := Lib.hid hstep
          clear he hstep
          go_wp2_with fail
          go_roundw
          case rel => exact ⟨k + 1, by omega, by go_num, by rw [HS.out]; exact HX.out.1, HX.out.2⟩
          case measure => simp [intOf] <;> omega
      · obtain rfl : k = N := by omega
        go_wp2_with fail
        go_ret2
        exact ⟨_, rfl, intsA_mono (intsA_of HX.out.1) HB2.out.size, below_trans HB2.out HX.out.2, fun h => by cases h⟩

set_option maxHeartbeats 2000000 in
theorem implFirstPlaces_arg (w : World) (v : Value) (xs : List Int) (ha : ArgL w v xs) :
    Calls Try.prog 12 #[v] w fun e w' => IntsAOk (fpO xs) w w' e := by
  have hL := isPlaceList_arg w v xs ha
  cases ht : plL xs with
  | false =>
    rw [ht] at hL
    rw [show fpO xs = none by unfold fpO; rw [ht]; rfl]
    obtain ⟨a, cap, rfl, _, _⟩ := argL_slice ha
    have HL := Lib.hid hL; clear hL ha ht
    go_enter Try.func12, Try.ntmps12
    go_wp2_with fail
    refine HL.out.mono ?_
    rintro e w1 ⟨rfl, rfl⟩
    go_wp2_with fail
    go_ret2
    exact ⟨_, rfl, intsA_nil _ _, Below.refl _ _, fun _ => rfl⟩
  | true =>
    rw [ht] at hL
    rw [show fpO xs = some (pls (bkS xs) 0 xs.length) by unfold fpO; rw [ht]; rfl]
    obtain ⟨h1, h60, _⟩ := plL_open ht
    have hB := distancesBack_arg w v xs ha ht
    have hP := fun (W : World) (u : Value) (h : Ints W w.heap.size u (bkL xs)) => placesOf_any W u (bkL xs) 0 (argL_of_ints h) (by rw [bkL_len]; omega)
    rw [bkL_len, pls_congr (s := sq (bkL xs)) (t := bkS xs) 0 xs.length (fun i hi => sq_upL hi)] at hP
    obtain ⟨a, cap, rfl, _, _⟩ := argL_slice ha
    have HL := Lib.hid hL; have HB := Lib.hid hB; have HP := Lib.hid hP; clear hL ha ht hB hP
    go_enter Try.func12, Try.ntmps12
    go_wp2_with fail
    refine HL.out.mono ?_
    rintro e w1 ⟨rfl, rfl⟩
    go_wp2_with fail
    refine HB.out.mono ?_
    rintro e w1 ⟨rfl, ho, hb⟩
    have HO := Lib.hid ho; have HB1 := Lib.hid hb; clear ho hb
    go_wp2_with fail
    refine (HP.out w1 _ HO.out).mono ?_
    rintro e w2 ⟨u, rfl, hu, hb⟩
    have HU := Lib.hid hu; have HB2 := Lib.hid hb; clear hu hb
    go_wp2_with fail
    go_ret2
    exact ⟨_, rfl, intsA_mono (intsA_of HU.out) HB1.out.size, below_trans HB1.out HB2.out, fun h => by cases h⟩

set_option maxHeartbeats 2000000 in
theorem specPlacesOfNumber_arg (w : World) (v : Value) (xs : List Int) (n : Int) (ha : ArgL w v xs) :
    Calls Try.prog 26 #[v, .int .i64 n] w fun e w' => IntsAOk (pnO xs n) w w' e := by
  have hL := plGood_arg w v xs ha
  cases ht : plL xs with
  | false =>
    rw [ht] at hL
    rw [show pnO xs n = none by unfold pnO pnB; rw [ht]; rfl]
    obtain ⟨a, cap, rfl, _, _⟩ := argL_slice ha
    have HL := Lib.hid hL; clear hL ha ht
    go_enter Try.func26, Try.ntmps26
    go_wp2_with fail
    refine HL.out.mono ?_
    rintro e w1 ⟨rfl, rfl⟩
    go_wp2_with fail
    go_ret2
    exact ⟨_, rfl, intsA_nil _ _, Below.refl _ _, fun _ => rfl⟩
  | true =>
    rw [ht] at hL
    obtain ⟨h1, h60, _⟩ := plL_open ht
    cases hd : decide ((0 : Int) ≤ n ∧ n ≤ 1000) with
    | false =>
      rw [show pnO xs n = none by unfold pnO pnB; rw [ht, hd]; rfl]
      obtain ⟨a, cap, rfl, _, _⟩ := argL_slice ha
      have HL := Lib.hid hL; have HD := Lib.hid hd; clear hL ha ht hd
      go_enter Try.func26, Try.ntmps26
      go_wp2_with fail
      refine HL.out.mono ?_
      rintro e w1 ⟨rfl, rfl⟩
      go_wp2_with fail
      refine (l1In_is false _ _ _ _ HD.out).mono ?_
      rintro e w1 ⟨rfl, rfl⟩
      go_wp2_with fail
      go_ret2
      exact ⟨_, rfl, intsA_nil _ _, Below.refl _ _, fun _ => rfl⟩
    | true =>
      rw [show pnO xs n = some (pls (sq xs) n xs.length) by unfold pnO pnB; rw [ht, hd]; rfl]
      obtain ⟨g, o, cap, hv, hc1, hc2, hg, hce⟩ := argL_at ha h1
      obtain ⟨N, hN⟩ : ∃ N, N = xs.length := ⟨_, rfl⟩
      have HN := Lib.hid hN
      rw [← hN] at hv h1 h60 hc1 ⊢
      subst hv
      have HL := Lib.hid hL; have HD := Lib.hid hd; have HC := Lib.hid hce; clear hL ha ht hN hd hce
      go_enter Try.func26, Try.ntmps26
      go_wp2_with fail
      refine HL.out.mono ?_
      rintro e w1 ⟨rfl, rfl⟩
      go_wp2_with fail
      refine (l1In_is true _ _ _ _ HD.out).mono ?_
      rintro e w1 ⟨rfl, rfl⟩
      go_wp2_with fail
      go_loopw [6, 19] (fun ov iv wr => ∃ k : Nat, k ≤ N ∧ iv = .int .i64 k ∧ Hid (Ints wr w.heap.size ov (pls (sq xs) n k) ∧ Below w.heap.size w wr)) (fun _ iv _ => N - (intOf iv).toNat)
      case atStart => exact ⟨0, Nat.zero_le _, rfl, World.ownsRow_nil _ _ _ _, Below.refl _ _⟩
      case round =>
        obtain ⟨k, hk, rfl, HX⟩ := hrel
        by_cases hlt : k < N
        · have hk' : k < xs.length := by rw [← HN.out]; exact hlt
          have h2 : wr.cell? ⟨g, o + k, none⟩ = some (.int .i64 xs[k]) := (HX.out.2.cell (p := ⟨g, o + k, none⟩) hg).trans (HC.out k hk')
          have hstep : pls (sq xs) n (k + 1) = pls (sq xs) n k ++ if xs[k] = n then [((k : Int) + 1)] else [] := by rw [← sq_at hk']; rfl
          have hpl := pls_len (sq xs) n k
          obtain ⟨x, hx⟩ : ∃ x, x = xs[k] := ⟨_, rfl⟩
          rw [← hx] at h2 hstep
          have HPL := Lib.hid hpl
          clear hx hpl
          by_cases he : x = n
          · rw [if_pos he] at hstep
            have hbe : (x == n) = true := by simpa using he
            have HS := Lib.hid hstep
            clear he hstep
            go_wp2_with (at_builtin; refine wpI_app wr rfl _ _ rfl w ((k : Int) + 1) HX.out.1 rfl rfl HX.out.2 (by have := HPL.out; omega) ?_; intro v4 w4 ho4 hb4 hk4 hs4 hw4; have HO4 := Lib.hid ho4; have HB4 := Lib.hid hb4; clear ho4 hb4 hk4 hs4 hw4)
            go_roundw
            case rel => exact ⟨k + 1, by omega, by go_num, by rw [HS.out]; exact HO4.out, HB4.out⟩
            case measure => simp [intOf] <;> omega
          · rw [if_neg he, List.append_nil] at hstep
            have hbe : (x == n) = false := by simpa using he
            have HS := Lib.hid hstep
            clear he hstep
            go_wp2_with fail
            go_roundw
            case rel => exact ⟨k + 1, by omega, by go_num, by rw [HS.out]; exact HX.out.1, HX.out.2⟩
            case measure => simp [intOf] <;> omega
        · obtain rfl : k = N := by omega
          go_wp2_with fail
          go_ret2
          exact ⟨_, rfl, intsA_of HX.out.1, HX.out.2, fun h => by cases h⟩

set_option maxHeartbeats 2000000 in
theorem implPlacesOfNumber_arg (w : World) (v : Value) (xs : List Int) (n : Int) (ha : ArgL w v xs) :
    Calls Try.prog 21 #[v, .int .i64 n] w fun e w' => IntsAOk (pnO xs n) w w' e := by
  have hL := isPlaceList_arg w v xs ha
  cases ht : plL xs with
  | false =>
    rw [ht] at hL
    rw [show pnO xs n = none by unfold pnO pnB; rw [ht]; rfl]
    obtain ⟨a, cap, rfl, _, _⟩ := argL_slice ha
    have HL := Lib.hid hL; clear hL ha ht
    go_enter Try.func21, Try.ntmps21
    go_wp2_with fail
    refine HL.out.mono ?_
    rintro e w1 ⟨rfl, rfl⟩
    go_wp2_with fail
    go_ret2
    exact ⟨_, rfl, intsA_nil _ _, Below.refl _ _, fun _ => rfl⟩
  | true =>
    rw [ht] at hL
    obtain ⟨h1, h60, _⟩ := plL_open ht
    cases hd : decide ((0 : Int) ≤ n ∧ n ≤ 1000) with
    | false =>
      rw [show pnO xs n = none by unfold pnO pnB; rw [ht, hd]; rfl]
      obtain ⟨a, cap, rfl, _, _⟩ := argL_slice ha
      have HL := Lib.hid hL; have HD := Lib.hid hd; clear hL ha ht hd
      go_enter Try.func21, Try.ntmps21
      go_wp2_with fail
      refine HL.out.mono ?_
      rintro e w1 ⟨rfl, rfl⟩
      go_wp2_with fail
      refine (isWithin_is false _ _ _ _ HD.out).mono ?_
      rintro e w1 ⟨rfl, rfl⟩
      go_wp2_with fail
      go_ret2
      exact ⟨_, rfl, intsA_nil _ _, Below.refl _ _, fun _ => rfl⟩
    | true =>
      rw [show pnO xs n = some (pls (sq xs) n xs.length) by unfold pnO pnB; rw [ht, hd]; rfl]
      have hP := placesOf_any w v xs n ha (by omega)
      obtain ⟨a, cap, rfl, _, _⟩ := argL_slice ha
      have HL := Lib.hid hL; have HD := Lib.hid hd; have HP := Lib.hid hP; clear hL ha ht hd hP
      go_enter Try.func21, Try.ntmps21
      go_wp2_with fail
      refine HL.out.mono ?_
      rintro e w1 ⟨rfl, rfl⟩
      go_wp2_with fail
      refine (isWithin_is true _ _ _ _ HD.out).mono ?_
      rintro e w1 ⟨rfl, rfl⟩
      go_wp2_with fail
      refine HP.out.mono ?_
      rintro e w2 ⟨u, rfl, hu, hb⟩
      have HU := Lib.hid hu; have HB2 := Lib.hid hb; clear hu hb
      go_wp2_with fail
      go_ret2
      exact ⟨_, rfl, intsA_of HU.out, HB2.out, fun h => by cases h⟩

set_option maxHeartbeats 2000000 in
theorem specGreatestGap_arg (w : World) (v : Value) (xs : List Int) (ha : ArgL w v xs) :
    Calls Try.prog 15 #[v] w fun e w' => e = .returned (.tuple #[.int .i64 (ggV xs), .bool (plL xs)]) ∧ Below w.heap.size w w' := by
  have hL := plGood_arg w v xs ha
  cases ht : plL xs with
  | false =>
    rw [ht] at hL
    rw [show ggV xs = 0 by unfold ggV; rw [ht]; rfl]
    obtain ⟨a, cap, rfl, _, _⟩ := argL_slice ha
    have HL := Lib.hid hL; clear hL ha ht
    go_enter Try.func15, Try.ntmps15
    go_wp2_with fail
    refine HL.out.mono ?_
    rintro e w1 ⟨rfl, rfl⟩
    go_wp2_with fail
    go_ret2
    exact ⟨rfl, Below.refl _ _⟩
  | true =>
    rw [ht] at hL
    rw [show ggV xs = mxS (bkS xs) xs.length by unfold ggV; rw [ht]; rfl]
    obtain ⟨h1, h60, _⟩ := plL_open ht
    have hB := plBacks_arg w v xs ha h1 (by omega)
    obtain ⟨a, cap, hv, _, _⟩ := argL_slice ha
    obtain ⟨N, hN⟩ : ∃ N, N = xs.length := ⟨_, rfl⟩
    have HN := Lib.hid hN
    rw [← hN] at hv h1 h60 ⊢
    subst hv
    have HL := Lib.hid hL; have HB := Lib.hid hB; clear hL ha ht hB hN
    go_enter Try.func15, Try.ntmps15
    go_wp2_with fail
    refine HL.out.mono ?_
    rintro e w1 ⟨rfl, rfl⟩
    go_wp2_with fail
    refine HB.out.mono ?_
    rintro e w2 ⟨u, rfl, hu, hb2⟩
    obtain ⟨gu, cu, rfl, hgu, hgw, hcu, hnc⟩ := ints_slice hu (by rw [bkL_len, ← HN.out]; exact h1)
    have hlen : (bkL xs).length = N := by rw [bkL_len, HN.out]
    rw [hlen] at hu hnc ⊢
    have HU := Lib.hid hu; have HB2 := Lib.hid hb2
    clear hu hb2 hlen
    go_wp2_with fail
    go_loop [4, 13] (fun mv iv => ∃ (k : Nat) (m : Int), k ≤ N ∧ iv = .int .i64 k ∧ mv = .int .i64 m ∧ Hid (m = mxS (bkS xs) k)) (fun _ iv => N - (intOf iv).toNat)
    case atStart => exact ⟨0, 0, Nat.zero_le _, rfl, rfl, rfl⟩
    case round =>
      obtain ⟨k, m, hk, rfl, rfl, HX⟩ := hrel
      by_cases hlt : k < N
      · have hk' : k < xs.length := by rw [← HN.out]; exact hlt
        have h2 : w2.cell? ⟨gu, k, none⟩ = some (.int .i64 (bkS xs k)) := by rw [ints_at HU.out k (by rw [bkL_len]; exact hk'), bkL_at hk']; rfl
        have hstep : mxS (bkS xs) (k + 1) = if m > bkS xs k then m else bkS xs k := by rw [HX.out]; rfl
        obtain ⟨x, hx⟩ : ∃ x, x = bkS xs k := ⟨_, rfl⟩
        rw [← hx] at h2 hstep
        have HS := Lib.hid hstep
        clear hx hstep
        go_wp2_with fail
        refine (l1Most_any w2 m x).mono ?_
        rintro e w3 ⟨rfl, rfl⟩
        go_wp2_with fail
        go_round
        case rel => exact ⟨k + 1, _, by omega, by go_num, rfl, Lib.hid HS.out.symm⟩
        case measure => simp [intOf] <;> omega
      · obtain rfl : k = N := by omega
        go_wp2_with fail
        go_ret2
        exact ⟨by rw [HX.out]; rfl, HB2.out⟩

set_option maxHeartbeats 2000000 in
theorem implGreatestGap_arg (w : World) (v : Value) (xs : List Int) (ha : ArgL w v xs) :
    Calls Try.prog 14 #[v] w fun e w' => e = .returned (.tuple #[.int .i64 (ggV xs), .bool (plL xs)]) ∧ Below w.heap.size w w' := by
  have hL := isPlaceList_arg w v xs ha
  cases ht : plL xs with
  | false =>
    rw [ht] at hL
    rw [show ggV xs = 0 by unfold ggV; rw [ht]; rfl]
    obtain ⟨a, cap, rfl, _, _⟩ := argL_slice ha
    have HL := Lib.hid hL; clear hL ha ht
    go_enter Try.func14, Try.ntmps14
    go_wp2_with fail
    refine HL.out.mono ?_
    rintro e w1 ⟨rfl, rfl⟩
    go_wp2_with fail
    go_ret2
    exact ⟨rfl, Below.refl _ _⟩
  | true =>
    rw [ht] at hL
    rw [show ggV xs = mxS (bkS xs) xs.length by unfold ggV; rw [ht]; rfl]
    obtain ⟨h1, h60, _⟩ := plL_open ht
    have hB := distancesBack_arg w v xs ha ht
    have hP := fun (W : World) (u : Value) (h : Ints W w.heap.size u (bkL xs)) => greatestOf_any W u (bkL xs) (argL_of_ints h) (by rw [bkL_len]; omega)
    rw [bkL_len, mxS_congr (s := sq (bkL xs)) (t := bkS xs) xs.length (fun i hi => sq_upL hi)] at hP
    obtain ⟨a, cap, rfl, _, _⟩ := argL_slice ha
    have HL := Lib.hid hL; have HB := Lib.hid hB; have HP := Lib.hid hP; clear hL ha ht hB hP
    go_enter Try.func14, Try.ntmps14
    go_wp2_with fail
    refine HL.out.mono ?_
    rintro e w1 ⟨rfl, rfl⟩
    go_wp2_with fail
    refine HB.out.mono ?_
    rintro e w1 ⟨rfl, ho, hb⟩
    have HO := Lib.hid ho; have HB1 := Lib.hid hb; clear ho hb
    go_wp2_with fail
    refine (HP.out w1 _ HO.out).mono ?_
    rintro e w2 ⟨rfl, rfl⟩
    go_wp2_with fail
    go_ret2
    exact ⟨rfl, HB1.out⟩

end Go.Proofs.Ytpglkgpaaflikaa
