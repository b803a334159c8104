/- Chapter 6: distances ahead, on both sides, and the law. -/
import Derived.Test.YtbjhalhahipjdaaY4
namespace Go.Proofs.Ytbjhalhahipjdaa
open Go.RowKit Go.BigFrame Go.Maps
set_option linter.unusedSimpArgs false
set_option linter.unusedVariables false
set_option maxRecDepth 4000

/-- A row's cell. -/
theorem ints_at {w : World} {B g n c : Nat} {xs : List Int} (h : Ints w B (.slice (some ⟨g, 0, none⟩) n c) xs) (i : Nat) (hi : i < xs.length) : w.cell? ⟨g, i, none⟩ = some (.int .i64 xs[i]) := by
  rcases ints_open h with ⟨e, _⟩ | ⟨g', c', e, _, _, _, _, hc, _⟩
  · cases e
  · cases e; exact hc i hi
theorem ints_slice {w : World} {B : Nat} {u : Value} {xs : List Int} (h : Ints w B u xs) (h1 : 1 ≤ xs.length) : ∃ g c, u = .slice (some ⟨g, 0, none⟩) xs.length c ∧ B ≤ g ∧ g < w.heap.size ∧ c ≤ 9223372036854775807 ∧ xs.length ≤ c := by
  rcases own_open h with ⟨_, e, _⟩ | ⟨g, c, e, h2, h3, h4, h5, _⟩
  · omega
  · unfold maxLen at h5; exact ⟨g, c, e, h2, h3, by omega, h4⟩
/-- The distances ahead that the first k places tell. -/
def ah (d : Nat → Nat) (N : Nat) : Nat → List Int
  | 0 => List.replicate N 0
  | k + 1 => if d k = 0 then ah d N k else (ah d N k).set (k - d k) ((d k : Nat) : Int)
theorem ah_len (d : Nat → Nat) (N : Nat) : ∀ k, (ah d N k).length = N
  | 0 => by simp [ah]
  | k + 1 => by
    unfold ah; split
    · exact ah_len d N k
    · rw [List.length_set]; exact ah_len d N k
def ahL (xs : List Int) : List Int := ah (bk (sq xs)) xs.length xs.length
theorem ahL_len (xs : List Int) : (ahL xs).length = xs.length := ah_len _ _ _
def daO (xs : List Int) : Option (List Int) := if plL xs = true then some (ahL xs) else none
theorem daO_len (xs : List Int) : ((daO xs).getD []).length ≤ 60 := by
  unfold daO
  split
  · rename_i h; simp only [Option.getD_some, ahL_len]; exact (plL_open h).2.1
  · simp
theorem bkL_at {xs : List Int} {k : Nat} (h : k < xs.length) : (bkL xs)[k]'(by rw [bkL_len]; exact h) = ((bk (sq xs) k : Nat) : Int) := upL_at h

set_option maxHeartbeats 2000000 in
theorem specDistancesAhead_any (w : World) (B : Nat) (v : Value) (xs : List Int) (ha : IntsA w B v xs) :
    Calls Try.prog 21 #[v] w fun e w' => IntsAOk (daO xs) w w' e := by
  obtain ⟨i0, hi, hz0, hz1, hz2⟩ := info_parts info_intT
  have hL := plGood_any w B v xs ha
  cases ht : plL xs with
  | false =>
    rw [ht] at hL
    rw [show daO xs = none by unfold daO; rw [ht]; rfl]
    obtain ⟨a, cap, rfl, _, _⟩ := intsA_slice ha
    have HL := Lib.hid hL; clear hL ha ht
    go_enter Try.func21, Try.ntmps21
    go_wp2_with fail
    refine HL.out.mono ?_
    rintro e w1 ⟨rfl, rfl⟩
    go_wp2_with fail
    go_ret2
    exact ⟨_, rfl, intsA_nil _ _, Below.refl _ _, fun _ => rfl⟩
  | true =>
    rw [ht] at hL
    rw [show daO xs = some (ahL xs) by unfold daO; rw [ht]; rfl]
    obtain ⟨h1, h60, _⟩ := plL_open ht
    have hB : ∀ W, Below w.heap.size w W → Calls Try.prog 44 #[v] W fun e w' => ∃ u, e = .returned u ∧ Ints w' W.heap.size u (bkL xs) ∧ Below W.heap.size W w' := fun W hb => plBacks_any W B v xs (intsA_below ha hb) (by omega) (by omega)
    obtain ⟨a, cap, hv, _, _⟩ := intsA_slice ha
    obtain ⟨N, hN⟩ : ∃ N, N = xs.length := ⟨_, rfl⟩
    have HN := Lib.hid hN
    rw [← hN] at hv h1 h60
    subst hv
    have HL := Lib.hid hL; have HB := Lib.hid hB; clear hL ha ht hB hN
    go_enter Try.func21, Try.ntmps21
    go_wp2_with fail
    refine HL.out.mono ?_
    rintro e w1 ⟨rfl, rfl⟩
    go_wp2_with (refine wpList_make_full _ rfl _ _ 22 rfl w.heap.size 3 i0 (.int .i64 0) 1 Try.underlying22 hi hz0 hz1 .i64 .i64 (N : Int) (N : Int) N rfl rfl rfl rfl (by rw [hz2]; omega) (by unfold maxLen; omega) (Nat.le_refl _) ?_; intro w1 hown hgr; have HO := Lib.hid hown; have HB1 := Lib.hid ((Below.refl w.heap.size w).grown hgr (Nat.le_refl _) (fun k h => by cases h)); clear hown hgr)
    refine (HB.out w1 HB1.out).mono ?_
    rintro e w2 ⟨u, rfl, hu, hb2⟩
    obtain ⟨gu, cu, rfl, hgu, hgw, hcu, hnc⟩ := ints_slice hu (by rw [bkL_len, ← HN.out]; exact h1)
    have hne : w.heap.size < w1.heap.size := (HO.out.lt w.heap.size rfl).2
    have hlen : (bkL xs).length = N := by rw [bkL_len, HN.out]
    rw [hlen] at hu hnc ⊢
    have HU := Lib.hid hu; have HB2 := Lib.hid (below_trans HB1.out hb2); have HO2 := Lib.hid (own_below HO.out hb2)
    clear hu hb2 hlen
    go_wp2_with fail
    go_loopw [16] (fun iv wr => ∃ k : Nat, k ≤ N ∧ iv = .int .i64 k ∧ Hid (wr.ownsRow w.heap.size 3 1 (.slice (some ⟨w.heap.size, 0, none⟩) N N) N ((ah (bk (sq xs)) N k).map (.int .i64)) ∧ Ints wr w1.heap.size (.slice (some ⟨gu, 0, none⟩) N cu) (bkL xs) ∧ Below w.heap.size w wr)) (fun iv _ => N - (intOf iv).toNat)
    case atStart =>
      refine ⟨0, Nat.zero_le _, rfl, ?_, HU.out, HB2.out⟩
      have e : (madeCells (Value.int .i64 0).cells (N * 1)).toList = (ah (bk (sq xs)) N 0).map (.int .i64) := by
        rw [Nat.mul_one]; unfold ah; rw [List.map_replicate]; exact toList_madeCells_one _ _
      exact e ▸ HO2.out
    case round =>
      obtain ⟨k, hk, rfl, HX⟩ := hrel
      by_cases hlt : k < N
      · have hk' : k < xs.length := by rw [← HN.out]; exact hlt
        have h2 : wr.cell? ⟨gu, k, none⟩ = some (.int .i64 ((bk (sq xs) k : Nat) : Int)) := by rw [ints_at HX.out.2.1 k (by rw [bkL_len]; exact hk'), bkL_at hk']
        have hle := bk_le (sq xs) k
        have hstep : ah (bk (sq xs)) N (k + 1) = if bk (sq xs) k = 0 then ah (bk (sq xs)) N k else (ah (bk (sq xs)) N k).set (k - bk (sq xs) k) ((bk (sq xs) k : Nat) : Int) := rfl
        obtain ⟨d, hd⟩ : ∃ d, d = bk (sq xs) k := ⟨_, rfl⟩
        rw [← hd] at h2 hle hstep
        by_cases h0 : d = 0
        · rw [if_pos h0] at hstep
          have HS := Lib.hid hstep
          subst h0
          clear hd hstep
          go_wp2_with fail
          go_roundw
          case rel => exact ⟨k + 1, by omega, by go_num, by rw [HS.out]; exact HX.out.1, HX.out.2⟩
          case measure => simp [intOf] <;> omega
        · rw [if_neg h0] at hstep
          obtain ⟨m, hm⟩ : ∃ m, m = k - d := ⟨_, rfl⟩
          rw [← hm] at hstep
          have he : (k : Int) - (d : Int) = (m : Int) := by omega
          have hmN : m < N := by omega
          have h3 : ∃ y, wr.cell? ⟨w.heap.size, m, none⟩ = some y := ⟨_, (HX.out.1.cellAt m (by simp [ah_len]; exact hmN)).trans (List.getElem?_eq_getElem (by simp [ah_len]; exact hmN))⟩
          obtain ⟨y, hy⟩ := h3
          have h4 : wr.frozen? ⟨w.heap.size, m, none⟩ = false := HX.out.1.frozenAt m
          have HS := Lib.hid hstep
          clear hd hstep hm
          go_wp2_with fail
          go_roundw
          case rel =>
            refine ⟨k + 1, by omega, by go_num, ?_, own_block HX.out.2.1 (fun j hj => ?_), HX.out.2.2.setCell (p := ⟨w.heap.size, m, none⟩) (Nat.le_refl _) _⟩
            · have := (HX.out.1.stored m (.int .i64 (d : Int))).1
              rw [HS.out, List.map_set]
              exact this
            · cases hj
              exact Below.heap_setCell _ _ _ _ (by simp; omega)
          case measure => simp [intOf] <;> omega
      · obtain rfl : k = N := by omega
        go_wp2_with fail
        go_ret2
        refine ⟨_, rfl, intsA_of ?_, HX.out.2.2, fun h => by cases h⟩
        unfold Ints ahL
        simp only [Option.getD_some]
        rw [ah_len, ← HN.out]
        exact HX.out.1

set_option maxHeartbeats 2000000 in
theorem implDistancesAhead_any (w : World) (B : Nat) (v : Value) (xs : List Int) (ha : IntsA w B v xs) :
    Calls Try.prog 22 #[v] w fun e w' => IntsAOk (daO xs) w w' e := by
  obtain ⟨i0, hi, hz0, hz1, hz2⟩ := info_parts info_intT
  have hL := isPlaceList_any w B v xs ha
  cases ht : plL xs with
  | false =>
    rw [ht] at hL
    rw [show daO xs = none by unfold daO; rw [ht]; rfl]
    obtain ⟨a, cap, rfl, _, _⟩ := intsA_slice ha
    have HL := Lib.hid hL; clear hL ha ht
    go_enter Try.func22, Try.ntmps22
    go_wp2_with fail
    refine HL.out.mono ?_
    rintro e w1 ⟨rfl, rfl⟩
    go_wp2_with fail
    go_ret2
    exact ⟨_, rfl, intsA_nil _ _, Below.refl _ _, fun _ => rfl⟩
  | true =>
    rw [ht] at hL
    rw [show daO xs = some (ahL xs) by unfold daO; rw [ht]; rfl]
    obtain ⟨h1, h60, _⟩ := plL_open ht
    have hB : ∀ W, Below w.heap.size w W → Calls Try.prog 46 #[v] W fun e w' => ∃ u, e = .returned u ∧ Ints w' W.heap.size u (bkL xs) ∧ Below W.heap.size W w' := fun W hb => (distancesBack_any W B v xs (intsA_below ha hb) ht).mono fun e w2 ⟨h1, h2, h3⟩ => ⟨_, h1, h2, h3⟩
    obtain ⟨a, cap, hv, _, _⟩ := intsA_slice ha
    obtain ⟨N, hN⟩ : ∃ N, N = xs.length := ⟨_, rfl⟩
    have HN := Lib.hid hN
    rw [← hN] at hv h1 h60
    subst hv
    have HL := Lib.hid hL; have HB := Lib.hid hB; clear hL ha ht hB hN
    go_enter Try.func22, Try.ntmps22
    go_wp2_with fail
    refine HL.out.mono ?_
    rintro e w1 ⟨rfl, rfl⟩
    go_wp2_with (refine wpList_make_full _ rfl _ _ 22 rfl w.heap.size 3 i0 (.int .i64 0) 1 Try.underlying22 hi hz0 hz1 .i64 .i64 (N : Int) (N : Int) N rfl rfl rfl rfl (by rw [hz2]; omega) (by unfold maxLen; omega) (Nat.le_refl _) ?_; intro w1 hown hgr; have HO := Lib.hid hown; have HB1 := Lib.hid ((Below.refl w.heap.size w).grown hgr (Nat.le_refl _) (fun k h => by cases h)); clear hown hgr)
    refine (HB.out w1 HB1.out).mono ?_
    rintro e w2 ⟨u, rfl, hu, hb2⟩
    obtain ⟨gu, cu, rfl, hgu, hgw, hcu, hnc⟩ := ints_slice hu (by rw [bkL_len, ← HN.out]; exact h1)
    have hne : w.heap.size < w1.heap.size := (HO.out.lt w.heap.size rfl).2
    have hlen : (bkL xs).length = N := by rw [bkL_len, HN.out]
    rw [hlen] at hu hnc ⊢
    have HU := Lib.hid hu; have HB2 := Lib.hid (below_trans HB1.out hb2); have HO2 := Lib.hid (own_below HO.out hb2)
    clear hu hb2 hlen
    go_wp2_with fail
    go_loopw [16] (fun iv wr => ∃ k : Nat, k ≤ N ∧ iv = .int .i64 k ∧ Hid (wr.ownsRow w.heap.size 3 1 (.slice (some ⟨w.heap.size, 0, none⟩) N N) N ((ah (bk (sq xs)) N k).map (.int .i64)) ∧ Ints wr w1.heap.size (.slice (some ⟨gu, 0, none⟩) N cu) (bkL xs) ∧ Below w.heap.size w wr)) (fun iv _ => N - (intOf iv).toNat)
    case atStart =>
      refine ⟨0, Nat.zero_le _, rfl, ?_, HU.out, HB2.out⟩
      have e : (madeCells (Value.int .i64 0).cells (N * 1)).toList = (ah (bk (sq xs)) N 0).map (.int .i64) := by
        rw [Nat.mul_one]; unfold ah; rw [List.map_replicate]; exact toList_madeCells_one _ _
      exact e ▸ HO2.out
    case round =>
      obtain ⟨k, hk, rfl, HX⟩ := hrel
      by_cases hlt : k < N
      · have hk' : k < xs.length := by rw [← HN.out]; exact hlt
        have h2 : wr.cell? ⟨gu, k, none⟩ = some (.int .i64 ((bk (sq xs) k : Nat) : Int)) := by rw [ints_at HX.out.2.1 k (by rw [bkL_len]; exact hk'), bkL_at hk']
        have hle := bk_le (sq xs) k
        have hstep : ah (bk (sq xs)) N (k + 1) = if bk (sq xs) k = 0 then ah (bk (sq xs)) N k else (ah (bk (sq xs)) N k).set (k - bk (sq xs) k) ((bk (sq xs) k : Nat) : Int) := rfl
        obtain ⟨d, hd⟩ : ∃ d, d = bk (sq xs) k := ⟨_, rfl⟩
        rw [← hd] at h2 hle hstep
        by_cases h0 : d = 0
        · rw [if_pos h0] at hstep
          have HS := Lib.hid hstep
          subst h0
          clear hd hstep
          go_wp2_with fail
          go_roundw
          case rel => exact ⟨k + 1, by omega, by go_num, by rw [HS.out]; exact HX.out.1, HX.out.2⟩
          case measure => simp [intOf] <;> omega
        · rw [if_neg h0] at hstep
          obtain ⟨m, hm⟩ : ∃ m, m = k - d := ⟨_, rfl⟩
          rw [← hm] at hstep
          have he : (k : Int) - (d : Int) = (m : Int) := by omega
          have hmN : m < N := by omega
          have h3 : ∃ y, wr.cell? ⟨w.heap.size, m, none⟩ = some y := ⟨_, (HX.out.1.cellAt m (by simp [ah_len]; exact hmN)).trans (List.getElem?_eq_getElem (by simp [ah_len]; exact hmN))⟩
          obtain ⟨y, hy⟩ := h3
          have h4 : wr.frozen? ⟨w.heap.size, m, none⟩ = false := HX.out.1.frozenAt m
          have HS := Lib.hid hstep
          clear hd hstep hm
          go_wp2_with fail
          go_roundw
          case rel =>
            refine ⟨k + 1, by omega, by go_num, ?_, own_block HX.out.2.1 (fun j hj => ?_), HX.out.2.2.setCell (p := ⟨w.heap.size, m, none⟩) (Nat.le_refl _) _⟩
            · have := (HX.out.1.stored m (.int .i64 (d : Int))).1
              rw [HS.out, List.map_set]
              exact this
            · cases hj
              exact Below.heap_setCell _ _ _ _ (by simp; omega)
          case measure => simp [intOf] <;> omega
      · obtain rfl : k = N := by omega
        go_wp2_with fail
        go_ret2
        refine ⟨_, rfl, intsA_of ?_, HX.out.2.2, fun h => by cases h⟩
        unfold Ints ahL
        simp only [Option.getD_some]
        rw [ah_len, ← HN.out]
        exact HX.out.1

set_option maxRecDepth 100000 in
set_option maxHeartbeats 1000000 in
theorem law_DistancesAhead (v : Value) (xs : List Int) (w : World) (h : ArgL w v xs) :
    Calls Try.prog 4 #[v] w fun e w' => e = .returned (.bool true) ∧ Below w.heap.size w w' := by
  obtain ⟨A, C, hv, hC1, hC2, hce⟩ := h
  by_cases hb : 1048576 < xs.length
  · obtain ⟨N, hN⟩ : ∃ N, N = xs.length := ⟨_, rfl⟩
    rw [← hN] at hv hb hC1
    subst hv
    clear hce hN
    go_enter Try.func4, Try.ntmps4
    go_wp2_with fail
    go_ret
    exact ⟨rfl, Below.refl _ _⟩
  · have hn : xs.length ≤ 1048576 := by omega
    have h : ArgL w v xs := ⟨A, C, hv, hC1, hC2, hce⟩
    have hto := fun (W : World) (hbW : Below w.heap.size w W) => toIntL_any W v xs (argL_below h hbW) hn
    have hspec := fun (W : World) (B : Nat) (u : Value) (ha : IntsA W B u xs) => specDistancesAhead_any W B u xs ha
    have himpl := fun (W : World) (B : Nat) (u : Value) (ha : IntsA W B u xs) => implDistancesAhead_any W B u xs ha
    obtain ⟨op, hop⟩ : ∃ op, op = daO xs := ⟨_, rfl⟩
    rw [← hop] at hspec himpl
    obtain ⟨ns, hns⟩ : ∃ ns, ns = op.getD [] := ⟨_, rfl⟩
    obtain ⟨y, hy⟩ : ∃ y, y = op.isSome := ⟨_, rfl⟩
    have hlen : ns.length ≤ 5000 := by rw [hns, hop]; exact Nat.le_trans (daO_len xs) (by omega)
    unfold IntsAOk at hspec himpl
    rw [← hns, ← hy] at hspec himpl
    obtain ⟨N, hN⟩ : ∃ N, N = xs.length := ⟨_, rfl⟩
    obtain ⟨tt, ht⟩ : ∃ tt, tt = 1 + ns.length := ⟨_, rfl⟩
    obtain ⟨kk, hk⟩ : ∃ kk, kk = 1 + N := ⟨_, rfl⟩
    rw [← hN] at hv hto hC1
    have ht2 : tt ≤ 5001 := by omega
    have ht1 : 1 ≤ tt := by omega
    have hk1 : 1 ≤ kk := by omega
    have hk2 : kk ≤ 1048577 := by omega
    have hNle : N ≤ 1048576 := by omega
    have hkl : kk = 1 + xs.length := by rw [hk, hN]
    have e1 : ((tt : Int) != (tt : Int)) = false := by simp
    have e2 : (y != y) = false := by simp
    subst hv
    have HS := Lib.hid hspec; have HI := Lib.hid himpl; have HT := Lib.hid hto; have HTT := Lib.hid ht; have HK := Lib.hid hkl; have HLEN := Lib.hid hlen; have HNN := Lib.hid hn
    clear hspec himpl hto ht hkl hlen hop hns hy hN hk h hce hC1 hC2 hb hn
    go_enter Try.func4, Try.ntmps4
    go_wp2_with fail
    refine (HT.out w (Below.refl _ _)).mono ?_
    rintro e w1 ⟨rfl, a1, b1, _⟩
    have A1 := Lib.hid a1; have B1 := Lib.hid b1; clear a1 b1
    go_wp2_with fail
    refine (HS.out w1 _ _ A1.out).mono ?_
    rintro e w2 ⟨v0, rfl, a2, b2, _⟩
    have A2 := Lib.hid a2; have B2 := Lib.hid (below_trans B1.out b2); clear a2 b2
    have S1 := Lib.hid B1.out.size
    go_wp2_with fail
    refine (HT.out w2 B2.out).mono ?_
    rintro e w3 ⟨rfl, a3, b3, s3⟩
    have A3 := Lib.hid a3; have B3 := Lib.hid b3; have C3 := Lib.hid (below_trans B2.out b3); have S3 := Lib.hid s3; clear a3 b3 s3
    go_wp2_with fail
    refine (HI.out w3 _ _ A3.out).mono ?_
    rintro e w4 ⟨v1, rfl, a4, b4, _⟩
    have A4 := Lib.hid a4; have B4 := Lib.hid b4; clear a4 b4
    have Z4 := Lib.hid (intsA_below A2.out (below_trans B3.out B4.out)); have X4 := Lib.hid (intsA_below A3.out B4.out); have C4 := Lib.hid (below_trans C3.out B4.out)
    go_wp2_with fail
    refine (eqIntA_same w4 _ _ v1 v0 ns A4.out Z4.out).mono ?_
    rintro e w5 ⟨rfl, b5⟩
    have B5 := Lib.hid b5; clear b5
    have A5 := Lib.hid (intsA_below A4.out B5.out); have Z5 := Lib.hid (intsA_below Z4.out B5.out); have X5 := Lib.hid (intsA_below X4.out B5.out); have C5 := Lib.hid (below_trans C4.out B5.out)
    go_wp2_with fail
    refine (HT.out w5 C5.out).mono ?_
    rintro e w6 ⟨rfl, a6, b6, _⟩
    have B6 := Lib.hid b6; have T6 := Lib.hid a6; clear a6 b6
    have A6 := Lib.hid (intsA_below A5.out B6.out); have Z6 := Lib.hid (intsA_below Z5.out B6.out); have X6 := Lib.hid (intsA_below X5.out B6.out); have C6 := Lib.hid (below_trans C5.out B6.out)
    go_wp2_with fail
    refine (eqIntA_same w6 _ _ _ _ xs X6.out T6.out).mono ?_
    rintro e w7 ⟨rfl, b7⟩
    have B7 := Lib.hid b7; clear b7
    have A7 := Lib.hid (intsA_below A6.out B7.out); have Z7 := Lib.hid (intsA_below Z6.out B7.out); have X7 := Lib.hid (intsA_below X6.out B7.out); have C7 := Lib.hid (below_trans C6.out B7.out)
    have L7 := Lib.hid (Nat.le_trans (Nat.le_trans (Nat.le_trans B4.out.size B5.out.size) B6.out.size) B7.out.size)
    go_wp2_with fail
    refine (markIntA_any w7 _ 1 _ xs X7.out (by have := HNN.out; omega)).mono ?_
    rintro e w8 ⟨rfl, a8, b8, o8⟩
    rw [← HK.out]
    have hA8 : IntsA w8 w3.heap.size v1 ns := intsA_other A7.out (fun k k1 k2 => o8 k (slice_ne (by have := S3.out; omega)) k2)
    have hZ8 : IntsA w8 w1.heap.size v0 ns := by
      rcases A2.out with hq | ⟨g, cap, E, rest, q1, q2, q3, q4⟩
      · exact .inl hq
      · have hg2 : g < w2.heap.size := (Array.getElem?_eq_some_iff.1 q3).1
        rcases Z7.out with hq | ⟨g', cap', E', rest', r1, r2, r3, r4⟩
        · exact .inl hq
        · rw [q1] at r1
          have hgg : g = g' := by simp only [Value.slice.injEq, Option.some.injEq, Addr.mk.injEq] at r1; exact r1.1.1
          subst hgg
          refine .inr ⟨g, cap', E', rest', by rw [q1]; exact r1, r2, ?_, r4⟩
          rw [o8 g (slice_ne (by omega)) (Array.getElem?_eq_some_iff.1 r3).1]
          exact r3
    have A8 := Lib.hid hA8; have Z8 := Lib.hid hZ8; have C8 : Hid (Below w.heap.size w w8) := C7.out.trans (b8.mono (B2.out.size))
    clear a8 o8 hA8 hZ8 b8
    have hk0 : ¬ ((kk : Int) < 0) := by omega
    go_wp2_with fail
    refine (eqIntA_same w8 _ _ v1 v0 ns A8.out Z8.out).mono ?_
    rintro e w9 ⟨rfl, b9⟩
    have A9 := Lib.hid (intsA_below A8.out b9); have Z9 := Lib.hid (intsA_below Z8.out b9); have C9 := Lib.hid (below_trans C8.out b9); have S9 := Lib.hid b9.size; clear b9
    go_wp2_with fail
    refine (markIntA_any w9 _ 1 v1 ns A9.out (by have := HLEN.out; omega)).mono ?_
    rintro e w10 ⟨rfl, a10, b10, o10⟩
    rw [← HTT.out]
    have Z10 : Hid (IntsA w10 w1.heap.size v0 ns) := by
      rcases A2.out with hq | ⟨g, cap, E, rest, q1, q2, q3, q4⟩
      · exact .inl hq
      · have hg2 : g < w2.heap.size := (Array.getElem?_eq_some_iff.1 q3).1
        rcases Z9.out with hq | ⟨g', cap', E', rest', r1, r2, r3, r4⟩
        · exact .inl hq
        · rw [q1] at r1
          have hgg : g = g' := by simp only [Value.slice.injEq, Option.some.injEq, Addr.mk.injEq] at r1; exact r1.1.1
          subst hgg
          refine .inr ⟨g, cap', E', rest', by rw [q1]; exact r1, r2, ?_, r4⟩
          rw [b10.block g (by have := B3.out.size; omega)]
          exact r3
    have A10 := Lib.hid a10; have C10 : Hid (Below w.heap.size w w10) := C9.out.trans (b10.mono C3.out.size)
    clear a10 b10 o10
    have ht0 : ¬ ((tt : Int) < 0) := by omega
    go_wp2_with fail
    refine (heldIntA_any w10 _ 1 ns.length v1 A10.out (by have := HLEN.out; omega)).mono ?_
    rintro e w11 ⟨rfl, b11⟩
    rw [← HTT.out]
    have A11 := Lib.hid (intsA_below A10.out b11); have Z11 := Lib.hid (intsA_below Z10.out b11); have C11 := Lib.hid (below_trans C10.out b11); clear b11
    go_wp2_with fail
    refine (HT.out w11 C11.out).mono ?_
    rintro e w12 ⟨rfl, a12, b12, _⟩
    have T12 := Lib.hid a12; have A12 := Lib.hid (intsA_below A11.out b12); have Z12 := Lib.hid (intsA_below Z11.out b12); have C12 := Lib.hid (below_trans C11.out b12); clear a12 b12
    go_wp2_with fail
    refine (HI.out w12 _ _ T12.out).mono ?_
    rintro e w13 ⟨v6, rfl, a13, b13, _⟩
    have H13 := Lib.hid a13; have A13 := Lib.hid (intsA_below A12.out b13); have Z13 := Lib.hid (intsA_below Z12.out b13); have C13 := Lib.hid (below_trans C12.out b13); clear a13 b13
    go_wp2_with fail
    refine (eqIntA_same w13 _ _ v6 v0 ns H13.out Z13.out).mono ?_
    rintro e w14 ⟨rfl, b14⟩
    have A14 := Lib.hid (intsA_below A13.out b14); have C14 := Lib.hid (below_trans C13.out b14); clear b14
    go_wp2_with fail
    refine (heldIntA_any w14 _ 1 ns.length v1 A14.out (by have := HLEN.out; omega)).mono ?_
    rintro e w15 ⟨rfl, b15⟩
    rw [← HTT.out]
    have C15 := Lib.hid (below_trans C14.out b15); clear b15
    go_wp2_with fail
    go_ret
    exact ⟨rfl, C15.out⟩
end Go.Proofs.Ytbjhalhahipjdaa
