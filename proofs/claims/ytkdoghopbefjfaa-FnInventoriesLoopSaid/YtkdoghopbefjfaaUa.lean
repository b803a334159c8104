/- Chapter 3, at rows of numbers that lie anywhere: told lists (by tools/genwide3.py). -/
import Derived.Test.YtkdoghopbefjfaaU6
namespace Go.Proofs.Ytkdoghopbefjfaa
open Go.RowKit Go.BigFrame
set_option linter.unusedSimpArgs false
set_option linter.unusedVariables false
set_option maxRecDepth 4000

theorem argL_of_intsA {w : World} {B : Nat} {v : Value} {xs : List Int} (h : IntsA w B v xs) : ArgL w v xs := by
  rcases intsA_open h with ⟨rfl, rfl⟩ | ⟨g, cap, E, rest, rfl, hB, hg, _, hn, hcp, hcc, hce⟩
  · exact ⟨none, 0, rfl, Nat.le_refl _, by omega, fun c hc => by simp at hc⟩
  · exact ⟨_, cap, rfl, hcc, hcp, fun c hc => ⟨g, 0, rfl, hg, by rw [Nat.zero_add]; exact hce c hc⟩⟩
theorem argL_at {w : World} {v : Value} {xs : List Int} (h : ArgL w v xs) (h1 : 1 ≤ xs.length) :
    ∃ g o cap, v = .slice (some ⟨g, o, none⟩) xs.length cap ∧ xs.length ≤ cap ∧ cap ≤ 9223372036854775807 ∧ g < w.heap.size ∧ (∀ i (hi : i < xs.length), w.cell? ⟨g, o + i, none⟩ = some (.int .i64 xs[i])) := by
  obtain ⟨A, C, h2, h3, h4, h5⟩ := h
  obtain ⟨b, o, e1, e2, e3⟩ := h5 0 (by omega)
  subst e1
  refine ⟨b, o, C, h2, h3, h4, e2, fun i hi => ?_⟩
  obtain ⟨b', o', f1, f2, f3⟩ := h5 i hi
  cases f1
  exact f3
theorem argL_slice {w : World} {v : Value} {xs : List Int} (h : ArgL w v xs) : ∃ a cap, v = .slice a xs.length cap ∧ cap ≤ 9223372036854775807 ∧ xs.length ≤ 9223372036854775807 := by
  obtain ⟨A, C, h2, h3, h4, h5⟩ := h
  exact ⟨A, C, h2, h4, by omega⟩

set_option maxHeartbeats 1000000 in
theorem l1Same_arg (w : World) (va vb : Value) (xs ys : List Int) (ha : ArgL w va xs) (hb : ArgL w vb ys) (h1 : 1 ≤ xs.length) (hl : xs.length = ys.length) :
    Calls Try.prog 86 #[va, vb] w fun e w' => e = .returned (.bool (decide (xs = ys))) ∧ Below w.heap.size w w' := by
  obtain ⟨g, o, cap, rfl, hc1, hc2, hg, hca⟩ := argL_at ha h1
  obtain ⟨g', o', cap', rfl, hc1', hc2', hg', hcb⟩ := argL_at hb (by omega)
  have HA := Lib.hid hca; have HB := Lib.hid hcb
  obtain ⟨N, hN⟩ : ∃ N, N = xs.length := ⟨_, rfl⟩
  rw [← hl]
  rw [← hl] at hc1'
  have HN := Lib.hid hN; have HL := Lib.hid hl
  rw [← hN] at hc1 hc1' h1 ⊢
  have hne : ((N : Int) != (N : Int)) = false := by simp
  clear ha hb hca hcb hN hl
  go_enter Try.func86, Try.ntmps86
  go_wp2_with fail
  go_loopw [13] (fun i wr => ∃ (k : Nat), k ≤ N ∧ i = .int .i64 k ∧ Hid ((∀ j (hj : j < xs.length), j < k → xs[j] = ys.getD j 0) ∧ Below w.heap.size w wr)) (fun i _ => N - (intOf i).toNat)
  case atStart => exact ⟨0, Nat.zero_le _, rfl, fun j _ h => by omega, below_refl _⟩
  case round =>
    obtain ⟨k, hk, rfl, HW⟩ := hrel
    by_cases hlt : k < N
    · have hk1 : k < xs.length := by rw [← HN.out]; exact hlt
      have hk2 : k < ys.length := by rw [← HL.out]; exact hk1
      have h1 : wr.cell? ⟨g, o + k, none⟩ = some (.int .i64 xs[k]) := (HW.out.2.cell (p := ⟨g, o + k, none⟩) hg).trans (HA.out k hk1)
      have h2 : wr.cell? ⟨g', o' + k, none⟩ = some (.int .i64 ys[k]) := (HW.out.2.cell (p := ⟨g', o' + k, none⟩) hg').trans (HB.out k hk2)
      obtain ⟨x, hx⟩ : ∃ x, x = xs[k] := ⟨_, rfl⟩
      obtain ⟨y, hy⟩ : ∃ y, y = ys[k] := ⟨_, rfl⟩
      rw [← hx] at h1
      rw [← hy] at h2
      by_cases he : x = y
      · have hbe : (x != y) = false := by simpa using he
        have hnew : Hid (∀ j (hj : j < xs.length), j < k + 1 → xs[j] = ys.getD j 0) := fun j hj h => by
          by_cases e : j = k
          · subst e; rw [← hx, he, hy]; simp [List.getD_eq_getElem?_getD, hk2]
          · exact HW.out.1 j hj (by omega)
        clear hx hy he
        go_wp2_with fail
        go_quiet (fail)
        go_wp2_with fail
        go_roundw
        case rel => exact ⟨k + 1, by omega, by go_num, hnew.out, HW.out.2.trans (belowN _ _ _)⟩
        case measure => simp [intOf] <;> omega
      · have hbe : (x != y) = true := by simpa using he
        have hd : decide (xs = ys) = false := decide_eq_false (fun e => he (by rw [hx, hy]; subst e; rfl))
        have HD := Lib.hid hd
        clear hx hy he hd
        go_wp2_with fail
        go_quiet (fail)
        go_wp2_with fail
        go_ret
        exact ⟨by rw [HD.out]; rfl, HW.out.2.trans (belowN _ _ _)⟩
    · obtain rfl : k = N := by omega
      have hd : decide (xs = ys) = true := decide_eq_true (List.ext_getElem HL.out (fun j j1 j2 => by
        rw [HW.out.1 j j1 (by rw [HN.out]; exact j1)]
        simp [List.getD_eq_getElem?_getD, j2]))
      have HD := Lib.hid hd
      clear hd
      go_wp2_with fail
      go_ret
      exact ⟨by rw [HD.out]; rfl, HW.out.2⟩

set_option maxHeartbeats 1000000 in
theorem l1All_arg (w : World) (v : Value) (xs : List Int) (lo hi : Int) (ha : ArgL w v xs) (h1 : 1 ≤ xs.length) :
    Calls Try.prog 106 #[v, .int .i64 lo, .int .i64 hi] w fun e w' => e = .returned (.bool (xs.all (inB lo hi))) ∧ w = w' := by
  obtain ⟨g, o, cap, rfl, hc1, hc2, hg, hce⟩ := argL_at ha h1
  have HC := Lib.hid hce
  obtain ⟨N, hN⟩ : ∃ N, N = xs.length := ⟨_, rfl⟩
  have HN := Lib.hid hN
  rw [← hN] at hc1 h1 ⊢
  clear ha hce hN
  go_enter Try.func106, Try.ntmps106
  go_wp2_with fail
  go_loop [11] (fun i => ∃ k : Nat, i = .int .i64 k ∧ k ≤ N ∧ Hid ((xs.take k).all (inB lo hi) = true)) (fun i => N - (intOf i).toNat)
  case atStart => exact ⟨0, rfl, Nat.zero_le _, rfl⟩
  case round =>
    obtain ⟨k, rfl, hk, HX⟩ := hrel
    by_cases hlt : k < N
    · have hk' : k < xs.length := by rw [← HN.out]; exact hlt
      have h2 : w.cell? ⟨g, o + k, none⟩ = some (.int .i64 xs[k]) := HC.out k hk'
      have hs := allI_succ (inB lo hi) xs k hk'
      rw [HX.out, Bool.true_and] at hs
      obtain ⟨x, hx⟩ : ∃ x, x = xs[k] := ⟨_, rfl⟩
      rw [← hx] at h2 hs
      obtain ⟨b, hb⟩ : ∃ b, b = decide (lo ≤ x ∧ x ≤ hi) := ⟨_, rfl⟩
      rw [show inB lo hi x = b from hb.symm] at hs
      have HS := Lib.hid hs; have HB := Lib.hid hb; clear hs hx hb
      go_wp2_with fail
      refine (l1In_is b _ _ _ _ HB.out.symm).mono ?_
      rintro e w2 ⟨rfl, rfl⟩
      cases b with
      | true =>
        go_wp2_with fail
        go_round
        case rel => exact ⟨k + 1, by go_num, by omega, HS.out⟩
        case measure => simp [intOf] <;> omega
      | false =>
        have hf := allI_false (inB lo hi) xs (k + 1) HS.out
        have HF := Lib.hid hf; clear hf
        go_wp2_with fail
        go_ret
        exact ⟨by rw [HF.out]; rfl, rfl⟩
    · obtain rfl : k = N := by omega
      have hf : xs.all (inB lo hi) = true := by have := HX.out; rw [List.take_of_length_le (by rw [← HN.out]; exact Nat.le_refl _)] at this; exact this
      have HF := Lib.hid hf; clear hf
      go_wp2_with fail
      go_ret
      exact ⟨by rw [HF.out]; rfl, rfl⟩

set_option maxHeartbeats 1000000 in
theorem taList_arg (w : World) (v : Value) (xs : List Int) (ha : ArgL w v xs) :
    Calls Try.prog 84 #[v] w fun e w' => e = .returned (.bool (tolL xs)) ∧ w = w' := by
  obtain ⟨a, cap, hv, hcp, hn⟩ := argL_slice ha
  by_cases h1 : 1 ≤ xs.length ∧ xs.length ≤ 9
  · have ht : tolL xs = xs.all (inB 0 xs.length) := by unfold tolL; rw [decide_eq_true h1]; rfl
    have hall := l1All_arg w v xs 0 xs.length ha h1.1
    rw [← ht] at hall
    have hd : decide ((1 : Int) ≤ (xs.length : Int) ∧ (xs.length : Int) ≤ 9) = true := by simp; omega
    obtain ⟨N, hN⟩ : ∃ N, N = xs.length := ⟨_, rfl⟩
    rw [← hN] at hv hall hd
    subst hv
    have HALL := Lib.hid hall; have HD := Lib.hid hd; clear hall hd ht ha hN
    go_enter Try.func84, Try.ntmps84
    go_wp2_with fail
    refine (l1In_is true _ _ _ _ HD.out).mono ?_
    rintro e w2 ⟨rfl, rfl⟩
    go_wp2_with fail
    refine HALL.out.mono ?_
    rintro e w2 ⟨rfl, rfl⟩
    go_wp2_with fail
    go_ret
    exact ⟨rfl, rfl⟩
  · have ht : tolL xs = false := by unfold tolL; rw [decide_eq_false h1]; rfl
    have hd : decide ((1 : Int) ≤ (xs.length : Int) ∧ (xs.length : Int) ≤ 9) = false := by simp; omega
    obtain ⟨N, hN⟩ : ∃ N, N = xs.length := ⟨_, rfl⟩
    rw [← hN] at hv hd
    subst hv
    rw [ht]
    have HD := Lib.hid hd; clear hd ht ha hN
    go_enter Try.func84, Try.ntmps84
    go_wp2_with fail
    refine (l1In_is false _ _ _ _ HD.out).mono ?_
    rintro e w2 ⟨rfl, rfl⟩
    go_wp2_with fail
    go_ret
    exact ⟨rfl, rfl⟩

set_option maxHeartbeats 1000000 in
theorem taTell_arg (w : World) (v : Value) (ns : List Nat) (ha : ArgL w v (ti ns)) (h1 : 1 ≤ ns.length) (h9 : ns.length ≤ 9) :
    Calls Try.prog 85 #[v] w fun e w' => ∃ g, e = .returned (.slice (some ⟨g, 0, none⟩) ns.length ns.length) ∧ w'.ownsRow w.heap.size 3 1 (.slice (some ⟨g, 0, none⟩) ns.length ns.length) ns.length (tvl (tel ns.length ns)) ∧ Below w.heap.size w w' := by
  obtain ⟨i0, hi, hz0, hz1, hz2⟩ := info_parts info_intT
  obtain ⟨g, o, cap, rfl, hc1, hc2, hg, hce⟩ := argL_at ha (by rw [ti_len]; exact h1)
  rw [ti_len] at hc1 ⊢
  obtain ⟨N, hN⟩ : ∃ N, N = ns.length := ⟨_, rfl⟩
  have hce' : ∀ i (hi : i < ns.length), w.cell? ⟨g, o + i, none⟩ = some (.int .i64 (ns[i] : Nat)) := fun i hi => by
    rw [hce i (by rw [ti_len]; exact hi)]; simp [ti]
  have HC := Lib.hid hce'; have HN := Lib.hid hN
  rw [← hN] at hc1 h1 h9 ⊢
  clear ha hce hce' hN
  go_enter Try.func85, Try.ntmps85
  go_wp2_with (refine wpList_make_full _ rfl _ _ 32 rfl w.heap.size 3 i0 (.int .i64 0) 1 Try.underlying32 hi hz0 hz1 .i64 .i64 (N : Int) (N : Int) N rfl rfl rfl rfl (by rw [hz2]; omega) (by unfold maxLen; omega) (Nat.le_refl _) ?_; intro w1 hown hgr; have HO := Lib.hid hown; have HB := Lib.hid ((Below.refl w.heap.size w).grown hgr (Nat.le_refl _) (fun k h => by cases h)); clear hown hgr)
  go_loopw [11] (fun i wr => ∃ k : Nat, i = .int .i64 k ∧ k ≤ N ∧ Hid (wr.ownsRow w.heap.size 3 1 (.slice (some ⟨w.heap.size, 0, none⟩) N N) N (tvl (tel N (ns.take k))) ∧ Below w.heap.size w wr)) (fun i _ => N - (intOf i).toNat)
  case atStart =>
    refine ⟨0, rfl, Nat.zero_le _, ?_, HB.out⟩
    rw [List.take_zero, tel_nil]
    have e : (madeCells (Value.int .i64 0).cells (N * 1)).toList = tvl (List.replicate N 0) := by rw [Nat.mul_one]; refine (toList_madeCells_one _ _).trans ?_; simp [tvl]
    exact e ▸ HO.out
  case round =>
    obtain ⟨k, rfl, hk, HX⟩ := hrel
    by_cases hlt : k < N
    · have hk' : k < ns.length := by rw [← HN.out]; exact hlt
      have h2 : wr.cell? ⟨g, o + k, none⟩ = some (.int .i64 (ns[k] : Nat)) := (HX.out.2.cell (p := ⟨g, o + k, none⟩) hg).trans (HC.out k hk')
      have htk : ns.take (k + 1) = ns.take k ++ [ns[k]] := List.take_succ_eq_append_getElem hk'
      obtain ⟨x, hx⟩ : ∃ x, x = ns[k] := ⟨_, rfl⟩
      rw [← hx] at h2 htk
      by_cases hxn : x < N
      · have hst := tel_step N (ns.take k) x hxn
        have hat := tel_at N (ns.take k) x hxn
        obtain ⟨c, hc⟩ : ∃ c, c = (ns.take k).count x := ⟨_, rfl⟩
        have hc9 : c ≤ 9 := by rw [hc]; exact Nat.le_trans List.count_le_length (by simp; omega)
        rw [← hc] at hst hat
        rw [← htk] at hst
        have h3 : wr.cell? ⟨w.heap.size, x, none⟩ = some (.int .i64 (c : Int)) := by
          rw [HX.out.1.cellAt x (by omega)]; simp [tvl, hat]
        have h4 : wr.frozen? ⟨w.heap.size, x, none⟩ = false := HX.out.1.frozenAt x
        have HST := Lib.hid hst; clear hst hat hc hx htk
        go_wp2_with fail
        go_roundw
        case rel =>
          refine ⟨k + 1, by go_num, by omega, ?_, HX.out.2.setCell (p := ⟨w.heap.size, x, none⟩) (Nat.le_refl _) _⟩
          have := (HX.out.1.stored x (.int .i64 ((c + 1 : Nat) : Int))).1
          rw [HST.out, tvl, List.map_set]
          exact this
        case measure => simp [intOf] <;> omega
      · have hsk := tel_skip N (ns.take k) x hxn
        rw [← htk] at hsk
        have HSK := Lib.hid hsk; clear hsk hx htk
        go_wp2_with fail
        go_roundw
        case rel => exact ⟨k + 1, by go_num, by omega, by rw [HSK.out]; exact HX.out.1, HX.out.2⟩
        case measure => simp [intOf] <;> omega
    · obtain rfl : k = N := by omega
      go_wp2_with fail
      go_ret
      refine ⟨_, rfl, ?_, HX.out.2⟩
      have := HX.out.1
      rw [List.take_of_length_le (by rw [← HN.out]; exact Nat.le_refl _)] at this
      exact this

set_option maxHeartbeats 2000000 in
theorem tallyList_arg (w : World) (v : Value) (xs : List Int) (ha : ArgL w v xs) :
    Calls Try.prog 82 #[v] w fun e w' => e = .returned (.tuple #[aggT (padO xs), .bool (tolL xs)]) ∧ Below w.heap.size w w' := by
  have hz : ∀ (W : World) (w0 : World), W = w0.alloc (.cells #[.int .i64 0, .int .i64 0, .int .i64 0, .int .i64 0, .int .i64 0, .int .i64 0, .int .i64 0, .int .i64 0, .int .i64 0] 65) → BlkT W w0.heap.size zeros9 := by
    rintro W w0 rfl
    exact ⟨heap_alloc_new _ _, rfl⟩
  have HZ := Lib.hid hz; clear hz
  by_cases h1 : 1 ≤ xs.length ∧ xs.length ≤ 9
  · have hd : decide ((1 : Int) ≤ (xs.length : Int) ∧ (xs.length : Int) ≤ 9) = true := by simp; omega
    obtain ⟨g, o, cap, rfl, hc1, hc2, hg, hce⟩ := argL_at ha h1.1
    have ht : tolL xs = xs.all (inB 0 xs.length) := by unfold tolL; rw [decide_eq_true h1]; rfl
    obtain ⟨N, hN⟩ : ∃ N, N = xs.length := ⟨_, rfl⟩
    obtain ⟨R, hR⟩ : ∃ R, R = tolL xs := ⟨_, rfl⟩
    obtain ⟨P, hP⟩ : ∃ P, P = padO xs := ⟨_, rfl⟩
    rw [← hR] at ht
    rw [← hR, ← hP]
    have HC := Lib.hid hce; have HN := Lib.hid hN; have HT := Lib.hid ht; have HR := Lib.hid hR; have HP := Lib.hid hP
    rw [← hN] at hc1 h1 hd HT ⊢
    have HD := Lib.hid hd
    clear ha hce hN hd hR hP ht
    go_enter Try.func82, Try.ntmps82
    go_wp2_with fail
    refine (isWithin_is true _ _ _ _ HD.out).mono ?_
    rintro e w2 ⟨rfl, rfl⟩
    go_wp2_with fail
    go_loopw [15] (fun i wr => ∃ k : Nat, i = .int .i64 k ∧ k ≤ N ∧ Hid ((xs.take k).all (inB 0 N) = true ∧ BlkT wr (w.heap.size + 1) (pad ((xs.take k).map Int.toNat)) ∧ BlkT wr w.heap.size zeros9 ∧ Below w.heap.size w wr)) (fun i _ => N - (intOf i).toNat)
    case atStart =>
      exact ⟨0, rfl, Nat.zero_le _, rfl, ⟨heap_alloc2_new _ _ _, rfl⟩, ⟨heap_alloc2_old _ _ _, rfl⟩, below_trans (below_alloc _ _) (below_alloc _ _)⟩
    case round =>
      obtain ⟨k, rfl, hk, HX⟩ := hrel
      by_cases hlt : k < N
      · have hk' : k < xs.length := by rw [← HN.out]; exact hlt
        have h2 : wr.cell? ⟨g, o + k, none⟩ = some (.int .i64 xs[k]) := (HX.out.2.2.2.cell (p := ⟨g, o + k, none⟩) hg).trans (HC.out k hk')
        have hs := allI_succ (inB 0 N) xs k hk'
        rw [HX.out.1, Bool.true_and] at hs
        have htk : xs.take (k + 1) = xs.take k ++ [xs[k]] := List.take_succ_eq_append_getElem hk'
        obtain ⟨x, hx⟩ : ∃ x, x = xs[k] := ⟨_, rfl⟩
        rw [← hx] at h2 hs htk
        by_cases hin : 0 ≤ x ∧ x ≤ (N : Int)
        · have hdx : decide ((0 : Int) ≤ x ∧ x ≤ (N : Int)) = true := decide_eq_true hin
          rw [show inB 0 N x = true from hdx] at hs
          obtain ⟨m, rfl⟩ := Int.eq_ofNat_of_zero_le hin.1
          have hl9 : ((xs.take k).map Int.toNat).length = k := by simp; omega
          have hps := pad_snoc ((xs.take k).map Int.toNat) m (by rw [hl9]; omega)
          have hpa := pad_at ((xs.take k).map Int.toNat) (by rw [hl9]; omega)
          rw [hl9] at hps hpa
          have hmm : (xs.take (k + 1)).map Int.toNat = (xs.take k).map Int.toNat ++ [m] := by rw [htk]; simp
          rw [← hmm] at hps
          have h3 : wr.cell? ⟨w.heap.size + 1, k, none⟩ = some (.int .i64 ((0 : Nat) : Int)) := blkT_cell HX.out.2.1 hpa
          have h4 : wr.frozen? ⟨w.heap.size + 1, k, none⟩ = false := blkT_frozen HX.out.2.1 k
          have HS := Lib.hid hs; have HPS := Lib.hid hps; have HDX := Lib.hid hdx
          clear hs hps hpa hmm hl9 htk hx hdx hin
          go_wp2_with fail
          refine (isWithin_is true _ _ _ _ HDX.out).mono ?_
          rintro e w2 ⟨rfl, rfl⟩
          go_wp2_with fail
          go_roundw
          case rel =>
            refine ⟨k + 1, by go_num, by omega, HS.out, ?_, ⟨(Below.heap_setCell _ _ _ _ (by simp)).trans HX.out.2.2.1.1, rfl⟩, HX.out.2.2.2.setCell (by simp) _⟩
            rw [HPS.out]
            exact blkT_set HX.out.2.1 k m
          case measure => simp [intOf] <;> omega
        · have hdx : decide ((0 : Int) ≤ x ∧ x ≤ (N : Int)) = false := decide_eq_false hin
          rw [show inB 0 N x = false from hdx] at hs
          have hf := allI_false (inB 0 N) xs (k + 1) hs
          rw [← HT.out] at hf
          have hpz : P = zeros9 := by rw [HP.out]; unfold padO; rw [← HR.out, if_neg (by rw [hf]; simp)]
          have HF := Lib.hid hf; have HDX := Lib.hid hdx; have HPZ := Lib.hid hpz
          clear hs htk hx hdx hin hf hpz
          go_wp2_with fail
          refine (isWithin_is false _ _ _ _ HDX.out).mono ?_
          rintro e w2 ⟨rfl, rfl⟩
          go_wp2_with (refine wpList_putT rfl _ _ rfl w.heap.size rfl zeros9 zeros9 rfl HX.out.2.2.1 rfl ?_; intro w2 hB2 _ hbb _; have hbel := HX.out.2.2.2.trans (hbb _ (Nat.le_refl _)))
          refine bodyPost_ret (results_tallyT2 rfl _ _ _ zeros9 rfl hB2) rfl ?_
          exact ⟨by rw [HF.out, HPZ.out]; rfl, hbel⟩
      · obtain rfl : k = N := by omega
        have htk : xs.take k = xs := List.take_of_length_le (by rw [← HN.out]; exact Nat.le_refl _)
        have hb1 := HX.out.2.1
        have hf := HX.out.1
        rw [htk] at hb1 hf
        rw [← HT.out] at hf
        have hpz : P = pad (xs.map Int.toNat) := by rw [HP.out]; unfold padO; rw [← HR.out, if_pos hf]
        have HF := Lib.hid hf; have HPZ := Lib.hid hpz
        clear htk hf hpz
        have hne : w.heap.size ≠ w.heap.size + 1 := by omega
        go_wp2_with (first
          | refine wpList_getT rfl _ rfl (w.heap.size + 1) rfl _ hb1 ?_
          | (refine wpList_putT rfl _ _ rfl w.heap.size rfl zeros9 _ rfl HX.out.2.2.1 hb1.2 ?_; intro w2 hB2 _ hbb _; have hbel := HX.out.2.2.2.trans (hbb _ (Nat.le_refl _))))
        refine bodyPost_ret (results_tallyT2 rfl _ _ _ _ rfl hB2) rfl ?_
        exact ⟨by rw [HF.out, HPZ.out]; rfl, hbel⟩
  · have ht : tolL xs = false := by unfold tolL; rw [decide_eq_false h1]; rfl
    have hp : padO xs = zeros9 := by unfold padO; rw [if_neg (by rw [ht]; simp)]
    have hd : decide ((1 : Int) ≤ (xs.length : Int) ∧ (xs.length : Int) ≤ 9) = false := by simp; omega
    obtain ⟨a, cap, hv, hcp, hn⟩ := argL_slice ha
    obtain ⟨N, hN⟩ : ∃ N, N = xs.length := ⟨_, rfl⟩
    rw [← hN] at hv hd
    subst hv
    rw [ht, hp]
    have HD := Lib.hid hd; clear hd ht hp ha hN
    go_enter Try.func82, Try.ntmps82
    go_wp2_with fail
    refine (isWithin_is false _ _ _ _ HD.out).mono ?_
    rintro e w2 ⟨rfl, rfl⟩
    go_wp2_with fail
    refine bodyPost_ret (results_tallyT2 rfl _ _ _ zeros9 rfl (HZ.out _ _ rfl)) rfl ?_
    exact ⟨rfl, below_alloc _ _⟩

theorem specTellList_arg (w : World) (v : Value) (xs : List Int) (ha : ArgL w v xs) :
    Calls Try.prog 37 #[v] w fun e w' => IntsAOk (tellO xs) w w' e := by
  have hL := fun (W : World) (hb : Below w.heap.size w W) => taList_arg W v xs (argL_below ha hb)
  cases ht : tolL xs with
  | false =>
    rw [ht] at hL
    have hO : tellO xs = none := by unfold tellO; rw [if_neg (by rw [ht]; simp)]
    rw [hO]
    obtain ⟨a, cap, rfl, _, _⟩ := argL_slice ha
    have HL := Lib.hid (hL w (Below.refl _ _)); clear hL ha ht hO
    go_enter Try.func37, Try.ntmps37
    go_wp2_with fail
    refine HL.out.mono ?_
    rintro e w1 ⟨rfl, rfl⟩
    go_wp2_with fail
    go_ret2
    exact ⟨_, rfl, intsA_nil _ _, Below.refl _ _, fun _ => rfl⟩
  | true =>
    rw [ht] at hL
    obtain ⟨ns, rfl, h1, h9, hle⟩ := tolL_nat ht
    rw [tellO_ti ht]
    have hT := taTell_arg w v ns ha h1 h9
    obtain ⟨a, cap, rfl, _, _⟩ := argL_slice ha
    have HL := Lib.hid (hL w (Below.refl _ _)); have HT := Lib.hid hT; clear hL ha ht hT
    go_enter Try.func37, Try.ntmps37
    go_wp2_with fail
    refine HL.out.mono ?_
    rintro e w1 ⟨rfl, rfl⟩
    go_wp2_with fail
    refine HT.out.mono ?_
    rintro e w1 ⟨g, rfl, ho, hb⟩
    have HO := Lib.hid ho; have HB := Lib.hid hb; clear ho hb
    go_wp2_with fail
    go_ret2
    refine ⟨_, rfl, intsA_of ?_, HB.out, fun h => by cases h⟩
    have := HO.out
    rw [tvl_ti] at this
    unfold Ints
    simpa [ti_len, tel_len] using this

set_option maxHeartbeats 1000000 in
theorem implTellList_arg (w : World) (v : Value) (xs : List Int) (ha : ArgL w v xs) :
    Calls Try.prog 36 #[v] w fun e w' => IntsAOk (tellO xs) w w' e := by
  have hL := tallyList_arg w v xs ha
  cases ht : tolL xs with
  | false =>
    rw [ht] at hL
    have hP : padO xs = zeros9 := by unfold padO; rw [if_neg (by rw [ht]; simp)]
    have hO : tellO xs = none := by unfold tellO; rw [if_neg (by rw [ht]; simp)]
    rw [hP] at hL
    rw [hO]
    obtain ⟨a, cap, rfl, _, _⟩ := argL_slice ha
    have HL := Lib.hid hL; clear hL ha ht hO hP
    go_enter Try.func36, Try.ntmps36
    go_wp2_with fail
    refine HL.out.mono ?_
    rintro e w1 ⟨rfl, hb⟩
    have HB := Lib.hid hb; clear hb
    go_wp2_with (refine wpList_putT rfl _ _ rfl w1.heap.size rfl zeros9 zeros9 rfl ⟨heap_alloc_new _ _, rfl⟩ rfl ?_; intro w2 hB2 _ hbb _; have HB2 := Lib.hid ((below_alloc w1 _).trans (hbb _ (Nat.le_refl _))); clear hbb)
    go_ret2
    exact ⟨_, rfl, intsA_nil _ _, below_trans HB.out HB2.out, fun _ => rfl⟩
  | true =>
    rw [ht] at hL
    obtain ⟨ns, rfl, h1, h9, hle⟩ := tolL_nat ht
    rw [padO_ti ht] at hL
    rw [tellO_ti ht]
    have hp9 := pad_len ns h9
    have hT := fun W => tellFirst_any (pad ns) ns.length W hp9 h9
    rw [pad_take] at hT
    have hLi := fun W => list_any (telP ns.length ns) ns.length W (telP_len _ _) h9
    have htk : (ti (telP ns.length ns)).take ns.length = ti (tel ns.length ns) := by
      rw [← telP_take _ _ h9]; simp [ti]
    rw [htk] at hLi
    obtain ⟨a, cap, hv, _, _⟩ := argL_slice ha
    rw [ti_len] at hv
    subst hv
    have HL := Lib.hid hL; have HT := Lib.hid hT; have HLI := Lib.hid hLi; clear hL ha ht hT hLi htk
    go_enter Try.func36, Try.ntmps36
    go_wp2_with fail
    refine HL.out.mono ?_
    rintro e w1 ⟨rfl, hb⟩
    have HB := Lib.hid hb; clear hb
    go_wp2_with (first
      | (refine wpList_putT rfl _ _ rfl w1.heap.size rfl zeros9 (pad ns) rfl ⟨heap_alloc_new _ _, rfl⟩ hp9 ?_; intro w2 hB2 _ hbb _; have HB2 := Lib.hid ((below_alloc w1 _).trans (hbb _ (Nat.le_refl _))); clear hbb)
      | refine wpList_getT rfl _ rfl w1.heap.size rfl _ hB2 ?_)
    refine (HT.out w2).mono ?_
    rintro e w3 ⟨rfl, hb⟩
    have HB3 := Lib.hid hb; clear hb
    go_wp2_with fail
    refine (HLI.out w3).mono ?_
    rintro e w4 ⟨v, rfl, ho, hb, _⟩
    have HO := Lib.hid ho; have HB4 := Lib.hid hb; clear ho hb
    go_wp2_with fail
    go_ret2
    have hbb := below_trans HB.out (below_trans HB2.out HB3.out)
    exact ⟨_, rfl, intsA_mono HO.out hbb.size, below_trans hbb HB4.out, fun h => by cases h⟩

set_option maxHeartbeats 1000000 in
theorem specIsSelfTold_arg (w : World) (v : Value) (xs : List Int) (ha : ArgL w v xs) :
    Calls Try.prog 39 #[v] w fun e w' => e = .returned (.tuple #[.bool (selfB xs), .bool (tolL xs)]) ∧ Below w.heap.size w w' := by
  have hL := taList_arg w v xs ha
  cases ht : tolL xs with
  | false =>
    rw [ht] at hL
    rw [selfB_bad ht]
    obtain ⟨a, cap, rfl, _, _⟩ := argL_slice ha
    have HL := Lib.hid hL; clear hL ha ht
    go_enter Try.func39, Try.ntmps39
    go_wp2_with fail
    refine HL.out.mono ?_
    rintro e w1 ⟨rfl, rfl⟩
    go_wp2_with fail
    go_ret2
    exact ⟨rfl, Below.refl _ _⟩
  | true =>
    rw [ht] at hL
    obtain ⟨ns, rfl, h1, h9, hle⟩ := tolL_nat ht
    have hT := taTell_arg w v ns ha h1 h9
    have hS : ∀ W v0, Below w.heap.size w W → IntsA W w.heap.size v0 (ti (tel ns.length ns)) → Calls Try.prog 86 #[v0, v] W fun e w' => e = .returned (.bool (selfB (ti ns))) ∧ Below W.heap.size W w' := by
      intro W v0 hb h0
      rw [selfB_ti ht]
      have := l1Same_arg W v0 v _ _ (argL_of_intsA h0) (argL_below ha hb) (by rw [ti_len, tel_len]; exact h1) (by rw [ti_len, tel_len, ti_len])
      have e : decide (ti (tel ns.length ns) = ti ns) = decide (tel ns.length ns = ns) := by
        by_cases e : tel ns.length ns = ns
        · rw [decide_eq_true e]; exact decide_eq_true (by rw [e])
        · rw [decide_eq_false e]; exact decide_eq_false (fun h => e (ti_inj h))
      rw [e] at this
      exact this
    obtain ⟨sb, hsb⟩ : ∃ sb, sb = selfB (ti ns) := ⟨_, rfl⟩
    rw [← hsb] at hS ⊢
    obtain ⟨a, cap, rfl, _, _⟩ := argL_slice ha
    have HL := Lib.hid hL; have HT := Lib.hid hT; have HS := Lib.hid hS; clear hL ha ht hT hS hsb
    go_enter Try.func39, Try.ntmps39
    go_wp2_with fail
    refine HL.out.mono ?_
    rintro e w1 ⟨rfl, rfl⟩
    go_wp2_with fail
    refine HT.out.mono ?_
    rintro e w1 ⟨g, rfl, ho, hb⟩
    have HO : Hid (IntsA w1 w.heap.size (.slice (some ⟨g, 0, none⟩) ns.length ns.length) (ti (tel ns.length ns))) := intsA_of (by
      rw [tvl_ti] at ho
      unfold Ints
      simpa [ti_len, tel_len] using ho)
    have HB := Lib.hid hb; clear ho hb
    go_wp2_with fail
    refine (HS.out w1 _ HB.out HO.out).mono ?_
    rintro e w2 ⟨rfl, hb⟩
    have HB2 := Lib.hid hb; clear hb
    go_wp2_with fail
    go_ret2
    exact ⟨rfl, below_trans HB.out HB2.out⟩

set_option maxHeartbeats 2000000 in
theorem implIsSelfTold_arg (w : World) (v : Value) (xs : List Int) (ha : ArgL w v xs) :
    Calls Try.prog 38 #[v] w fun e w' => e = .returned (.tuple #[.bool (selfB xs), .bool (tolL xs)]) ∧ Below w.heap.size w w' := by
  have hL := tallyList_arg w v xs ha
  cases ht : tolL xs with
  | false =>
    rw [ht] at hL
    have hP : padO xs = zeros9 := by unfold padO; rw [if_neg (by rw [ht]; simp)]
    rw [hP] at hL
    rw [selfB_bad ht]
    obtain ⟨a, cap, rfl, _, _⟩ := argL_slice ha
    have HL := Lib.hid hL; clear hL ha ht hP
    go_enter Try.func38, Try.ntmps38
    go_wp2_with fail
    refine HL.out.mono ?_
    rintro e w1 ⟨rfl, hb⟩
    have HB := Lib.hid hb; clear hb
    go_wp2_with (refine wpList_putT rfl _ _ rfl w1.heap.size rfl zeros9 zeros9 rfl ⟨heap_alloc_new _ _, rfl⟩ rfl ?_; intro w2 hB2 _ hbb _; have HB2 := Lib.hid ((below_alloc w1 _).trans (hbb _ (Nat.le_refl _))); clear hbb)
    clear hB2
    go_quiet (fail)
    go_wp2_with fail
    go_ret2
    exact ⟨rfl, below_trans HB.out (below_trans HB2.out (belowN _ _ _))⟩
  | true =>
    rw [ht] at hL
    obtain ⟨ns, rfl, h1, h9, hle⟩ := tolL_nat ht
    rw [padO_ti ht] at hL
    have hp9 := pad_len ns h9
    have hT := fun W => tellFirst_any (pad ns) ns.length W hp9 h9
    rw [pad_take] at hT
    have heq := fun W => run_eqlT W (pad ns) (telP ns.length ns) hp9 (telP_len _ _)
    have hb : decide (pad ns = telP ns.length ns) = selfB (ti ns) := by
      rw [selfB_ti ht, telP_pad ns _ h9]
      by_cases e : tel ns.length ns = ns
      · rw [decide_eq_true e]; exact decide_eq_true (by rw [e])
      · rw [decide_eq_false e]; exact decide_eq_false (fun h => e ((pad_inj (by rw [tel_len])).1 h).symm)
    rw [hb] at heq
    obtain ⟨sb, hsb⟩ : ∃ sb, sb = selfB (ti ns) := ⟨_, rfl⟩
    rw [← hsb] at heq ⊢
    obtain ⟨ts, hts⟩ : ∃ ts, ts = pad ns := ⟨_, rfl⟩
    obtain ⟨us, hus⟩ : ∃ us, us = telP ns.length ns := ⟨_, rfl⟩
    rw [← hts] at hL hT heq hp9
    rw [← hus] at hT heq
    obtain ⟨a, cap, hv, _, _⟩ := argL_slice ha
    rw [ti_len] at hv
    subst hv
    have HL := Lib.hid hL; have HT := Lib.hid hT; have HEQ := Lib.hid heq; clear hL ha ht hT hb hsb hts hus heq
    go_enter Try.func38, Try.ntmps38
    go_wp2_with fail
    refine HL.out.mono ?_
    rintro e w1 ⟨rfl, hb⟩
    have HB := Lib.hid hb; clear hb
    go_wp2_with (refine wpList_putT rfl _ _ rfl w1.heap.size rfl zeros9 ts rfl ⟨heap_alloc_new _ _, rfl⟩ hp9 ?_; intro w2 hB2 _ hbb _; have HB2 := Lib.hid ((below_alloc w1 _).trans (hbb _ (Nat.le_refl _))); clear hbb)
    have HBT := Lib.hid hB2; clear hB2
    have hu52 := under_tally
    have hi52 : (Try.prog.info? 65).map (·.size) = some (tvl ts).length := by rw [tvl_len, HBT.out.2]; exact info_tally
    have hrg : ∀ W, BlkT W w1.heap.size ts → W.rangeAt w1.heap.size 0 (tvl ts) := fun W h j v hv => by
      rw [Nat.zero_add, cell_of_row W _ j _ _ _ h.1]; simpa [tvA] using hv
    have hs0 : w2.drew.rangeAt w1.heap.size 0 (tvl ts) := hrg _ (blkT_below HBT.out (below_drew _))
    have hs3 : ∀ w3, Below w2.drew.heap.size w2.drew w3 → w3.rangeAt w1.heap.size 0 (tvl ts) := fun w3 h => hrg _ (blkT_below HBT.out (below_trans (below_drew _) h))
    have HS3 := Lib.hid hs3; clear hrg hs3
    have heq : ∀ W, (binOp .eql 65 (.agg (tvl ts).toArray) (.agg (tvA us))).run Try.prog W = .ok (.bool sb) W := HEQ.out
    have hT : ∀ W, Calls Try.prog 83 #[.agg (tvl ts).toArray, .int .i64 ns.length] W fun e w' => e = .returned (.agg (tvA us)) ∧ Below W.heap.size W w' := HT.out
    have HT2 := Lib.hid hT; clear hT
    refine wp_region_held_drew (S := fun w' => w'.rangeAt w1.heap.size 0 (tvl ts)) (by kernel_rfl) hs0 (fun hHeld => ?_)
    refine wpAnyH_take (i := 0) (v := .bool true) rfl (by kernel_rfl) (by kernel_rfl) (by kernel_rfl) (fun _ _ _ h => h) (Or.inl ⟨by rfl, fun w hw => by first | rfl | (go_simp; done) | (go_simp; rfl)⟩) hHeld ?_
    simp only [Act.put, List.setIfInBounds_toArray, List.set_cons_zero, List.set_cons_succ]
    refine wpAnyH_take (i := 1) (v := .bool true) rfl (by kernel_rfl) (by kernel_rfl) (by kernel_rfl) (fun _ _ _ h => h) (Or.inl ⟨by rfl, fun w hw => by first | rfl | (go_simp; done) | (go_simp; rfl)⟩) hHeld ?_
    simp only [Act.put, List.setIfInBounds_toArray, List.set_cons_zero, List.set_cons_succ]
    refine wpAnyH_take (i := 2) (v := .agg (tvl ts).toArray) rfl (by kernel_rfl) (by kernel_rfl) (by kernel_rfl) (fun _ _ _ h => h) (yieldsIf_load_mid (by rfl) 65 _ rfl w1.heap.size 0 rfl (tvl ts) _ (fun w hw => hw) hu52 rfl hi52) hHeld ?_
    simp only [Act.put, List.setIfInBounds_toArray, List.set_cons_zero, List.set_cons_succ]
    refine wpAnyH_take (i := 3) (v := .agg (tvl ts).toArray) rfl (by kernel_rfl) (by kernel_rfl) (by kernel_rfl) (fun _ _ _ h => h) (yieldsIf_load_mid (by rfl) 65 _ rfl w1.heap.size 0 rfl (tvl ts) _ (fun w hw => hw) hu52 rfl hi52) hHeld ?_
    simp only [Act.put, List.setIfInBounds_toArray, List.set_cons_zero, List.set_cons_succ]
    refine wpAnyH_take (i := 4) (v := .slice a ns.length cap) rfl (by kernel_rfl) (by kernel_rfl) (by kernel_rfl) (fun _ _ _ h => h) (Or.inl ⟨by rfl, fun w hw => by first | rfl | (go_simp; done) | (go_simp; rfl)⟩) hHeld ?_
    simp only [Act.put, List.setIfInBounds_toArray, List.set_cons_zero, List.set_cons_succ]
    refine wpAnyH_take (i := 5) (v := .int .i64 (ns.length : Int)) rfl (by kernel_rfl) (by kernel_rfl) (by kernel_rfl) (fun _ _ _ h => h) (Or.inl ⟨by rfl, fun w hw => by first | rfl | (go_simp; done) | (go_simp; rfl)⟩) hHeld ?_
    simp only [Act.put, List.setIfInBounds_toArray, List.set_cons_zero, List.set_cons_succ]
    refine wpAnyH_take (i := 9) (v := .bool true) rfl (by kernel_rfl) (by kernel_rfl) (by kernel_rfl) (fun _ _ _ h => h) (Or.inl ⟨by rfl, fun w hw => by first | rfl | (go_simp; done) | (go_simp; rfl)⟩) hHeld ?_
    simp only [Act.put, List.setIfInBounds_toArray, List.set_cons_zero, List.set_cons_succ]
    refine wpAnyH_ready (rs := [6]) (by kernel_rfl) (by simp) (AllReadyH.cons rfl (fun K hK => ?_) AllReadyH.nil)
    go_simp
    go_at_call 83
    refine (HT2.out _).mono ?_
    rintro e w3 ⟨rfl, hb3⟩
    refine hK.out _ _ (HS3.out w3 hb3) (fun hHeld3 => ?_)
    clear hK K
    try simp only [Act.put, List.setIfInBounds_toArray, List.set_cons_zero, List.set_cons_succ]
    refine wpAnyH_take (i := 7) (v := .bool sb) rfl (by kernel_rfl) (by kernel_rfl) (by kernel_rfl) (fun _ _ _ h => h) (Or.inl ⟨by rfl, fun w hw => by first | rfl | (go_simp; done) | (go_simp; rfl)⟩) hHeld3 ?_
    simp only [Act.put, List.setIfInBounds_toArray, List.set_cons_zero, List.set_cons_succ]
    refine wpAnyH_take (i := 8) (v := .bool sb) rfl (by kernel_rfl) (by kernel_rfl) (by kernel_rfl) (fun _ _ _ h => h) (Or.inl ⟨by rfl, fun w hw => by first | rfl | (go_simp; done) | (go_simp; rfl)⟩) hHeld3 ?_
    simp only [Act.put, List.setIfInBounds_toArray, List.set_cons_zero, List.set_cons_succ]
    refine wpAnyH_ready (rs := [10]) (by kernel_rfl) (by simp) (AllReadyH.cons rfl (fun K hK => ?_) AllReadyH.nil)
    go_simp
    refine hK.out _ _ hHeld3 (fun _ => ?_)
    clear hK K
    try simp only [Act.put, List.setIfInBounds_toArray, List.set_cons_zero, List.set_cons_succ]
    refine wpAnyH_ready (rs := [11]) (by kernel_rfl) (by simp) (AllReadyH.cons rfl (fun K hK => ?_) AllReadyH.nil)
    go_simp
    refine hK.out _ _ hHeld3 (fun _ => ?_)
    clear hK K
    try simp only [Act.put, List.setIfInBounds_toArray, List.set_cons_zero, List.set_cons_succ]
    refine wpAnyH_done (by kernel_rfl) ?_ _
    go_wp2_with fail
    go_ret2
    exact ⟨rfl, below_trans HB.out (below_trans HB2.out (below_trans (below_drew _) hb3))⟩

end Go.Proofs.Ytkdoghopbefjfaa
