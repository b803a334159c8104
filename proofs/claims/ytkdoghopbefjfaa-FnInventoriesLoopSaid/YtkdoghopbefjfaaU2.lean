/- Told lists: the program's tallyList, tellFirst; TellList on both sides. -/
import Derived.Test.YtkdoghopbefjfaaU1
namespace Go.Proofs.Ytkdoghopbefjfaa
open Go.RowKit Go.BigFrame
set_option linter.unusedSimpArgs false
set_option linter.unusedVariables false
set_option maxRecDepth 4000

/-- The counts that a told list is, or zeros. -/
def padO (xs : List Int) : List Nat := if tolL xs = true then pad (xs.map Int.toNat) else zeros9
theorem padO_len (xs : List Int) : (padO xs).length = 9 := by
  unfold padO
  split
  · rename_i h
    unfold tolL at h
    simp only [Bool.and_eq_true, decide_eq_true_eq] at h
    exact pad_len _ (by simpa using h.1.2)
  · rfl
theorem padO_ti {ns : List Nat} (h : tolL (ti ns) = true) : padO (ti ns) = pad ns := by
  unfold padO
  rw [if_pos h]
  congr 1
  simp only [ti, List.map_map]
  exact List.map_id ns

set_option maxHeartbeats 2000000 in
theorem tallyList_any (w : World) (B : Nat) (v : Value) (xs : List Int) (ha : IntsA w B v xs) :
    Calls Try.prog 82 #[v] w fun e w' => e = .returned (.tuple #[aggT (padO xs), .bool (tolL xs)]) ∧ Below w.heap.size w w' := by
  have hz : ∀ (W : World) (w0 : World), W = w0.alloc (.cells #[.int .i64 0, .int .i64 0, .int .i64 0, .int .i64 0, .int .i64 0, .int .i64 0, .int .i64 0, .int .i64 0, .int .i64 0] 65) → BlkT W w0.heap.size zeros9 := by
    rintro W w0 rfl
    exact ⟨heap_alloc_new _ _, rfl⟩
  have HZ := Lib.hid hz; clear hz
  by_cases h1 : 1 ≤ xs.length ∧ xs.length ≤ 9
  · have hd : decide ((1 : Int) ≤ (xs.length : Int) ∧ (xs.length : Int) ≤ 9) = true := by simp; omega
    obtain ⟨g, cap, rfl, hc1, hc2, _, hg, hce⟩ := intsA_at ha h1.1
    have ht : tolL xs = xs.all (inB 0 xs.length) := by unfold tolL; rw [decide_eq_true h1]; rfl
    obtain ⟨N, hN⟩ : ∃ N, N = xs.length := ⟨_, rfl⟩
    obtain ⟨R, hR⟩ : ∃ R, R = tolL xs := ⟨_, rfl⟩
    obtain ⟨P, hP⟩ : ∃ P, P = padO xs := ⟨_, rfl⟩
    rw [← hR] at ht
    rw [← hR, ← hP]
    have HC := Lib.hid hce; have HN := Lib.hid hN; have HT := Lib.hid ht; have HR := Lib.hid hR; have HP := Lib.hid hP
    rw [← hN] at hc1 h1 hd HT ⊢
    have HD := Lib.hid hd
    clear ha hce hN hd hR hP ht
    go_enter Try.func82, Try.ntmps82
    go_wp2_with fail
    refine (isWithin_is true _ _ _ _ HD.out).mono ?_
    rintro e w2 ⟨rfl, rfl⟩
    go_wp2_with fail
    go_loopw [15] (fun i wr => ∃ k : Nat, i = .int .i64 k ∧ k ≤ N ∧ Hid ((xs.take k).all (inB 0 N) = true ∧ BlkT wr (w.heap.size + 1) (pad ((xs.take k).map Int.toNat)) ∧ BlkT wr w.heap.size zeros9 ∧ Below w.heap.size w wr)) (fun i _ => N - (intOf i).toNat)
    case atStart =>
      exact ⟨0, rfl, Nat.zero_le _, rfl, ⟨heap_alloc2_new _ _ _, rfl⟩, ⟨heap_alloc2_old _ _ _, rfl⟩, below_trans (below_alloc _ _) (below_alloc _ _)⟩
    case round =>
      obtain ⟨k, rfl, hk, HX⟩ := hrel
      by_cases hlt : k < N
      · have hk' : k < xs.length := by rw [← HN.out]; exact hlt
        have h2 : wr.cell? ⟨g, k, none⟩ = some (.int .i64 xs[k]) := (HX.out.2.2.2.cell (p := ⟨g, k, none⟩) hg).trans (HC.out k hk')
        have hs := allI_succ (inB 0 N) xs k hk'
        rw [HX.out.1, Bool.true_and] at hs
        have htk : xs.take (k + 1) = xs.take k ++ [xs[k]] := List.take_succ_eq_append_getElem hk'
        obtain ⟨x, hx⟩ : ∃ x, x = xs[k] := ⟨_, rfl⟩
        rw [← hx] at h2 hs htk
        by_cases hin : 0 ≤ x ∧ x ≤ (N : Int)
        · have hdx : decide ((0 : Int) ≤ x ∧ x ≤ (N : Int)) = true := decide_eq_true hin
          rw [show inB 0 N x = true from hdx] at hs
          obtain ⟨m, rfl⟩ := Int.eq_ofNat_of_zero_le hin.1
          have hl9 : ((xs.take k).map Int.toNat).length = k := by simp; omega
          have hps := pad_snoc ((xs.take k).map Int.toNat) m (by rw [hl9]; omega)
          have hpa := pad_at ((xs.take k).map Int.toNat) (by rw [hl9]; omega)
          rw [hl9] at hps hpa
          have hmm : (xs.take (k + 1)).map Int.toNat = (xs.take k).map Int.toNat ++ [m] := by rw [htk]; simp
          rw [← hmm] at hps
          have h3 : wr.cell? ⟨w.heap.size + 1, k, none⟩ = some (.int .i64 ((0 : Nat) : Int)) := blkT_cell HX.out.2.1 hpa
          have h4 : wr.frozen? ⟨w.heap.size + 1, k, none⟩ = false := blkT_frozen HX.out.2.1 k
          have HS := Lib.hid hs; have HPS := Lib.hid hps; have HDX := Lib.hid hdx
          clear hs hps hpa hmm hl9 htk hx hdx hin
          go_wp2_with fail
          refine (isWithin_is true _ _ _ _ HDX.out).mono ?_
          rintro e w2 ⟨rfl, rfl⟩
          go_wp2_with fail
          go_roundw
          case rel =>
            refine ⟨k + 1, by go_num, by omega, HS.out, ?_, ⟨(Below.heap_setCell _ _ _ _ (by simp)).trans HX.out.2.2.1.1, rfl⟩, HX.out.2.2.2.setCell (by simp) _⟩
            rw [HPS.out]
            exact blkT_set HX.out.2.1 k m
          case measure => simp [intOf] <;> omega
        · have hdx : decide ((0 : Int) ≤ x ∧ x ≤ (N : Int)) = false := decide_eq_false hin
          rw [show inB 0 N x = false from hdx] at hs
          have hf := allI_false (inB 0 N) xs (k + 1) hs
          rw [← HT.out] at hf
          have hpz : P = zeros9 := by rw [HP.out]; unfold padO; rw [← HR.out, if_neg (by rw [hf]; simp)]
          have HF := Lib.hid hf; have HDX := Lib.hid hdx; have HPZ := Lib.hid hpz
          clear hs htk hx hdx hin hf hpz
          go_wp2_with fail
          refine (isWithin_is false _ _ _ _ HDX.out).mono ?_
          rintro e w2 ⟨rfl, rfl⟩
          go_wp2_with (refine wpList_putT rfl _ _ rfl w.heap.size rfl zeros9 zeros9 rfl HX.out.2.2.1 rfl ?_; intro w2 hB2 _ hbb _; have hbel := HX.out.2.2.2.trans (hbb _ (Nat.le_refl _)))
          refine bodyPost_ret (results_tallyT2 rfl _ _ _ zeros9 rfl hB2) rfl ?_
          exact ⟨by rw [HF.out, HPZ.out]; rfl, hbel⟩
      · obtain rfl : k = N := by omega
        have htk : xs.take k = xs := List.take_of_length_le (by rw [← HN.out]; exact Nat.le_refl _)
        have hb1 := HX.out.2.1
        have hf := HX.out.1
        rw [htk] at hb1 hf
        rw [← HT.out] at hf
        have hpz : P = pad (xs.map Int.toNat) := by rw [HP.out]; unfold padO; rw [← HR.out, if_pos hf]
        have HF := Lib.hid hf; have HPZ := Lib.hid hpz
        clear htk hf hpz
        have hne : w.heap.size ≠ w.heap.size + 1 := by omega
        go_wp2_with (first
          | refine wpList_getT rfl _ rfl (w.heap.size + 1) rfl _ hb1 ?_
          | (refine wpList_putT rfl _ _ rfl w.heap.size rfl zeros9 _ rfl HX.out.2.2.1 hb1.2 ?_; intro w2 hB2 _ hbb _; have hbel := HX.out.2.2.2.trans (hbb _ (Nat.le_refl _))))
        refine bodyPost_ret (results_tallyT2 rfl _ _ _ _ rfl hB2) rfl ?_
        exact ⟨by rw [HF.out, HPZ.out]; rfl, hbel⟩
  · have ht : tolL xs = false := by unfold tolL; rw [decide_eq_false h1]; rfl
    have hp : padO xs = zeros9 := by unfold padO; rw [if_neg (by rw [ht]; simp)]
    have hd : decide ((1 : Int) ≤ (xs.length : Int) ∧ (xs.length : Int) ≤ 9) = false := by simp; omega
    obtain ⟨a, cap, hv, hcp, hn⟩ := intsA_slice ha
    obtain ⟨N, hN⟩ : ∃ N, N = xs.length := ⟨_, rfl⟩
    rw [← hN] at hv hd
    subst hv
    rw [ht, hp]
    have HD := Lib.hid hd; clear hd ht hp ha hN
    go_enter Try.func82, Try.ntmps82
    go_wp2_with fail
    refine (isWithin_is false _ _ _ _ HD.out).mono ?_
    rintro e w2 ⟨rfl, rfl⟩
    go_wp2_with fail
    refine bodyPost_ret (results_tallyT2 rfl _ _ _ zeros9 rfl (HZ.out _ _ rfl)) rfl ?_
    exact ⟨rfl, below_alloc _ _⟩

theorem run_sliceH (w : World) (b n : Nat) (hn : n ≤ 9) : (Instr.sliceAt 65 (.pointer (some ⟨b, 0, none⟩)) none (some (.int .i64 (n : Int))) none).run Try.prog w = .ok (.slice (some ⟨b, 0, none⟩) n 9) w := by
  simp [Instr.sliceAt, Instr.sureAddr, run_underlying under_tally, Instr.sliceBounds, run_sliceBound, size_intT, addr_zero, (by omega : n ≤ 9), (by omega : (n : Int) ≤ 9), (by omega : (0 : Int) ≤ n)]

set_option maxHeartbeats 2000000 in
theorem tellFirst_any (ts : List Nat) (n : Nat) (w : World) (h9 : ts.length = 9) (hn : n ≤ 9) :
    Calls Try.prog 83 #[aggT ts, .int .i64 n] w fun e w' => e = .returned (aggT (telP n (ts.take n))) ∧ Below w.heap.size w w' := by
  have hsl := fun (W : World) (b : Nat) => run_sliceH W b n hn
  have hblk : ∀ W : World, W = w.alloc (.cells (tvA ts) 65) → BlkT W w.heap.size ts := fun W h => by rw [h]; exact ⟨heap_alloc_new _ _, h9⟩
  have HBLK := Lib.hid hblk; clear hblk
  unfold aggT
  go_enter Try.func83, Try.ntmps83
  go_wp2_with fail
  go_loopw [12] (fun i wr => ∃ k : Nat, i = .int .i64 k ∧ k ≤ n ∧ Hid (BlkT wr w.heap.size ts ∧ BlkT wr (w.heap.size + 1) zeros9 ∧ BlkT wr (w.heap.size + 2) (telP n (ts.take k)) ∧ Below w.heap.size w wr)) (fun i _ => n - (intOf i).toNat)
  case atStart =>
    have b1 := HBLK.out _ rfl
    refine ⟨0, rfl, Nat.zero_le _, ?_, ?_, ?_, below_trans (below_alloc _ _) (below_trans (below_alloc _ _) (below_alloc _ _))⟩
    · exact blkT_below b1 (below_trans (below_alloc _ _) (below_alloc _ _))
    · refine ⟨?_, rfl⟩
      have := heap_alloc2_old (w.alloc (.cells (tvA ts) 65)) (.cells #[.int .i64 0, .int .i64 0, .int .i64 0, .int .i64 0, .int .i64 0, .int .i64 0, .int .i64 0, .int .i64 0, .int .i64 0] 65) (.cells #[.int .i64 0, .int .i64 0, .int .i64 0, .int .i64 0, .int .i64 0, .int .i64 0, .int .i64 0, .int .i64 0, .int .i64 0] 65)
      rw [Go.Deep.nblk_alloc] at this
      exact this
    · rw [List.take_zero, telP_nil]
      refine ⟨?_, rfl⟩
      have := heap_alloc2_new (w.alloc (.cells (tvA ts) 65)) (.cells #[.int .i64 0, .int .i64 0, .int .i64 0, .int .i64 0, .int .i64 0, .int .i64 0, .int .i64 0, .int .i64 0, .int .i64 0] 65) (.cells #[.int .i64 0, .int .i64 0, .int .i64 0, .int .i64 0, .int .i64 0, .int .i64 0, .int .i64 0, .int .i64 0, .int .i64 0] 65)
      rw [Go.Deep.nblk_alloc] at this
      exact this
  case round =>
    obtain ⟨k, rfl, hk, HX⟩ := hrel
    by_cases hlt : k < n
    · have hk' : k < ts.length := by omega
      obtain ⟨x, hx⟩ : ∃ x, x = ts[k] := ⟨_, rfl⟩
      have h2 : wr.cell? ⟨w.heap.size, k, none⟩ = some (.int .i64 (x : Int)) := blkT_cell HX.out.1 (by rw [hx]; exact List.getElem?_eq_getElem hk')
      have htk : ts.take (k + 1) = ts.take k ++ [x] := by rw [hx]; exact List.take_succ_eq_append_getElem hk'
      by_cases hxn : x < n
      · have hst := telP_step n (ts.take k) x hxn
        have hat := telP_at n (ts.take k) x hxn hn
        obtain ⟨c, hc⟩ : ∃ c, c = (ts.take k).count x := ⟨_, rfl⟩
        have hc9 : c ≤ 9 := by rw [hc]; exact Nat.le_trans List.count_le_length (by simp; omega)
        rw [← hc] at hst hat
        rw [← htk] at hst
        have h3 : wr.cell? ⟨w.heap.size + 2, x, none⟩ = some (.int .i64 (c : Int)) := blkT_cell HX.out.2.2.1 hat
        have h4 : wr.frozen? ⟨w.heap.size + 2, x, none⟩ = false := blkT_frozen HX.out.2.2.1 x
        have hx9 : x < 9 := by omega
        have HST := Lib.hid hst; clear hst hat hc hx htk
        go_wp2_with fail
        go_roundw
        case rel =>
          refine ⟨k + 1, by go_num, by omega, ⟨(Below.heap_setCell _ _ _ _ (by simp; omega)).trans HX.out.1.1, h9⟩, ⟨(Below.heap_setCell _ _ _ _ (by simp)).trans HX.out.2.1.1, rfl⟩, ?_, HX.out.2.2.2.setCell (by simp; omega) _⟩
          rw [HST.out]
          exact blkT_set HX.out.2.2.1 x (c + 1)
        case measure => simp [intOf] <;> omega
      · have hsk := telP_skip n (ts.take k) x hxn
        rw [← htk] at hsk
        have HSK := Lib.hid hsk; clear hsk hx htk
        go_wp2_with fail
        go_roundw
        case rel => exact ⟨k + 1, by go_num, by omega, HX.out.1, HX.out.2.1, by rw [HSK.out]; exact HX.out.2.2.1, HX.out.2.2.2⟩
        case measure => simp [intOf] <;> omega
    · obtain rfl : k = n := by omega
      have hne : w.heap.size + 1 ≠ w.heap.size + 2 := by omega
      go_wp2_with (first
        | refine wpList_getT rfl _ rfl (w.heap.size + 2) rfl _ HX.out.2.2.1 ?_
        | (refine wpList_putT rfl _ _ rfl (w.heap.size + 1) rfl zeros9 _ rfl HX.out.2.1 HX.out.2.2.1.2 ?_; intro w2 hB2 _ hbb _; have hbel := HX.out.2.2.2.trans (hbb _ (by omega))))
      refine bodyPost_ret (results_tallyT rfl _ _ _ _ rfl hB2) rfl ?_
      exact ⟨rfl, hbel⟩
end Go.Proofs.Ytkdoghopbefjfaa
