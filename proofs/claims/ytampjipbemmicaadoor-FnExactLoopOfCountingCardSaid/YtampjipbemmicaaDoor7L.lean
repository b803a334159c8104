/- Chapter 7: the model's counts, lies, and counting again. -/
import Derived.Test.YtampjipbemmicaaDoor7K
namespace Go.Proofs.YtampjipbemmicaaDoor
open Go.RowKit Go.BigFrame
set_option linter.unusedSimpArgs false
set_option linter.unusedVariables false
set_option maxRecDepth 4000

theorem ltr_good (i : Nat) (h : i < 4) : ltrB (ltr i) = true := by
  match i, h with
  | 0, _ => rfl
  | 1, _ => rfl
  | 2, _ => rfl
  | 3, _ => rfl
theorem sentK_ltrs {ns : List (List UInt8)} {fr : List UInt8} {xs : List Int} (h : toldB ns fr xs = true) : ∀ k, k ≤ xs.length → ltrsB (sentK ns fr xs k) = true
  | 0, _ => (langB_parts (toldB_parts h).1).2.2.2.1
  | k + 1, hk => by
    obtain ⟨n, _, h2, h3, h4⟩ := told_at h k (by omega)
    have h5 := (langB_parts (toldB_parts h).1).2.2.2.2 n h2
    have h6 := (toldB_parts h).2.2.1
    unfold nameB at h5
    simp only [Bool.and_eq_true] at h5
    have ih := sentK_ltrs h k (by omega)
    unfold ltrsB at *
    rw [sentK, h4, List.all_append, List.all_append, ih, h5.1.2]
    simp [ltr_good k (by omega)]
/-- A sign of a sentence, as a place among the letters. -/
theorem sign_at {l : List UInt8} (h : ltrsB l = true) (k : Nat) (hk : k < (bs l).size) : ∃ j : Nat, j < 4 ∧ (((bs l)[k]'hk).toNat : Int) - 97 = (j : Int) ∧ ∀ hk' : k < l.length, (l[k]'hk' - 97).toNat = j := by
  have hk' : k < l.length := by rw [bs_size] at hk; exact hk
  have e : (bs l)[k]'hk = l[k] := by simp [bs, ByteArray.getElem_eq_getElem_data]
  have h1 := List.all_eq_true.1 h l[k] (List.getElem_mem hk')
  unfold ltrB at h1
  simp only [decide_eq_true_eq] at h1
  refine ⟨l[k].toNat - 97, by omega, by rw [e]; omega, fun _ => ?_⟩
  have h2 := UInt8.toNat_sub l[k] 97
  have h3 := l[k].toNat_lt
  rw [h2]
  simp
  omega

set_option maxHeartbeats 1000000 in
theorem snCount_any (w : World) (u v : Value) (ns : List (List UInt8)) (fr : List UInt8) (xs : List Int) (h : ArgS w u ns) (ha : ArgL w v xs) (ht : toldB ns fr xs = true) :
    Calls Tryd.prog 59 #[.agg #[u, .string (bs fr)], v] w fun e w' => ∃ g, e = .returned (.slice (some ⟨g, 0, none⟩) xs.length xs.length) ∧ Ints w' w.heap.size (.slice (some ⟨g, 0, none⟩) xs.length xs.length) (cntL ns fr xs) ∧ Below w.heap.size w w' := by
  obtain ⟨i0, hi, hz0, hz1, hz2⟩ := info_parts info_intT
  obtain ⟨p1, p2, p3, p4⟩ := toldB_parts ht
  have HSN := Lib.hid (fun (W : World) (hb : Below w.heap.size w W) => snSentence_any W u v ns fr xs (argS_below h hb) (argL_below ha hb) ht)
  obtain ⟨A, C, hu, hC, hCm, hcell⟩ := h
  obtain ⟨A2, C2, rfl, hC2, hCm2, hcell2⟩ := ha
  obtain ⟨M, hM⟩ : ∃ M, M = xs.length := ⟨_, rfl⟩
  obtain ⟨S, hS⟩ : ∃ S, S = sentL ns fr xs := ⟨_, rfl⟩
  have hS56 : S.length ≤ 56 := by rw [hS]; exact sentL_len ht
  have hSl : ltrsB S = true := by rw [hS]; exact sentK_ltrs ht _ (Nat.le_refl _)
  have hcn : cntL ns fr xs = cntT S M := by unfold cntL; rw [hS, hM]
  rw [hcn]
  rw [← hS] at HSN
  rw [← hM] at hC2 p2 p3 HSN ⊢
  have HSL := Lib.hid hSl
  have hbs : (bs S).size = S.length := bs_size _
  clear hcell hcell2 hM hS hcn hSl p1 p4 ht hu
  go_enter Tryd.func59, Tryd.ntmps59
  go_wp2_with (refine wpList_make_full _ rfl _ _ 31 rfl (w.heap.size + 1) 3 i0 (.int .i64 0) 1 Tryd.underlying31 hi hz0 hz1 .i64 .i64 (M : Int) (M : Int) M rfl rfl rfl rfl (by rw [hz2]; omega) (by unfold maxLen; omega) (by simp) ?_; intro w1 hown hgr; simp only [World.size_alloc] at hown; have HO := Lib.hid hown; have hb1 := ((below_alloc w (.cells #[u, .string (bs fr)] 27)).grown hgr (by simp) (fun k h => by cases h)); have hx1 := (twoAt_new w u (.string (bs fr)) 27).below ((Below.refl _ _).grown hgr (Nat.le_refl _) (fun k h => by cases h)); obtain ⟨c0, c1, _, _⟩ := hx1.cells; have HB := Lib.hid hb1; clear hown hgr hb1 hx1)
  refine (HSN.out _ HB.out).mono ?_
  rintro e w2 ⟨rfl, hb2⟩
  have HO2 := Lib.hid (own_below HO.out hb2)
  have HB2 := Lib.hid (below_trans HB.out hb2)
  clear hb2 c0 c1
  go_wp2_with fail
  have hq1 := conv1
  go_loopw [7] (fun i wr => ∃ k : Nat, i = .int .i64 (k : Int) ∧ k ≤ S.length ∧ Hid (wr.ownsRow (w.heap.size + 1) 3 1 (.slice (some ⟨w.heap.size + 1, 0, none⟩) M M) M ((cntT (S.take k) M).map (.int .i64)) ∧ Below w.heap.size w wr)) (fun i _ => S.length - (intOf i).toNat)
  case atStart =>
    refine ⟨0, rfl, Nat.zero_le _, ?_, HB2.out⟩
    rw [List.take_zero, cntT_nil]
    have e : (madeCells (Value.int .i64 0).cells (M * 1)).toList = (List.replicate M (0 : Int)).map (.int .i64) := by rw [Nat.mul_one, List.map_replicate]; exact toList_madeCells_one _ _
    exact e ▸ HO2.out
  case round =>
    obtain ⟨k, rfl, hk, HX⟩ := hrel
    by_cases hlt : k < S.length
    · have hkb : k < (bs S).size := by rw [hbs]; exact hlt
      obtain ⟨j, hj4, hj1, hj2⟩ := sign_at HSL.out k hkb
      have hj2 := hj2 hlt
      have hjm : ((j : Int) % 256) = (j : Int) := by omega
      have htk : S.take (k + 1) = S.take k ++ [S[k]] := List.take_succ_eq_append_getElem hlt
      by_cases hjM : j < M
      · have hst := cntT_step (S.take k) S[k] M j p3 hj2 hjM
        rw [← htk] at hst
        have hat := cntT_at (S.take k) M j hjM
        obtain ⟨c, hc⟩ : ∃ c, c = (S.take k).count (ltr j) := ⟨_, rfl⟩
        have hc9 : c ≤ 56 := by rw [hc]; exact Nat.le_trans List.count_le_length (by simp; omega)
        rw [← hc] at hst hat
        have h3 : wr.cell? ⟨w.heap.size + 1, j, none⟩ = some (.int .i64 (c : Int)) := by
          rw [HX.out.1.cellAt j (by omega)]; simp [hat]
        have h4 : wr.frozen? ⟨w.heap.size + 1, j, none⟩ = false := HX.out.1.frozenAt j
        have HST := Lib.hid hst; clear hst hat hc htk hj2
        go_wp2_with fail
        go_roundw
        case rel =>
          refine ⟨k + 1, by go_num, by omega, ?_, HX.out.2.setCell (p := ⟨w.heap.size + 1, j, none⟩) (by simp) _⟩
          have := (HX.out.1.stored j (.int .i64 ((c : Int) + 1))).1
          rw [HST.out, List.map_set]
          exact this
        case measure => simp [intOf] <;> omega
      · have hsk := cntT_skip (S.take k) S[k] M j p3 hj2 hjM
        rw [← htk] at hsk
        have HSK := Lib.hid hsk; clear hsk htk hj2
        go_wp2_with fail
        go_roundw
        case rel => exact ⟨k + 1, by go_num, by omega, by rw [HSK.out]; exact HX.out.1, HX.out.2⟩
        case measure => simp [intOf] <;> omega
    · obtain rfl : k = S.length := by omega
      go_wp2_with fail
      go_ret
      refine ⟨_, rfl, ?_, HX.out.2⟩
      have := HX.out.1
      rw [List.take_length] at this
      unfold Ints
      rw [cntT_len]
      exact own_mono this (by omega)
end Go.Proofs.YtampjipbemmicaaDoor
