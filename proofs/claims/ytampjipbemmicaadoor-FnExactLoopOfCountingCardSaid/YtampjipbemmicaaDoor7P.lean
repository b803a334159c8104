/- Chapter 7: the program's counts and lies. -/
import Derived.Test.YtampjipbemmicaaDoor7O
namespace Go.Proofs.YtampjipbemmicaaDoor
open Go.RowKit Go.BigFrame
set_option linter.unusedSimpArgs false
set_option linter.unusedVariables false
set_option maxRecDepth 4000

theorem cntT_set (s : List UInt8) (M k : Nat) (h : k < M) : (fillL 0 (cntT s M) k).set k ((s.count (ltr k) : Nat) : Int) = fillL 0 (cntT s M) (k + 1) := by
  have hk : k < (cntT s M).length := by rw [cntT_len]; exact h
  have := fillL_set (0 : Int) (cntT s M) k hk
  rw [show (cntT s M)[k] = ((s.count (ltr k) : Nat) : Int) from by simp [cntT]] at this
  exact this

set_option maxHeartbeats 1000000 in
theorem letterCounts_any (w : World) (u v : Value) (ns : List (List UInt8)) (fr : List UInt8) (xs : List Int) (h : ArgS w u ns) (ha : ArgL w v xs) (ht : toldB ns fr xs = true) :
    Calls Tryd.prog 60 #[.agg #[u, .string (bs fr)], v] w fun e w' => ∃ g, e = .returned (.slice (some ⟨g, 0, none⟩) xs.length xs.length) ∧ Ints w' w.heap.size (.slice (some ⟨g, 0, none⟩) xs.length xs.length) (cntL ns fr xs) ∧ Below w.heap.size w w' := by
  obtain ⟨i0, hi, hz0, hz1, hz2⟩ := info_parts info_intT
  obtain ⟨p1, p2, p3, p4⟩ := toldB_parts ht
  have HSN := Lib.hid (fun (W : World) (hb : Below w.heap.size w W) => sentenceText_any W u v ns fr xs (argS_below h hb) (argL_below ha hb) ht)
  obtain ⟨A, C, hu, hC, hCm, hcell⟩ := h
  obtain ⟨A2, C2, rfl, hC2, hCm2, hcell2⟩ := ha
  obtain ⟨M, hM⟩ : ∃ M, M = xs.length := ⟨_, rfl⟩
  obtain ⟨S, hS⟩ : ∃ S, S = sentL ns fr xs := ⟨_, rfl⟩
  have hcn : cntL ns fr xs = cntT S M := by unfold cntL; rw [hS, hM]
  rw [hcn]
  rw [← hS] at HSN
  rw [← hM] at hC2 p2 p3 HSN ⊢
  clear hcell hcell2 hM hS hcn p1 p4 ht hu
  go_enter Tryd.func60, Tryd.ntmps60
  go_wp2_with fail
  refine (HSN.out _ (below_alloc _ _)).mono ?_
  rintro e w1 ⟨rfl, hb1⟩
  have HB := Lib.hid (below_trans (below_alloc _ _) hb1)
  clear hb1
  go_wp2_with (refine wpList_make_full _ rfl _ _ 31 rfl w1.heap.size 3 i0 (.int .i64 0) 1 Tryd.underlying31 hi hz0 hz1 .i64 .i64 (M : Int) (M : Int) M rfl rfl rfl rfl (by rw [hz2]; omega) (by unfold maxLen; omega) (Nat.le_refl _) ?_; intro w2 hown hgr; have HO := Lib.hid hown; have HB2 := Lib.hid (below_trans HB.out ((Below.refl _ _).grown hgr (Nat.le_refl _) (fun k h => by cases h))); clear hown hgr)
  go_loopw [16] (fun i wr => ∃ k : Nat, i = .int .i64 (k : Int) ∧ k ≤ M ∧ Hid (wr.ownsRow w1.heap.size 3 1 (.slice (some ⟨w1.heap.size, 0, none⟩) M M) M ((fillL 0 (cntT S M) k).map (.int .i64)) ∧ Below w.heap.size w wr)) (fun i _ => M - (intOf i).toNat)
  case atStart =>
    refine ⟨0, rfl, Nat.zero_le _, ?_, HB2.out⟩
    have e : (madeCells (Value.int .i64 0).cells (M * 1)).toList = (fillL 0 (cntT S M) 0).map (.int .i64) := by rw [Nat.mul_one, fillL_zero, List.map_replicate, cntT_len]; exact toList_madeCells_one _ _
    exact e ▸ HO.out
  case round =>
    obtain ⟨k, rfl, hk, HX⟩ := hrel
    by_cases hlt : k < M
    · have hex : (⟨#[97, 98, 99, 100]⟩ : ByteArray).extract k (k + 1) = ⟨#[ltr k]⟩ := abcd_at k (by omega)
      have hset := cntT_set S M k hlt
      have hct : Go.Lib.countByte (bs S).data.toList (ltr k) = S.count (ltr k) := by rw [bs_list]; rfl
      have hcall := Tryd.strings_Count_one (bs S) (ltr k) wr
      rw [hct] at hcall
      obtain ⟨c, hc⟩ : ∃ c, c = S.count (ltr k) := ⟨_, rfl⟩
      rw [← hc] at hcall hset
      have HCALL := Lib.hid hcall; have HSET := Lib.hid hset
      have hd1 := HX.out.1.cellAt k (by simp [fillL_len, cntT_len]; exact hlt)
      have hd2 := HX.out.1.frozenAt k
      obtain ⟨y, hy⟩ : ∃ y, y = ((fillL 0 (cntT S M) k).map (Value.int .i64))[k]'(by simp [fillL_len, cntT_len]; exact hlt) := ⟨_, rfl⟩
      rw [List.getElem?_eq_getElem (by simp [fillL_len, cntT_len]; exact hlt), ← hy] at hd1
      have hk4 : k < 4 := by omega
      have hkb : k < (⟨#[97, 98, 99, 100]⟩ : ByteArray).size := hk4
      clear hcall hset hc hct hy
      have HLE := Lib.hid HB.out.size
      go_wp2_with fail
      refine HCALL.out.mono ?_
      rintro e w3 ⟨rfl, rfl⟩
      go_wp2_with fail
      go_roundw
      case rel =>
        refine ⟨k + 1, by go_num, by omega, ?_, HX.out.2.setCell (p := ⟨w1.heap.size, k, none⟩) HLE.out _⟩
        have := (HX.out.1.stored k (.int .i64 (c : Int))).1
        rw [← List.map_set, HSET.out] at this
        exact this
      case measure => simp [intOf] <;> omega
    · obtain rfl : k = M := by omega
      go_wp2_with fail
      go_ret
      refine ⟨_, rfl, ?_, HX.out.2⟩
      have := HX.out.1
      rw [show fillL 0 (cntT S k) k = cntT S k from by have := fillL_all (0 : Int) (cntT S k); rw [cntT_len] at this; exact this] at this
      unfold Ints
      rw [cntT_len]
      exact own_mono this HB.out.size
end Go.Proofs.YtampjipbemmicaaDoor
