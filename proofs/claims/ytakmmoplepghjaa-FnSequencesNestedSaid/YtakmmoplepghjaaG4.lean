/- tellUpTo: a sequence is told into a map, place by place. -/
import Derived.Test.YtakmmoplepghjaaG3
namespace Go.Proofs.Ytakmmoplepghjaa
open Go.RowKit Go.BigFrame Go.Maps
set_option linter.unusedSimpArgs false
set_option linter.unusedVariables false
set_option maxRecDepth 4000

/-- What tellUpTo hands back where the place is one: a map of its own with the numbers. -/
def Told (w w' : World) (e : Ending) (first k : Nat) (f : Nat → Nat) : Prop :=
  ∃ D, e = .returned (.tuple #[.map (some w.heap.size), .bool true]) ∧ Hid (OwnI w' w.heap.size k D ∧ SeqD D first k f ∧ Below w.heap.size w w')

set_option maxHeartbeats 1000000 in
theorem tellUpTo_bad (n first : Int) (rv : Value) (w : World) (h : decide (first ≤ n ∧ n ≤ 3000) = false) :
    Calls Try.prog 55 #[.int .i64 n, .int .i64 first, rv] w fun e w' => e = .returned (.tuple #[.map none, .bool false]) ∧ w = w' := by
  have H1 := Lib.hid h; clear h
  go_enter Try.func55, Try.ntmps55
  go_wp2_with fail
  refine (isWithin_is false _ _ _ _ H1.out).mono ?_
  rintro e w1 ⟨rfl, rfl⟩
  go_wp2_with fail
  go_ret2
  exact ⟨rfl, rfl⟩

set_option maxHeartbeats 1000000 in
theorem tellUpTo_golomb (N : Nat) (w : World) (h1 : 1 ≤ N) (h9 : N ≤ 3000) :
    Calls Try.prog 55 #[.int .i64 N, .int .i64 1, .func (.func 56) #[] #[]] w fun e w' => Told w w' e 1 N gol := by
  have hd : decide ((1 : Int) ≤ (N : Int) ∧ (N : Int) ≤ 3000) = true := by simp; omega
  have H1 := Lib.hid hd; clear hd
  have hmm := @run_makeMap_hint Try.prog 43 _ _ Try.underlying43 .i64
  go_enter Try.func55, Try.ntmps55
  go_wp2_with fail
  refine (isWithin_is true _ _ _ _ H1.out).mono ?_
  rintro e w1 ⟨rfl, rfl⟩
  go_wp2_with fail
  go_loopw [9] (fun p wr => ∃ (k : Nat) (D : DataW Unit), k ≤ N ∧ p = .int .i64 ((k : Int) + 1) ∧ Hid (OwnI wr w.heap.size k D ∧ SeqD D 1 k gol ∧ Below w.heap.size w wr)) (fun p _ => (N + 1 - intOf p).toNat)
  case atStart => exact ⟨0, .map [], Nat.zero_le _, rfl, World.ownsMap_made _ _ _ _, seqD_empty _ _, (Below.refl _ _).alloc (Nat.le_refl _) _⟩
  case round =>
    obtain ⟨k, D, hk, rfl, HH⟩ := hrel
    by_cases hlt : k < N
    · go_wp2_with fail
      refine (golomb_any wr w.heap.size k k D HH.out.1 HH.out.2.1 (by omega)).mono ?_
      rintro e w1 ⟨rfl, rfl⟩
      go_wp2_with (at_mapUpdate; refine wpList_mapUpdate_own _ rfl _ _ _ 43 rfl 3 3 lawI Try.underlying43 _ w.heap.size k _ rfl HH.out.1 (by unfold maxLen; omega) _ _ _ rfl rfl (keyOf_int_mk Try.underlying3 (wfI (by omega) (by omega))) _ [] (plainElem_int Try.underlying3 (wfI (by omega) (by have := gol_le (k + 1) (by omega); omega))) ?_; intro w2 hown2 hgr2; have HO2 := Lib.hid hown2; have HG2 := Lib.hid hgr2; clear hown2 hgr2)
      go_roundw
      case rel => exact ⟨k + 1, _, by omega, by go_num, HO2.out, by have h := HH.out.2.1.put ((gol (k + 1) : Nat) : Int) (by rw [Nat.add_comm 1 k]); rw [show ((1 : Nat) : Int) + (k : Int) = (k : Int) + 1 by omega] at h; exact h, HH.out.2.2.grown HG2.out HH.out.2.2.size (fun j hj => by cases hj; exact Nat.le_refl _)⟩
      case measure => simp [intOf]; omega
    · obtain rfl : k = N := by omega
      go_wp2_with fail
      go_ret2
      exact ⟨D, rfl, HH.out⟩

set_option maxHeartbeats 1000000 in
theorem tellUpTo_back (N : Nat) (w : World) (h1 : 1 ≤ N) (h9 : N ≤ 3000) :
    Calls Try.prog 55 #[.int .i64 N, .int .i64 1, .func (.func 62) #[] #[]] w fun e w' => Told w w' e 1 N bac := by
  have hd : decide ((1 : Int) ≤ (N : Int) ∧ (N : Int) ≤ 3000) = true := by simp; omega
  have H1 := Lib.hid hd; clear hd
  have hmm := @run_makeMap_hint Try.prog 43 _ _ Try.underlying43 .i64
  go_enter Try.func55, Try.ntmps55
  go_wp2_with fail
  refine (isWithin_is true _ _ _ _ H1.out).mono ?_
  rintro e w1 ⟨rfl, rfl⟩
  go_wp2_with fail
  go_loopw [9] (fun p wr => ∃ (k : Nat) (D : DataW Unit), k ≤ N ∧ p = .int .i64 ((k : Int) + 1) ∧ Hid (OwnI wr w.heap.size k D ∧ SeqD D 1 k bac ∧ Below w.heap.size w wr)) (fun p _ => (N + 1 - intOf p).toNat)
  case atStart => exact ⟨0, .map [], Nat.zero_le _, rfl, World.ownsMap_made _ _ _ _, seqD_empty _ _, (Below.refl _ _).alloc (Nat.le_refl _) _⟩
  case round =>
    obtain ⟨k, D, hk, rfl, HH⟩ := hrel
    by_cases hlt : k < N
    · go_wp2_with fail
      refine (back_any wr w.heap.size k k D HH.out.1 HH.out.2.1 (by omega)).mono ?_
      rintro e w1 ⟨rfl, rfl⟩
      go_wp2_with (at_mapUpdate; refine wpList_mapUpdate_own _ rfl _ _ _ 43 rfl 3 3 lawI Try.underlying43 _ w.heap.size k _ rfl HH.out.1 (by unfold maxLen; omega) _ _ _ rfl rfl (keyOf_int_mk Try.underlying3 (wfI (by omega) (by omega))) _ [] (plainElem_int Try.underlying3 (wfI (by omega) (by have := (bac_in (k + 1) (by omega)).2.2; omega))) ?_; intro w2 hown2 hgr2; have HO2 := Lib.hid hown2; have HG2 := Lib.hid hgr2; clear hown2 hgr2)
      go_roundw
      case rel => exact ⟨k + 1, _, by omega, by go_num, HO2.out, by have h := HH.out.2.1.put ((bac (k + 1) : Nat) : Int) (by rw [Nat.add_comm 1 k]); rw [show ((1 : Nat) : Int) + (k : Int) = (k : Int) + 1 by omega] at h; exact h, HH.out.2.2.grown HG2.out HH.out.2.2.size (fun j hj => by cases hj; exact Nat.le_refl _)⟩
      case measure => simp [intOf]; omega
    · obtain rfl : k = N := by omega
      go_wp2_with fail
      go_ret2
      exact ⟨D, rfl, HH.out⟩

set_option maxHeartbeats 1000000 in
theorem tellUpTo_wild (N : Nat) (w : World) (h1 : 1 ≤ N) (h9 : N ≤ 3000) :
    Calls Try.prog 55 #[.int .i64 N, .int .i64 1, .func (.func 71) #[] #[]] w fun e w' => Told w w' e 1 N wil := by
  have hd : decide ((1 : Int) ≤ (N : Int) ∧ (N : Int) ≤ 3000) = true := by simp; omega
  have H1 := Lib.hid hd; clear hd
  have hmm := @run_makeMap_hint Try.prog 43 _ _ Try.underlying43 .i64
  go_enter Try.func55, Try.ntmps55
  go_wp2_with fail
  refine (isWithin_is true _ _ _ _ H1.out).mono ?_
  rintro e w1 ⟨rfl, rfl⟩
  go_wp2_with fail
  go_loopw [9] (fun p wr => ∃ (k : Nat) (D : DataW Unit), k ≤ N ∧ p = .int .i64 ((k : Int) + 1) ∧ Hid (OwnI wr w.heap.size k D ∧ SeqD D 1 k wil ∧ Below w.heap.size w wr)) (fun p _ => (N + 1 - intOf p).toNat)
  case atStart => exact ⟨0, .map [], Nat.zero_le _, rfl, World.ownsMap_made _ _ _ _, seqD_empty _ _, (Below.refl _ _).alloc (Nat.le_refl _) _⟩
  case round =>
    obtain ⟨k, D, hk, rfl, HH⟩ := hrel
    by_cases hlt : k < N
    · go_wp2_with fail
      refine (wild_any wr w.heap.size k k D HH.out.1 HH.out.2.1 (by omega)).mono ?_
      rintro e w1 ⟨rfl, rfl⟩
      go_wp2_with (at_mapUpdate; refine wpList_mapUpdate_own _ rfl _ _ _ 43 rfl 3 3 lawI Try.underlying43 _ w.heap.size k _ rfl HH.out.1 (by unfold maxLen; omega) _ _ _ rfl rfl (keyOf_int_mk Try.underlying3 (wfI (by omega) (by omega))) _ [] (plainElem_int Try.underlying3 (wfI (by omega) (by have := (wil_in (k + 1) (by omega)).2.2; omega))) ?_; intro w2 hown2 hgr2; have HO2 := Lib.hid hown2; have HG2 := Lib.hid hgr2; clear hown2 hgr2)
      go_roundw
      case rel => exact ⟨k + 1, _, by omega, by go_num, HO2.out, by have h := HH.out.2.1.put ((wil (k + 1) : Nat) : Int) (by rw [Nat.add_comm 1 k]); rw [show ((1 : Nat) : Int) + (k : Int) = (k : Int) + 1 by omega] at h; exact h, HH.out.2.2.grown HG2.out HH.out.2.2.size (fun j hj => by cases hj; exact Nat.le_refl _)⟩
      case measure => simp [intOf]; omega
    · obtain rfl : k = N := by omega
      go_wp2_with fail
      go_ret2
      exact ⟨D, rfl, HH.out⟩

set_option maxHeartbeats 1000000 in
theorem tellUpTo_nested (N : Nat) (w : World) (h1 : 0 ≤ N) (h9 : N ≤ 3000) :
    Calls Try.prog 55 #[.int .i64 N, .int .i64 0, .func (.func 68) #[] #[]] w fun e w' => Told w w' e 0 (N + 1) nes := by
  have hd : decide ((0 : Int) ≤ (N : Int) ∧ (N : Int) ≤ 3000) = true := by simp; omega
  have H1 := Lib.hid hd; clear hd
  have hmm := @run_makeMap_hint Try.prog 43 _ _ Try.underlying43 .i64
  go_enter Try.func55, Try.ntmps55
  go_wp2_with fail
  refine (isWithin_is true _ _ _ _ H1.out).mono ?_
  rintro e w1 ⟨rfl, rfl⟩
  go_wp2_with fail
  go_loopw [9] (fun p wr => ∃ (k : Nat) (D : DataW Unit), k ≤ (N + 1) ∧ p = .int .i64 ((k : Int)) ∧ Hid (OwnI wr w.heap.size k D ∧ SeqD D 0 k nes ∧ Below w.heap.size w wr)) (fun p _ => (N + 1 - intOf p).toNat)
  case atStart => exact ⟨0, .map [], Nat.zero_le _, rfl, World.ownsMap_made _ _ _ _, seqD_empty _ _, (Below.refl _ _).alloc (Nat.le_refl _) _⟩
  case round =>
    obtain ⟨k, D, hk, rfl, HH⟩ := hrel
    by_cases hlt : k < (N + 1)
    · go_wp2_with fail
      refine (nested_any wr w.heap.size k k D HH.out.1 HH.out.2.1 (by omega)).mono ?_
      rintro e w1 ⟨rfl, rfl⟩
      go_wp2_with (at_mapUpdate; refine wpList_mapUpdate_own _ rfl _ _ _ 43 rfl 3 3 lawI Try.underlying43 _ w.heap.size k _ rfl HH.out.1 (by unfold maxLen; omega) _ _ _ rfl rfl (keyOf_int_mk Try.underlying3 (wfI (by omega) (by omega))) _ [] (plainElem_int Try.underlying3 (wfI (by omega) (by have := (nes_in k (by omega)).1; omega))) ?_; intro w2 hown2 hgr2; have HO2 := Lib.hid hown2; have HG2 := Lib.hid hgr2; clear hown2 hgr2)
      go_roundw
      case rel => exact ⟨k + 1, _, by omega, by go_num, HO2.out, by have h := HH.out.2.1.put ((nes k : Nat) : Int) (by rw [Nat.zero_add]); rw [show ((0 : Nat) : Int) + (k : Int) = (k : Int) by omega] at h; exact h, HH.out.2.2.grown HG2.out HH.out.2.2.size (fun j hj => by cases hj; exact Nat.le_refl _)⟩
      case measure => simp [intOf]; omega
    · obtain rfl : k = (N + 1) := by omega
      go_wp2_with fail
      go_ret2
      exact ⟨D, rfl, HH.out⟩
end Go.Proofs.Ytakmmoplepghjaa
