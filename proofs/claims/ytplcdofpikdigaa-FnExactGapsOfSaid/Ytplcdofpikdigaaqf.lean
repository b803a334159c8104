/- Chapter 9: gaps are counted. -/
import Derived.Test.Ytplcdofpikdigaaq8
namespace Go.Proofs.Ytplcdofpikdigaa
open Go.RowKit Go.BigFrame Go.Deep
set_option linter.unusedSimpArgs false
set_option linter.unusedVariables false
set_option maxRecDepth 4000

theorem take_count (s : ByteArray) (k : Nat) (h : k < s.size) (c : UInt8) : (s.data.toList.take (k + 1)).count c = (s.data.toList.take k).count c + if s[k] = c then 1 else 0 := by
  rw [List.take_succ_eq_append_getElem (by simpa using h), List.count_append, List.count_singleton]
  have : s.data.toList[k]'(by simpa using h) = s[k] := rfl
  rw [this]
  by_cases e : s[k] = c <;> simp [e]
set_option maxHeartbeats 1000000 in
theorem pzGaps_any (l : List UInt8) (w : World) (hl : l.length ≤ 1048576) :
    Calls Try.prog 33 #[.string (bs l)] w fun e w' => e = .returned (.int .i64 (l.count 46 : Nat)) ∧ w = w' := by
  obtain ⟨t, ht⟩ : ∃ t, t = bs l := ⟨_, rfl⟩
  have hsz : t.size ≤ 1048576 := by rw [ht, bs_size]; exact hl
  have hl2 : l = t.data.toList := by rw [ht, bs_list]
  rw [← ht]
  obtain ⟨R, hR⟩ : ∃ R, R = l.count 46 := ⟨_, rfl⟩
  rw [← hR]
  rw [hl2] at hR
  have HR := Lib.hid hR
  clear hl hl2 ht hR
  go_enter Try.func33, Try.ntmps33
  go_wp2_with fail
  go_loop [3, 4] (fun c i => ∃ k m : Nat, k ≤ t.size ∧ i = .int .i64 k ∧ c = .int .i64 m ∧ m ≤ k ∧ Hid ((t.data.toList.take k).count 46 = m)) (fun _ i => t.size - (intOf i).toNat)
  case atStart => exact ⟨0, 0, Nat.zero_le _, rfl, rfl, Nat.le_refl _, rfl⟩
  case round =>
    obtain ⟨k, m, hk, rfl, rfl, hm, HA⟩ := hrel
    by_cases hlt : k < t.size
    · have hs := take_count t k hlt 46
      rw [HA.out] at hs
      by_cases h46 : t[k].toNat = 46
      · have e : t[k] = 46 := UInt8.toNat_inj.1 h46
        rw [if_pos e] at hs
        have HS := Lib.hid hs
        have hx : ((t[k].toNat : Int) == 46) = true := by simp; omega
        clear hs e
        go_wp2_with fail
        go_round
        case rel => exact ⟨k + 1, m + 1, by omega, by go_num, by go_num, by omega, HS.out⟩
        case measure => simp [intOf] <;> omega
      · have e : ¬ t[k] = 46 := fun h => h46 (by rw [h]; rfl)
        rw [if_neg e, Nat.add_zero] at hs
        have HS := Lib.hid hs
        have hx : ((t[k].toNat : Int) == 46) = false := by simp; omega
        clear hs e
        go_wp2_with fail
        go_round
        case rel => exact ⟨k + 1, m, by omega, by go_num, rfl, by omega, HS.out⟩
        case measure => simp [intOf] <;> omega
    · have HT : Hid (m = R) := by
        have h := HA.out
        rw [List.take_of_length_le (by simp; omega)] at h
        rw [HR.out, h]; exact rfl
      go_wp2_with fail
      go_ret
      exact ⟨ret_int (by rw [HT.out]), rfl⟩
theorem countGaps_any (l : List UInt8) (w : World) :
    Calls Try.prog 34 #[.string (bs l)] w fun e w' => e = .returned (.int .i64 (l.count 46 : Nat)) ∧ w = w' := by
  have hC := fun (W0 : World) => Try.strings_Count_one (bs l) 46 W0
  rw [show Go.Lib.countByte (bs l).data.toList 46 = l.count 46 from by rw [bs_list]; rfl] at hC
  generalize bs l = t at *
  generalize l.count 46 = R at *
  have HC := Lib.hid hC; clear hC
  go_enter Try.func34, Try.ntmps34
  go_wp2_with fail
  refine (HC.out _).mono ?_
  rintro e w1 ⟨rfl, rfl⟩
  go_wp2_with fail
  go_ret
  exact ⟨rfl, rfl⟩

def r0GapsOf (W S : List UInt8) (D : Int) : Int := if pzB W S D = true then (W.count 46 : Nat) else 0
def r1GapsOf (W S : List UInt8) (D : Int) : Int := if pzB W S D = true then (S.count 46 : Nat) else 0
set_option maxHeartbeats 1000000 in
theorem specGapsOf_any (W S : List UInt8) (D : Int) (w : World) (hW : W.length ≤ 1048576) (hS : S.length ≤ 1048576) :
    Calls Try.prog 15 #[pzV W S D] w fun e w' => e = .returned (.tuple #[.int .i64 (r0GapsOf W S D), .int .i64 (r1GapsOf W S D), .bool (pzB W S D)]) ∧ Below w.heap.size w w' := by
  have hG := fun (W0 : World) => pzGood_any W S D W0 (by unfold maxLen; omega) (by unfold maxLen; omega)
  have hA := fun (W0 : World) => pzGaps_any W W0 hW
  have hB := fun (W0 : World) => pzGaps_any S W0 hS
  unfold r0GapsOf r1GapsOf
  obtain ⟨v, hv⟩ : ∃ v, v = pzB W S D := ⟨_, rfl⟩
  simp only [← hv] at hG ⊢
  unfold pzV at hG ⊢
  generalize W.count 46 = m1 at *
  generalize S.count 46 = m2 at *
  generalize bs W = t at *
  generalize bs S = u at *
  have HG := Lib.hid hG; have HA := Lib.hid hA; have HB := Lib.hid hB
  have HT := Lib.hid (threeAt_new w (.string t) (.string u) (.int .i64 D) 26)
  clear hG hA hB hv hW hS
  cases v with
  | false =>
    go_enter Try.func15, Try.ntmps15
    go_wp2_with fail
    refine (HG.out _).mono ?_
    rintro e w1 ⟨rfl, hb⟩
    have HB1 := Lib.hid (below_trans (below_alloc _ _) hb); clear hb
    go_wp2_with fail
    go_ret3
    exact ⟨rfl, HB1.out⟩
  | true =>
    go_enter Try.func15, Try.ntmps15
    go_wp2_with fail
    refine (HG.out _).mono ?_
    rintro e w1 ⟨rfl, hb⟩
    obtain ⟨c0, c1, c2, _, _, _⟩ := (HT.out.below hb).cells
    have HB1 := Lib.hid (below_trans (below_alloc _ _) hb); clear hb
    go_wp2_with fail
    go_quiet (first | (go_at_call 33; with_reducible exact Calls.quiet_of_same ((HA.out _).mono (fun _ _ h => ⟨h.1, h.2.symm⟩))) | (go_at_call 33; with_reducible exact Calls.quiet_of_same ((HB.out _).mono (fun _ _ h => ⟨h.1, h.2.symm⟩))))
    go_wp2_with fail
    go_ret3
    exact ⟨rfl, HB1.out.trans (belowN _ _ _)⟩
set_option maxHeartbeats 1000000 in
theorem implGapsOf_any (W S : List UInt8) (D : Int) (w : World) (hW : W.length ≤ 1048576) (hS : S.length ≤ 1048576) :
    Calls Try.prog 16 #[pzV W S D] w fun e w' => e = .returned (.tuple #[.int .i64 (r0GapsOf W S D), .int .i64 (r1GapsOf W S D), .bool (pzB W S D)]) ∧ Below w.heap.size w w' := by
  have hG := fun (W0 : World) => implIsPuzzle_any W S D W0 (by unfold maxLen; omega) (by unfold maxLen; omega)
  have hA := fun (W0 : World) => countGaps_any W W0
  have hB := fun (W0 : World) => countGaps_any S W0
  unfold r0GapsOf r1GapsOf
  obtain ⟨v, hv⟩ : ∃ v, v = pzB W S D := ⟨_, rfl⟩
  simp only [← hv] at hG ⊢
  unfold pzV at hG ⊢
  generalize W.count 46 = m1 at *
  generalize S.count 46 = m2 at *
  generalize bs W = t at *
  generalize bs S = u at *
  have HG := Lib.hid hG; have HA := Lib.hid hA; have HB := Lib.hid hB
  have HT := Lib.hid (threeAt_new w (.string t) (.string u) (.int .i64 D) 26)
  clear hG hA hB hv hW hS
  cases v with
  | false =>
    go_enter Try.func16, Try.ntmps16
    go_wp2_with fail
    refine (HG.out _).mono ?_
    rintro e w1 ⟨rfl, hb⟩
    have HB1 := Lib.hid (below_trans (below_alloc _ _) hb); clear hb
    go_wp2_with fail
    go_ret3
    exact ⟨rfl, HB1.out⟩
  | true =>
    go_enter Try.func16, Try.ntmps16
    go_wp2_with fail
    refine (HG.out _).mono ?_
    rintro e w1 ⟨rfl, hb⟩
    obtain ⟨c0, c1, c2, _, _, _⟩ := (HT.out.below hb).cells
    have HB1 := Lib.hid (below_trans (below_alloc _ _) hb); clear hb
    go_wp2_with fail
    go_quiet (first | (go_at_call 34; with_reducible exact Calls.quiet_of_same ((HA.out _).mono (fun _ _ h => ⟨h.1, h.2.symm⟩))) | (go_at_call 34; with_reducible exact Calls.quiet_of_same ((HB.out _).mono (fun _ _ h => ⟨h.1, h.2.symm⟩))))
    go_wp2_with fail
    go_ret3
    exact ⟨rfl, HB1.out.trans (belowN _ _ _)⟩
set_option maxHeartbeats 4000000 in
theorem law_GapsOf (W S : List UInt8) (D : Int) (w : World) (hW : W.length ≤ maxLen) (hS : S.length ≤ maxLen) :
    Calls Try.prog 4 #[pzV W S D] w fun e w' => e = .returned (.bool true) ∧ Below w.heap.size w w' := by
  have hsz := fun (W0 : World) => szPuzzle_any W0 W S D hW hS
  obtain ⟨t, ht⟩ : ∃ t, t = bs W := ⟨_, rfl⟩
  obtain ⟨u, hu⟩ : ∃ u, u = bs S := ⟨_, rfl⟩
  by_cases hn : W.length + S.length ≤ 1048576
  · obtain ⟨m, hm⟩ : ∃ m : Nat, m = 1048576 - (W.length + S.length) := ⟨_, rfl⟩
    simp only [if_pos hn, ← hm] at hsz
    have hT := fun (W0 : World) => toPuzzle_any W0 W S D
    have hSP := fun (W0 : World) => specGapsOf_any W S D W0 (by first | omega | (unfold maxLen; omega)) (by first | omega | (unfold maxLen; omega))
    have hIM := fun (W0 : World) => implGapsOf_any W S D W0 (by first | omega | (unfold maxLen; omega)) (by first | omega | (unfold maxLen; omega))
    obtain ⟨r0, hr0⟩ : ∃ r, r = r0GapsOf W S D := ⟨_, rfl⟩
    obtain ⟨r1, hr1⟩ : ∃ r, r = r1GapsOf W S D := ⟨_, rfl⟩
    obtain ⟨r2, hr2⟩ : ∃ r, r = pzB W S D := ⟨_, rfl⟩
    simp only [pzV, ← ht, ← hu, ← hr0, ← hr1, ← hr2] at hsz hT hSP hIM ⊢
    have HSZ := Lib.hid hsz; have HT := Lib.hid hT; have HSP := Lib.hid hSP; have HIM := Lib.hid hIM
    have e0 : (r0 != r0) = false := by simp
    have e1 : (r1 != r1) = false := by simp
    have e2 : (r2 != r2) = false := by simp
    clear hsz hT hSP hIM hm hn ht hu hW hS hr0 hr1 hr2
    go_enter Try.func4, Try.ntmps4
    go_wp2_with fail
    refine (HSZ.out _).mono ?_
    rintro e w1 ⟨rfl, hb⟩
    have hx1 := (threeAt_new w (.string t) (.string u) (.int .i64 D) 23).below hb
    have HB1 := Lib.hid (below_trans (below_alloc _ _) hb)
    obtain ⟨c0, c1, c2, _, _, _⟩ := hx1.cells
    have HX1 := Lib.hid hx1; clear hb hx1
    go_wp2_with fail
    refine (HT.out _).mono ?_
    rintro e w2 ⟨rfl, hb⟩
    have hx2 := HX1.out.below hb
    have HB2 := Lib.hid (below_trans HB1.out hb)
    obtain ⟨d0, d1, d2, _, _, _⟩ := hx2.cells
    have HX2 := Lib.hid hx2; clear hb hx2 c0 c1 c2
    go_wp2_with fail
    refine (HSP.out _).mono ?_
    rintro e w3 ⟨rfl, hb⟩
    have hx3 := HX2.out.below hb
    have HB3 := Lib.hid (below_trans HB2.out hb)
    obtain ⟨c0, c1, c2, _, _, _⟩ := hx3.cells
    clear hb hx3 d0 d1 d2
    go_wp2_with fail
    refine (HT.out _).mono ?_
    rintro e w4 ⟨rfl, hb⟩
    have HB4 := Lib.hid (below_trans HB3.out hb)
    clear hb c0 c1 c2
    go_wp2_with fail
    refine (HIM.out _).mono ?_
    rintro e w5 ⟨rfl, hb⟩
    have HB5 := Lib.hid (below_trans HB4.out hb)
    clear hb
    go_wp2_with fail
    go_ret
    exact ⟨rfl, HB5.out⟩
  · simp only [if_neg hn] at hsz
    simp only [pzV, ← ht, ← hu] at hsz ⊢
    have HSZ := Lib.hid hsz
    clear hsz ht hu
    go_enter Try.func4, Try.ntmps4
    go_wp2_with fail
    refine (HSZ.out _).mono ?_
    rintro e w1 ⟨rfl, hb⟩
    have HB := Lib.hid hb; clear hb
    go_wp2_with fail
    go_ret
    exact ⟨rfl, below_trans (below_alloc _ _) HB.out⟩
end Go.Proofs.Ytplcdofpikdigaa
