/- Chapter 8: the first number with a letter, numbers with so many letters: both sides and their laws. -/
import Derived.Test.YtlcbdmmmafpchaaDoormm
namespace Go.Proofs.YtlcbdmmmafpchaaDoor
open Go.RowKit Go.BigFrame
set_option linter.unusedSimpArgs false
set_option linter.unusedVariables false
set_option maxRecDepth 4000

def optI : Option Nat → Int
  | some n => (n : Int)
  | none => 0
theorem fwO_opt (s : List UInt8) : fwO s = optI (fwR s) := by
  unfold fwO optI; cases fwR s <;> rfl
theorem fwK_step (c : UInt8) (k f : Nat) (h : f = 1001 - k) (hk : k < 1001) : fwK c f k = if 0 < (ltN k).count c then some k else fwK c (1001 - (k + 1)) (k + 1) := by
  obtain ⟨g, hg⟩ : ∃ g, f = g + 1 := ⟨f - 1, by omega⟩
  subst hg
  rw [fwK, show 1001 - (k + 1) = g by omega]

set_option maxHeartbeats 1000000 in
set_option maxRecDepth 100000 in
theorem specFirstWithLetter_any (s : List UInt8) (hs : s.length ≤ 9223372036854775807) (w : World) :
    Calls Tryd.prog 33 #[.string (bs s)] w fun e w' => e = .returned (.tuple #[.int .i64 (optI (fwR s)), .bool (fwR s).isSome]) ∧ Below w.heap.size w w' := by
  have HL := Lib.hid (fun W => naLetter_is s W hs)
  cases hl : letB s with
  | false =>
    have e : fwR s = none := by unfold fwR; rw [hl]; rfl
    rw [e]; rw [hl] at HL
    clear e hl
    go_enter Tryd.func33, Tryd.ntmps33
    go_wp2_with fail
    refine (HL.out _).mono ?_
    rintro e w1 ⟨rfl, rfl⟩
    go_wp2_with fail
    go_ret2
    exact ⟨rfl, below_refl _⟩
  | true =>
    obtain ⟨c, rfl, hc⟩ := letB_one hl
    have e : fwR [c] = fwK c 1001 0 := by unfold fwR; rw [hl]; rfl
    rw [e]; rw [hl] at HL
    obtain ⟨R, hR⟩ : ∃ R, R = fwK c 1001 0 := ⟨_, rfl⟩
    rw [← hR]
    have HR := Lib.hid hR
    clear e hl hR
    go_enter Tryd.func33, Tryd.ntmps33
    go_wp2_with fail
    refine (HL.out _).mono ?_
    rintro e w1 ⟨rfl, rfl⟩
    go_wp2_with fail
    go_loopw [4] (fun iv wr => ∃ (k : Nat), k ≤ 1001 ∧ iv = .int .i64 (k : Int) ∧ Hid (R = fwK c (1001 - k) k ∧ Below w.heap.size w wr)) (fun iv _ => 1001 - (intOf iv).toNat)
    case atStart => exact ⟨0, Nat.zero_le _, rfl, HR.out, below_refl _⟩
    case round =>
      obtain ⟨k, hk, rfl, HX⟩ := hrel
      by_cases hlt : k < 1001
      · have hst := fwK_step c k _ rfl hlt
        rw [← HX.out.1] at hst
        obtain ⟨M, hM⟩ : ∃ M, M = (ltN k).count c := ⟨_, rfl⟩
        rw [← hM] at hst
        have hle : (k : Int) ≤ 1000 := by omega
        have HL := Lib.hid (fun (W : World) => naTimes_any k c W (by omega) hc)
        rw [← hM] at HL
        by_cases h0 : 0 < M
        · rw [if_pos h0] at hst
          have hz : (M : Int) > 0 := by omega
          have hz2 : 0 < (M : Int) := by omega
          have HST := Lib.hid hst
          clear hst hM h0
          go_wp2_with fail
          refine (HL.out _).mono ?_
          rintro e w1 ⟨rfl, hb⟩
          have HB := Lib.hid (below_trans HX.out.2 hb); clear hb
          go_wp2_with fail
          go_ret2
          rw [HST.out]
          exact ⟨rfl, HB.out⟩
        · rw [if_neg h0] at hst
          have hz : ¬ (M : Int) > 0 := by omega
          have hz2 : ¬ 0 < (M : Int) := by omega
          have HST := Lib.hid hst
          clear hst hM h0
          go_wp2_with fail
          refine (HL.out _).mono ?_
          rintro e w1 ⟨rfl, hb⟩
          have HB := Lib.hid (below_trans HX.out.2 hb); clear hb
          go_wp2_with fail
          go_roundw
          case rel => exact ⟨k + 1, by omega, by go_num, HST.out, HB.out⟩
          case measure => simp [intOf] <;> omega
      · obtain rfl : k = 1001 := by omega
        have hn : R = none := HX.out.1
        have HN := Lib.hid hn
        clear hn
        go_wp2_with fail
        go_ret2
        rw [HN.out]
        exact ⟨rfl, HX.out.2⟩

set_option maxHeartbeats 1000000 in
set_option maxRecDepth 100000 in
theorem implFirstWithLetter_any (s : List UInt8) (hs : s.length ≤ 9223372036854775807) (w : World) (NA : NamesAt w) :
    Calls Tryd.prog 32 #[.string (bs s)] w fun e w' => e = .returned (.tuple #[.int .i64 (optI (fwR s)), .bool (fwR s).isSome]) ∧ Below w.heap.size w w' := by
  have HL := Lib.hid (fun W => isLetter_is s W hs)
  cases hl : letB s with
  | false =>
    have e : fwR s = none := by unfold fwR; rw [hl]; rfl
    rw [e]; rw [hl] at HL
    clear e hl NA
    go_enter Tryd.func32, Tryd.ntmps32
    go_wp2_with fail
    refine (HL.out _).mono ?_
    rintro e w1 ⟨rfl, rfl⟩
    go_wp2_with fail
    go_ret2
    exact ⟨rfl, below_refl _⟩
  | true =>
    obtain ⟨c, rfl, hc⟩ := letB_one hl
    have e : fwR [c] = fwK c 1001 0 := by unfold fwR; rw [hl]; rfl
    rw [e]; rw [hl] at HL
    obtain ⟨R, hR⟩ : ∃ R, R = fwK c 1001 0 := ⟨_, rfl⟩
    rw [← hR]
    have HR := Lib.hid hR
    have NAH := Lib.hid NA
    clear e hl hR NA
    go_enter Tryd.func32, Tryd.ntmps32
    go_wp2_with fail
    refine (HL.out _).mono ?_
    rintro e w1 ⟨rfl, rfl⟩
    go_wp2_with fail
    go_loopw [4, 8] (fun cv iv wr => ∃ (k : Nat), k ≤ 1001 ∧ iv = .int .i64 (k : Int) ∧ Hid (R = fwK c (1001 - k) k ∧ Below w.heap.size w wr)) (fun _ iv _ => 1001 - (intOf iv).toNat)
    case atStart => exact ⟨0, Nat.zero_le _, rfl, HR.out, below_refl _⟩
    case round =>
      obtain ⟨k, hk, rfl, HX⟩ := hrel
      by_cases hlt : k < 1001
      · have hst := fwK_step c k _ rfl hlt
        rw [← HX.out.1] at hst
        obtain ⟨M, hM⟩ : ∃ M, M = (ltN k).count c := ⟨_, rfl⟩
        rw [← hM] at hst
        have hle : (k : Int) < 1001 := by omega
        have HL := Lib.hid (spellingOf_any k wr (by omega) (NAH.out.below HX.out.2))
        have HT := Lib.hid (fun W => times_any (cntA (ltN k)) c W (cntA_len _) hc)
        rw [times_cnt _ _ hc, ← hM] at HT
        generalize aggT (cntA (ltN k)) = A at *
        by_cases h0 : 0 < M
        · rw [if_pos h0] at hst
          have hz : (M : Int) > 0 := by omega
          have hz2 : 0 < (M : Int) := by omega
          have HST := Lib.hid hst
          clear hst hM h0
          go_wp2_with fail
          refine HL.out.mono ?_
          rintro e w1 ⟨rfl, hb⟩
          have HB1 := Lib.hid (below_trans HX.out.2 hb); clear hb
          go_wp2_with fail
          refine (HT.out _).mono ?_
          rintro e w2 ⟨rfl, hb⟩
          have HB := Lib.hid (below_trans HB1.out hb); clear hb
          go_wp2_with fail
          go_ret2
          rw [HST.out]
          exact ⟨rfl, HB.out⟩
        · rw [if_neg h0] at hst
          have hz : ¬ (M : Int) > 0 := by omega
          have hz2 : ¬ 0 < (M : Int) := by omega
          have HST := Lib.hid hst
          clear hst hM h0
          go_wp2_with fail
          refine HL.out.mono ?_
          rintro e w1 ⟨rfl, hb⟩
          have HB1 := Lib.hid (below_trans HX.out.2 hb); clear hb
          go_wp2_with fail
          refine (HT.out _).mono ?_
          rintro e w2 ⟨rfl, hb⟩
          have HB := Lib.hid (below_trans HB1.out hb); clear hb
          go_wp2_with fail
          go_roundw
          case rel => exact ⟨k + 1, by omega, by go_num, HST.out, HB.out⟩
          case measure => simp [intOf] <;> omega
      · obtain rfl : k = 1001 := by omega
        have hn : R = none := HX.out.1
        have HN := Lib.hid hn
        clear hn
        go_wp2_with fail
        go_ret2
        rw [HN.out]
        exact ⟨rfl, HX.out.2⟩

end Go.Proofs.YtlcbdmmmafpchaaDoor
