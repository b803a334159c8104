/- Chapter 8: LettersOf, CountLetter, DifferentLetters, IsHonest of the program; their laws. -/
import Derived.Test.YtlcbdmmmafpchaaDoormh
namespace Go.Proofs.YtlcbdmmmafpchaaDoor
open Go.RowKit Go.BigFrame
set_option linter.unusedSimpArgs false
set_option linter.unusedVariables false
set_option maxRecDepth 4000

set_option maxHeartbeats 1000000 in
theorem isLetter_is (s : List UInt8) (w : World) (hs : s.length ≤ 9223372036854775807) : Calls Tryd.prog 64 #[.string (bs s)] w fun e w' => e = .returned (.bool (letB s)) ∧ w = w' := by
  have hbs : (bs s).size = s.length := bs_size _
  by_cases h1 : s.length = 1
  · obtain ⟨c, hc⟩ : ∃ c, s = [c] := by match s, h1 with | [c], _ => exact ⟨c, rfl⟩
    subst hc
    obtain ⟨t, ht⟩ : ∃ t, t = bs [c] := ⟨_, rfl⟩
    have ht1 : t.size = 1 := by rw [ht]; rfl
    have ht2 : 0 < t.size := by rw [ht1]; decide
    have ht0 : t[0] = c := by subst ht; rfl
    have e : letB [c] = azB c := by simp [letB]
    rw [e, ← ht]
    rw [← ht] at hbs
    unfold azB
    rw [← ht0]
    clear ht ht0 e hs h1 hbs
    by_cases g1 : 97 ≤ t[0].toNat
    · by_cases g2 : t[0].toNat ≤ 122
      · rw [decide_eq_true (show 97 ≤ t[0].toNat ∧ t[0].toNat ≤ 122 from ⟨g1, g2⟩)]
        go_enter Tryd.func64, Tryd.ntmps64
        go_wp2_with fail
        go_ret
        exact ⟨ret_bool (by first | rfl | exact decide_eq_true (by omega) | exact decide_eq_false (by omega)), rfl⟩
      · rw [decide_eq_false (show ¬ (97 ≤ t[0].toNat ∧ t[0].toNat ≤ 122) from fun e => g2 e.2)]
        go_enter Tryd.func64, Tryd.ntmps64
        go_wp2_with fail
        go_ret
        exact ⟨ret_bool (by first | rfl | exact decide_eq_true (by omega) | exact decide_eq_false (by omega)), rfl⟩
    · rw [decide_eq_false (show ¬ (97 ≤ t[0].toNat ∧ t[0].toNat ≤ 122) from fun e => g1 e.1)]
      go_enter Tryd.func64, Tryd.ntmps64
      go_wp2_with fail
      go_ret
      exact ⟨rfl, rfl⟩
  · have e : letB s = false := by unfold letB; rw [decide_eq_false h1]; rfl
    rw [e]
    have hz : ((s.length : Int) == 1) = false := beq_false_of_ne (by omega)
    clear e h1
    go_enter Tryd.func64, Tryd.ntmps64
    go_wp2_with fail
    go_ret
    exact ⟨rfl, rfl⟩


set_option maxHeartbeats 1000000 in
theorem countLetters_any (n : Int) (w : World) (NA : NamesAt w) :
    Calls Tryd.prog 54 #[.int .i64 n, .func (.func 55) #[] #[]] w fun e w' => e = .returned (.tuple #[.int .i64 (lenO n), .bool (nmB n)]) ∧ Below w.heap.size w w' := by
  have HG := Lib.hid (fun W => isNamed_is n W)
  cases hb : nmB n with
  | false =>
    have e : lenO n = 0 := by unfold lenO; rw [hb]; rfl
    rw [e]; rw [hb] at HG
    clear e hb
    go_enter Tryd.func54, Tryd.ntmps54
    go_wp2_with fail
    refine (HG.out _).mono ?_
    rintro e w1 ⟨rfl, rfl⟩
    go_wp2_with fail
    go_ret2
    exact ⟨rfl, below_refl _⟩
  | true =>
    obtain ⟨k, rfl, hk⟩ := nmB_parts hb
    have e : lenO (k : Int) = ((ltN k).length : Int) := by unfold lenO; rw [hb]; rfl
    rw [e]; rw [hb] at HG
    have HS := Lib.hid (spellingOf_any k w hk NA)
    have HL := Lib.hid (fun W => letters_any (cntA (ltN k)) W (cntA_len _) (by rw [cntA_sum _ (ltN_all k)]; have := ltN_len k hk; omega))
    rw [cntA_sum (ltN k) (ltN_all k)] at HL
    generalize ((ltN k).length : Int) = R at *
    generalize aggT (cntA (ltN k)) = A at *
    clear e hb hk NA
    go_enter Tryd.func54, Tryd.ntmps54
    go_wp2_with fail
    refine (HG.out _).mono ?_
    rintro e w1 ⟨rfl, rfl⟩
    go_wp2_with fail
    refine HS.out.mono ?_
    rintro e w1 ⟨rfl, hb⟩
    have HB := Lib.hid hb; clear hb
    go_wp2_with fail
    refine (HL.out _).mono ?_
    rintro e w2 ⟨rfl, hb⟩
    have HB2 := Lib.hid (below_trans HB.out hb); clear hb
    go_wp2_with fail
    go_ret2
    exact ⟨rfl, HB2.out⟩

set_option maxHeartbeats 1000000 in
theorem countDifferent_any (n : Int) (w : World) (NA : NamesAt w) :
    Calls Tryd.prog 54 #[.int .i64 n, .func (.func 62) #[] #[]] w fun e w' => e = .returned (.tuple #[.int .i64 (difO n), .bool (nmB n)]) ∧ Below w.heap.size w w' := by
  have HG := Lib.hid (fun W => isNamed_is n W)
  cases hb : nmB n with
  | false =>
    have e : difO n = 0 := by unfold difO; rw [hb]; rfl
    rw [e]; rw [hb] at HG
    clear e hb
    go_enter Tryd.func54, Tryd.ntmps54
    go_wp2_with fail
    refine (HG.out _).mono ?_
    rintro e w1 ⟨rfl, rfl⟩
    go_wp2_with fail
    go_ret2
    exact ⟨rfl, below_refl _⟩
  | true =>
    obtain ⟨k, rfl, hk⟩ := nmB_parts hb
    have e : difO (k : Int) = (difN (ltN k) : Int) := by unfold difO; rw [hb]; rfl
    rw [e]; rw [hb] at HG
    have HS := Lib.hid (spellingOf_any k w hk NA)
    have HL := Lib.hid (fun W => different_any (cntA (ltN k)) W (cntA_len _) (by rw [cntA_sum _ (ltN_all k)]; have := ltN_len k hk; omega))
    rw [posN_cnt (ltN k)] at HL
    generalize (difN (ltN k) : Int) = R at *
    generalize aggT (cntA (ltN k)) = A at *
    clear e hb hk NA
    go_enter Tryd.func54, Tryd.ntmps54
    go_wp2_with fail
    refine (HG.out _).mono ?_
    rintro e w1 ⟨rfl, rfl⟩
    go_wp2_with fail
    refine HS.out.mono ?_
    rintro e w1 ⟨rfl, hb⟩
    have HB := Lib.hid hb; clear hb
    go_wp2_with fail
    refine (HL.out _).mono ?_
    rintro e w2 ⟨rfl, hb⟩
    have HB2 := Lib.hid (below_trans HB.out hb); clear hb
    go_wp2_with fail
    go_ret2
    exact ⟨rfl, HB2.out⟩

set_option maxHeartbeats 1000000 in
theorem implLettersOf_any (n : Int) (w : World) (NA : NamesAt w) :
    Calls Tryd.prog 11 #[.int .i64 n] w fun e w' => e = .returned (.tuple #[.int .i64 (lenO n), .bool (nmB n)]) ∧ Below w.heap.size w w' := by
  have H := Lib.hid (countLetters_any n w NA)
  generalize lenO n = R at *
  generalize nmB n = b at *
  clear NA
  go_enter Tryd.func11, Tryd.ntmps11
  go_wp2_with fail
  refine H.out.mono ?_
  rintro e w1 ⟨rfl, hb⟩
  have HB := Lib.hid hb; clear hb
  go_wp2_with fail
  go_ret2
  exact ⟨rfl, HB.out⟩

set_option maxHeartbeats 1000000 in
theorem implDifferentLetters_any (n : Int) (w : World) (NA : NamesAt w) :
    Calls Tryd.prog 19 #[.int .i64 n] w fun e w' => e = .returned (.tuple #[.int .i64 (difO n), .bool (nmB n)]) ∧ Below w.heap.size w w' := by
  have H := Lib.hid (countDifferent_any n w NA)
  generalize difO n = R at *
  generalize nmB n = b at *
  clear NA
  go_enter Tryd.func19, Tryd.ntmps19
  go_wp2_with fail
  refine H.out.mono ?_
  rintro e w1 ⟨rfl, hb⟩
  have HB := Lib.hid hb; clear hb
  go_wp2_with fail
  go_ret2
  exact ⟨rfl, HB.out⟩

set_option maxHeartbeats 1000000 in
theorem implIsHonest_any (n : Int) (w : World) (NA : NamesAt w) :
    Calls Tryd.prog 21 #[.int .i64 n] w fun e w' => e = .returned (.tuple #[.bool (honO n), .bool (nmB n)]) ∧ Below w.heap.size w w' := by
  have H := Lib.hid (implLettersOf_any n w NA)
  have hh : honO n = (nmB n && decide (lenO n = n)) := rfl
  rw [hh]
  have hq : (lenO n == n) = decide (lenO n = n) := by
    by_cases h : lenO n = n
    · rw [decide_eq_true h]; simpa using h
    · rw [decide_eq_false h]; exact beq_false_of_ne h
  generalize decide (lenO n = n) = d at *
  generalize lenO n = R at *
  cases hb : nmB n with
  | false =>
    rw [hb] at H
    clear NA hb hh
    go_enter Tryd.func21, Tryd.ntmps21
    go_wp2_with fail
    refine H.out.mono ?_
    rintro e w1 ⟨rfl, hb⟩
    have HB := Lib.hid hb; clear hb
    go_wp2_with fail
    go_ret2
    exact ⟨rfl, HB.out⟩
  | true =>
    rw [hb] at H
    clear NA hb hh
    go_enter Tryd.func21, Tryd.ntmps21
    go_wp2_with fail
    refine H.out.mono ?_
    rintro e w1 ⟨rfl, hb⟩
    have HB := Lib.hid hb; clear hb
    go_wp2_with fail
    go_ret2
    exact ⟨rfl, HB.out⟩

set_option maxHeartbeats 1000000 in
theorem implCountLetter_any (n : Int) (s : List UInt8) (hs : s.length ≤ 9223372036854775807) (w : World) (NA : NamesAt w) :
    Calls Tryd.prog 26 #[.int .i64 n, .string (bs s)] w fun e w' => e = .returned (.tuple #[.int .i64 (cntO n s), .bool (nmB n && letB s)]) ∧ Below w.heap.size w w' := by
  have HG := Lib.hid (fun W => isNamed_is n W)
  have HL := Lib.hid (fun W => isLetter_is s W hs)
  cases hb : nmB n with
  | false =>
    have e : cntO n s = 0 := by unfold cntO; rw [hb]; rfl
    rw [e, Bool.false_and]; rw [hb] at HG
    clear e hb
    go_enter Tryd.func26, Tryd.ntmps26
    go_wp2_with fail
    refine (HG.out _).mono ?_
    rintro e w1 ⟨rfl, rfl⟩
    go_wp2_with fail
    go_ret2
    exact ⟨rfl, below_refl _⟩
  | true =>
    cases hl : letB s with
    | false =>
      have e : cntO n s = 0 := by unfold cntO; rw [hb, hl]; rfl
      rw [e, Bool.true_and]; rw [hb] at HG; rw [hl] at HL
      clear e hb hl
      go_enter Tryd.func26, Tryd.ntmps26
      go_wp2_with fail
      refine (HG.out _).mono ?_
      rintro e w1 ⟨rfl, rfl⟩
      go_wp2_with fail
      refine (HL.out _).mono ?_
      rintro e w1 ⟨rfl, rfl⟩
      go_wp2_with fail
      go_ret2
      exact ⟨rfl, below_refl _⟩
    | true =>
      obtain ⟨k, rfl, hk⟩ := nmB_parts hb
      obtain ⟨c, rfl, hc⟩ := letB_one hl
      obtain ⟨M, hM⟩ : ∃ M, M = (ltN k).count c := ⟨_, rfl⟩
      have e : cntO (k : Int) [c] = (M : Int) := by unfold cntO; rw [hb, hl, hM]; rfl
      rw [e, Bool.true_and]; rw [hb] at HG; rw [hl] at HL
      have HS := Lib.hid (spellingOf_any k w hk NA)
      have HN := Lib.hid (fun W => times_any (cntA (ltN k)) c W (cntA_len _) hc)
      rw [times_cnt _ _ hc, ← hM] at HN
      generalize aggT (cntA (ltN k)) = A at *
      clear e hb hk hM hl hc hs NA
      go_enter Tryd.func26, Tryd.ntmps26
      go_wp2_with fail
      refine (HG.out _).mono ?_
      rintro e w1 ⟨rfl, rfl⟩
      go_wp2_with fail
      refine (HL.out _).mono ?_
      rintro e w1 ⟨rfl, rfl⟩
      go_wp2_with fail
      refine HS.out.mono ?_
      rintro e w1 ⟨rfl, hb⟩
      have HB := Lib.hid hb; clear hb
      go_wp2_with fail
      refine (HN.out _).mono ?_
      rintro e w2 ⟨rfl, hb⟩
      have HB2 := Lib.hid (below_trans HB.out hb); clear hb
      go_wp2_with fail
      go_ret2
      exact ⟨rfl, HB2.out⟩
end Go.Proofs.YtlcbdmmmafpchaaDoor
