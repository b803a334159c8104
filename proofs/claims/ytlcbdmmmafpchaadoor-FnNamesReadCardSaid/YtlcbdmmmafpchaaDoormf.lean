/- Chapter 8: the model's LettersOf, CountLetter, DifferentLetters, IsHonest. -/
import Derived.Test.YtlcbdmmmafpchaaDoorme
namespace Go.Proofs.YtlcbdmmmafpchaaDoor
open Go.RowKit Go.BigFrame
set_option linter.unusedSimpArgs false
set_option linter.unusedVariables false
set_option maxRecDepth 4000

def letB (s : List UInt8) : Bool := decide (s.length = 1) && s.all azB
theorem letB_one {s : List UInt8} (h : letB s = true) : ∃ c, s = [c] ∧ azB c = true := by
  unfold letB at h
  simp only [Bool.and_eq_true, decide_eq_true_eq, List.all_eq_true] at h
  obtain ⟨h1, h2⟩ := h
  match s, h1, h2 with
  | [c], _, h2 => exact ⟨c, rfl, h2 c (by simp)⟩
def lenO (n : Int) : Int := if nmB n = true then ((ltN n.toNat).length : Int) else 0
def cntO (n : Int) (s : List UInt8) : Int := if (nmB n && letB s) = true then ((ltN n.toNat).count (s.getD 0 0) : Int) else 0
def difO (n : Int) : Int := if nmB n = true then (difN (ltN n.toNat) : Int) else 0
def honO (n : Int) : Bool := nmB n && decide (lenO n = n)

set_option maxHeartbeats 1000000 in
theorem naLetter_is (s : List UInt8) (w : World) (hs : s.length ≤ 9223372036854775807) : Calls Tryd.prog 71 #[.string (bs s)] w fun e w' => e = .returned (.bool (letB s)) ∧ w = w' := by
  have hbs : (bs s).size = s.length := bs_size _
  by_cases h1 : s.length = 1
  · obtain ⟨c, hc⟩ : ∃ c, s = [c] := by match s, h1 with | [c], _ => exact ⟨c, rfl⟩
    subst hc
    obtain ⟨t, ht⟩ : ∃ t, t = bs [c] := ⟨_, rfl⟩
    have ht1 : t.size = 1 := by rw [ht]; rfl
    have ht2 : 0 < t.size := by rw [ht1]; decide
    have ht0 : t[0] = c := by subst ht; rfl
    have e : letB [c] = azB c := by simp [letB]
    rw [e, ← ht]
    rw [← ht] at hbs
    unfold azB
    rw [← ht0]
    clear ht ht0 e hs h1 hbs
    by_cases g1 : 97 ≤ t[0].toNat
    · by_cases g2 : t[0].toNat ≤ 122
      · rw [decide_eq_true (show 97 ≤ t[0].toNat ∧ t[0].toNat ≤ 122 from ⟨g1, g2⟩)]
        go_enter Tryd.func71, Tryd.ntmps71
        go_wp2_with fail
        go_ret
        exact ⟨ret_bool (by first | rfl | exact decide_eq_true (by omega) | exact decide_eq_false (by omega)), rfl⟩
      · rw [decide_eq_false (show ¬ (97 ≤ t[0].toNat ∧ t[0].toNat ≤ 122) from fun e => g2 e.2)]
        go_enter Tryd.func71, Tryd.ntmps71
        go_wp2_with fail
        go_ret
        exact ⟨ret_bool (by first | rfl | exact decide_eq_true (by omega) | exact decide_eq_false (by omega)), rfl⟩
    · rw [decide_eq_false (show ¬ (97 ≤ t[0].toNat ∧ t[0].toNat ≤ 122) from fun e => g1 e.1)]
      go_enter Tryd.func71, Tryd.ntmps71
      go_wp2_with fail
      go_ret
      exact ⟨rfl, rfl⟩
  · have e : letB s = false := by unfold letB; rw [decide_eq_false h1]; rfl
    rw [e]
    have hz : ((s.length : Int) == 1) = false := beq_false_of_ne (by omega)
    clear e h1
    go_enter Tryd.func71, Tryd.ntmps71
    go_wp2_with fail
    go_ret
    exact ⟨rfl, rfl⟩

set_option maxHeartbeats 1000000 in
theorem specLettersOf_any (n : Int) (w : World) :
    Calls Tryd.prog 12 #[.int .i64 n] w fun e w' => e = .returned (.tuple #[.int .i64 (lenO n), .bool (nmB n)]) ∧ Below w.heap.size w w' := by
  have HG := Lib.hid (fun W => naGood_is n W)
  cases hb : nmB n with
  | false =>
    have e : lenO n = 0 := by unfold lenO; rw [hb]; rfl
    rw [e]; rw [hb] at HG
    clear e hb
    go_enter Tryd.func12, Tryd.ntmps12
    go_wp2_with fail
    refine (HG.out _).mono ?_
    rintro e w1 ⟨rfl, rfl⟩
    go_wp2_with fail
    go_ret2
    exact ⟨rfl, below_refl _⟩
  | true =>
    obtain ⟨k, rfl, hk⟩ := nmB_parts hb
    obtain ⟨M, hM⟩ : ∃ M, M = (ltN k).length := ⟨_, rfl⟩
    have e : lenO (k : Int) = (M : Int) := by unfold lenO; rw [hb, hM]; rfl
    rw [e]; rw [hb] at HG
    have HN := Lib.hid (fun W => naLetters_any k W hk)
    obtain ⟨t, ht⟩ : ∃ t, t = bs (ltN k) := ⟨_, rfl⟩
    have hsz : t.size = M := by rw [ht, bs_size, hM]
    rw [← ht] at HN
    clear e hb hk ht hM
    go_enter Tryd.func12, Tryd.ntmps12
    go_wp2_with fail
    refine (HG.out _).mono ?_
    rintro e w1 ⟨rfl, rfl⟩
    go_wp2_with fail
    refine (HN.out _).mono ?_
    rintro e w1 ⟨rfl, hb⟩
    have HB := Lib.hid hb; clear hb
    go_wp2_with fail
    go_ret2
    exact ⟨rfl, HB.out⟩

set_option maxHeartbeats 1000000 in
theorem specIsHonest_any (n : Int) (w : World) :
    Calls Tryd.prog 22 #[.int .i64 n] w fun e w' => e = .returned (.tuple #[.bool (honO n), .bool (nmB n)]) ∧ Below w.heap.size w w' := by
  have HG := Lib.hid (fun W => naGood_is n W)
  cases hb : nmB n with
  | false =>
    have e : honO n = false := by unfold honO; rw [hb]; rfl
    rw [e]; rw [hb] at HG
    clear e hb
    go_enter Tryd.func22, Tryd.ntmps22
    go_wp2_with fail
    refine (HG.out _).mono ?_
    rintro e w1 ⟨rfl, rfl⟩
    go_wp2_with fail
    go_ret2
    exact ⟨rfl, below_refl _⟩
  | true =>
    obtain ⟨k, rfl, hk⟩ := nmB_parts hb
    obtain ⟨M, hM⟩ : ∃ M, M = (ltN k).length := ⟨_, rfl⟩
    have e : honO (k : Int) = decide (M = k) := by
      unfold honO lenO; rw [hb, Bool.true_and, if_pos rfl, hM]
      exact decide_eq_decide.2 (by show ((ltN k).length : Int) = (k : Int) ↔ _; omega)
    rw [e]; rw [hb] at HG
    have HN := Lib.hid (fun W => naLetters_any k W hk)
    obtain ⟨t, ht⟩ : ∃ t, t = bs (ltN k) := ⟨_, rfl⟩
    have hsz : t.size = M := by rw [ht, bs_size, hM]
    rw [← ht] at HN
    have hq : (((M : Nat) : Int) == ((k : Nat) : Int)) = decide (M = k) := by
      by_cases h : M = k
      · subst h; simp
      · rw [decide_eq_false h]; exact beq_false_of_ne (by omega)
    generalize decide (M = k) = b at *
    clear e hb hk ht hM
    go_enter Tryd.func22, Tryd.ntmps22
    go_wp2_with fail
    refine (HG.out _).mono ?_
    rintro e w1 ⟨rfl, rfl⟩
    go_wp2_with fail
    refine (HN.out _).mono ?_
    rintro e w1 ⟨rfl, hb⟩
    have HB := Lib.hid hb; clear hb
    go_wp2_with fail
    go_ret2
    exact ⟨rfl, HB.out⟩

set_option maxHeartbeats 1000000 in
theorem specCountLetter_any (n : Int) (s : List UInt8) (hs : s.length ≤ 9223372036854775807) (w : World) :
    Calls Tryd.prog 30 #[.int .i64 n, .string (bs s)] w fun e w' => e = .returned (.tuple #[.int .i64 (cntO n s), .bool (nmB n && letB s)]) ∧ Below w.heap.size w w' := by
  have HG := Lib.hid (fun W => naGood_is n W)
  have HL := Lib.hid (fun W => naLetter_is s W hs)
  cases hb : nmB n with
  | false =>
    have e : cntO n s = 0 := by unfold cntO; rw [hb]; rfl
    rw [e, Bool.false_and]; rw [hb] at HG
    clear e hb
    go_enter Tryd.func30, Tryd.ntmps30
    go_wp2_with fail
    refine (HG.out _).mono ?_
    rintro e w1 ⟨rfl, rfl⟩
    go_wp2_with fail
    go_ret2
    exact ⟨rfl, below_refl _⟩
  | true =>
    cases hl : letB s with
    | false =>
      have e : cntO n s = 0 := by unfold cntO; rw [hb, hl]; rfl
      rw [e, Bool.true_and]; rw [hb] at HG; rw [hl] at HL
      clear e hb hl
      go_enter Tryd.func30, Tryd.ntmps30
      go_wp2_with fail
      refine (HG.out _).mono ?_
      rintro e w1 ⟨rfl, rfl⟩
      go_wp2_with fail
      refine (HL.out _).mono ?_
      rintro e w1 ⟨rfl, rfl⟩
      go_wp2_with fail
      go_ret2
      exact ⟨rfl, below_refl _⟩
    | true =>
      obtain ⟨k, rfl, hk⟩ := nmB_parts hb
      obtain ⟨c, rfl, hc⟩ := letB_one hl
      obtain ⟨M, hM⟩ : ∃ M, M = (ltN k).count c := ⟨_, rfl⟩
      have e : cntO (k : Int) [c] = (M : Int) := by unfold cntO; rw [hb, hl, hM]; rfl
      rw [e, Bool.true_and]; rw [hb] at HG; rw [hl] at HL
      have HN := Lib.hid (fun W => naTimes_any k c W hk hc)
      rw [← hM] at HN
      clear e hb hk hM hl hc hs
      go_enter Tryd.func30, Tryd.ntmps30
      go_wp2_with fail
      refine (HG.out _).mono ?_
      rintro e w1 ⟨rfl, rfl⟩
      go_wp2_with fail
      refine (HL.out _).mono ?_
      rintro e w1 ⟨rfl, rfl⟩
      go_wp2_with fail
      refine (HN.out _).mono ?_
      rintro e w1 ⟨rfl, hb⟩
      have HB := Lib.hid hb; clear hb
      go_wp2_with fail
      go_ret2
      exact ⟨rfl, HB.out⟩
end Go.Proofs.YtlcbdmmmafpchaaDoor
