/- Chapter 8: names compared. -/
import Derived.Test.YtbggbdoanahlmaaDoormk
import Derived.WalkLawsBesides
namespace Go.Proofs.YtbggbdoanahlmaaDoor
open Go.RowKit Go.BigFrame
set_option linter.unusedSimpArgs false
set_option linter.unusedVariables false
set_option maxRecDepth 4000

/-- One text comes before another. -/
def blB (a b : List UInt8) : Bool := Op.bytesLess (bs a).toList (bs b).toList
def cmpS (a b : List UInt8) : Int := if blB a b = true then -1 else if a = b then 0 else 1
theorem bs_eqB {a b : List UInt8} : ((bs a).toList == (bs b).toList) = decide (a = b) := by
  rw [Go.Lib.toList_data, Go.Lib.toList_data, bs_list, bs_list]
  by_cases h : a = b
  · simp [h]
  · rw [decide_eq_false h]; simpa using h
def ltO (n : Int) : List UInt8 := ltN n.toNat
def cmpO (a b : Int) : Int := if (nmB a && nmB b) = true then cmpS (ltO a) (ltO b) else 0

theorem isNaNS_is (a : List UInt8) (w : World) : Calls Tryd.prog 37 #[.string (bs a)] w fun e w' => e = .returned (.bool false) ∧ w = w' := by
  obtain ⟨t, ht⟩ : ∃ t, t = bs a := ⟨_, rfl⟩
  rw [← ht]
  have hx : (t.toList != t.toList) = false := by simp
  clear ht
  go_enter Tryd.func37, Tryd.ntmps37
  go_wp2_with fail
  go_ret
  exact ⟨rfl, rfl⟩

set_option maxHeartbeats 1000000 in
theorem compareS_is (a b : List UInt8) (w : World) : Calls Tryd.prog 29 #[.string (bs a), .string (bs b)] w fun e w' => e = .returned (.int .i64 (cmpS a b)) ∧ w = w' := by
  have HA := Lib.hid (fun W => isNaNS_is a W)
  have HB := Lib.hid (fun W => isNaNS_is b W)
  obtain ⟨s, hs⟩ : ∃ s, s = bs a := ⟨_, rfl⟩
  obtain ⟨t, ht⟩ : ∃ t, t = bs b := ⟨_, rfl⟩
  have h1 : Op.bytesLess s.toList t.toList = blB a b := by rw [hs, ht]; rfl
  have h2 : (s.toList == t.toList) = decide (a = b) := by rw [hs, ht]; exact bs_eqB
  rw [← hs, ← ht]; rw [← hs] at HA; rw [← ht] at HB
  unfold cmpS
  clear hs ht
  cases g1 : blB a b with
  | true =>
    rw [g1] at h1
    rw [if_pos rfl]
    clear h2 g1
    go_enter Tryd.func29, Tryd.ntmps29
    go_wp2_with fail
    refine (HA.out _).mono ?_
    rintro e w1 ⟨rfl, rfl⟩
    go_wp2_with fail
    refine (HB.out _).mono ?_
    rintro e w1 ⟨rfl, rfl⟩
    go_wp2_with fail
    go_ret
    exact ⟨rfl, rfl⟩
  | false =>
    rw [g1] at h1
    rw [if_neg (by simp)]
    by_cases g2 : a = b
    · rw [decide_eq_true g2] at h2
      rw [if_pos g2]
      clear g1 g2
      go_enter Tryd.func29, Tryd.ntmps29
      go_wp2_with fail
      refine (HA.out _).mono ?_
      rintro e w1 ⟨rfl, rfl⟩
      go_wp2_with fail
      refine (HB.out _).mono ?_
      rintro e w1 ⟨rfl, rfl⟩
      go_wp2_with fail
      go_ret
      exact ⟨rfl, rfl⟩
    · rw [decide_eq_false g2] at h2
      rw [if_neg g2]
      clear g1 g2
      go_enter Tryd.func29, Tryd.ntmps29
      go_wp2_with fail
      refine (HA.out _).mono ?_
      rintro e w1 ⟨rfl, rfl⟩
      go_wp2_with fail
      refine (HB.out _).mono ?_
      rintro e w1 ⟨rfl, rfl⟩
      go_wp2_with fail
      go_ret
      exact ⟨rfl, rfl⟩

end Go.Proofs.YtbggbdoanahlmaaDoor
