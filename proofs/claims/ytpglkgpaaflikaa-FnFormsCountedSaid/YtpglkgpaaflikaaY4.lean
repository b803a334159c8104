/- Chapter 6: DistancesBack on both sides, and the law. -/
import Derived.Test.YtpglkgpaaflikaaY3
namespace Go.Proofs.Ytpglkgpaaflikaa
open Go.RowKit Go.BigFrame Go.Maps
set_option linter.unusedSimpArgs false
set_option linter.unusedVariables false
set_option maxRecDepth 4000

def dbO (xs : List Int) : Option (List Int) := if plL xs = true then some (bkL xs) else none
theorem dbO_len (xs : List Int) : ((dbO xs).getD []).length ≤ 60 := by
  unfold dbO
  split
  · rename_i h; simp only [Option.getD_some, bkL_len]; exact (plL_open h).2.1
  · simp

set_option maxHeartbeats 1000000 in
theorem specDistancesBack_any (w : World) (B : Nat) (v : Value) (xs : List Int) (ha : IntsA w B v xs) :
    Calls Try.prog 7 #[v] w fun e w' => IntsAOk (dbO xs) w w' e := by
  have hL := plGood_any w B v xs ha
  cases ht : plL xs with
  | false =>
    rw [ht] at hL
    rw [show dbO xs = none by unfold dbO; rw [ht]; rfl]
    obtain ⟨a, cap, rfl, _, _⟩ := intsA_slice ha
    have HL := Lib.hid hL; clear hL ha ht
    go_enter Try.func7, Try.ntmps7
    go_wp2_with fail
    refine HL.out.mono ?_
    rintro e w1 ⟨rfl, rfl⟩
    go_wp2_with fail
    go_ret2
    exact ⟨_, rfl, intsA_nil _ _, Below.refl _ _, fun _ => rfl⟩
  | true =>
    rw [ht] at hL
    rw [show dbO xs = some (bkL xs) by unfold dbO; rw [ht]; rfl]
    obtain ⟨h1, h60, _⟩ := plL_open ht
    have hB := plBacks_any w B v xs ha h1 (by omega)
    obtain ⟨a, cap, rfl, _, _⟩ := intsA_slice ha
    have HL := Lib.hid hL; have HB := Lib.hid hB; clear hL ha ht hB
    go_enter Try.func7, Try.ntmps7
    go_wp2_with fail
    refine HL.out.mono ?_
    rintro e w1 ⟨rfl, rfl⟩
    go_wp2_with fail
    refine HB.out.mono ?_
    rintro e w1 ⟨u, rfl, ho, hb⟩
    go_wp2_with fail
    go_ret2
    exact ⟨_, rfl, intsA_of ho, hb, fun h => by cases h⟩

set_option maxHeartbeats 1000000 in
theorem implDistancesBack_any (w : World) (B : Nat) (v : Value) (xs : List Int) (ha : IntsA w B v xs) :
    Calls Try.prog 6 #[v] w fun e w' => IntsAOk (dbO xs) w w' e := by
  have hL := isPlaceList_any w B v xs ha
  cases ht : plL xs with
  | false =>
    rw [ht] at hL
    rw [show dbO xs = none by unfold dbO; rw [ht]; rfl]
    obtain ⟨a, cap, rfl, _, _⟩ := intsA_slice ha
    have HL := Lib.hid hL; clear hL ha ht
    go_enter Try.func6, Try.ntmps6
    go_wp2_with fail
    refine HL.out.mono ?_
    rintro e w1 ⟨rfl, rfl⟩
    go_wp2_with fail
    go_ret2
    exact ⟨_, rfl, intsA_nil _ _, Below.refl _ _, fun _ => rfl⟩
  | true =>
    rw [ht] at hL
    rw [show dbO xs = some (bkL xs) by unfold dbO; rw [ht]; rfl]
    have hB := distancesBack_any w B v xs ha ht
    obtain ⟨a, cap, rfl, _, _⟩ := intsA_slice ha
    have HL := Lib.hid hL; have HB := Lib.hid hB; clear hL ha ht hB
    go_enter Try.func6, Try.ntmps6
    go_wp2_with fail
    refine HL.out.mono ?_
    rintro e w1 ⟨rfl, rfl⟩
    go_wp2_with fail
    refine HB.out.mono ?_
    rintro e w1 ⟨rfl, ho, hb⟩
    go_wp2_with fail
    go_ret2
    exact ⟨_, rfl, intsA_of ho, hb, fun h => by cases h⟩

end Go.Proofs.Ytpglkgpaaflikaa
