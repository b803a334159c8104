/- The bounds on what the drawn inputs are made of. -/
import Derived.Test.Ytkdoghopbefjfaau2
namespace Go.Proofs.Ytkdoghopbefjfaa
open Go.RowKit Go.BigFrame Go.Deep
set_option linter.unusedSimpArgs false
set_option linter.unusedVariables false
set_option maxRecDepth 4000
set_option maxHeartbeats 1000000 in
theorem big_is (w : World) (A A2 : Option Addr) (n C m C2 : Nat) (h1 : n ≤ C) (h2 : C ≤ 9223372036854775807) (h3 : m ≤ C2) (h4 : C2 ≤ 9223372036854775807) (b : Bool)
    (hb : (decide ((1048576 : Int) < (n : Int)) || decide ((1048576 : Int) - (n : Int) < (m : Int))) = b) :
    Calls Try.prog 7 #[.slice A n C, .slice A2 m C2] w fun e w' => e = .returned (.bool b) ∧ w = w' := by
  by_cases hn : (1048576 : Int) < (n : Int)
  · rw [decide_eq_true hn, Bool.true_or] at hb
    subst hb
    go_enter Try.func7, Try.ntmps7
    go_wp2_with fail
    go_ret
    exact ⟨rfl, rfl⟩
  · rw [decide_eq_false hn, Bool.false_or] at hb
    have HB := Lib.hid hb; clear hb
    go_enter Try.func7, Try.ntmps7
    go_wp2_with fail
    go_ret
    exact ⟨ret_bool HB.out, rfl⟩
theorem big_any (w : World) (code more : Value) (cs ms : List Int) (hc : ArgY w code cs) (hm : ArgY w more ms) :
    Calls Try.prog 7 #[code, more] w fun e w' => ∃ b : Bool, e = .returned (.bool b) ∧ w = w' := by
  obtain ⟨A, C, rfl, h1, h2, hx⟩ := hc
  obtain ⟨A2, C2, rfl, h3, h4, hy⟩ := hm
  exact (big_is w A A2 _ C _ C2 h1 h2 h3 h4 _ rfl).mono fun e w' h => ⟨_, h⟩
end Go.Proofs.Ytkdoghopbefjfaa
