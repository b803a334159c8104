/- CountWords: every argument, and the law. -/
import Derived.Test.YtdlhahigiooddaaJ5
import Derived.Test.YtdlhahigiooddaaP1
namespace Go.Proofs.Ytdlhahigiooddaa
open Go.RowKit Go.BigFrame
set_option linter.unusedSimpArgs false
set_option linter.unusedVariables false
set_option maxRecDepth 4000

theorem specCW_bad (n d L : Int) (w : World) (hbad : inB n 1 18 = false ∨ inB d 1 9 = false ∨ inB L 1 18 = false) :
    Calls Try.prog 49 #[.int .i64 n, .int .i64 d, .int .i64 L] w fun e w' => e = .returned (.tuple #[.int .i64 0, .bool false]) ∧ Below w.heap.size w w' := by
  cases h1 : inB n 1 18 with
  | false =>
    unfold inB at h1
    have H1 := Lib.hid h1; clear h1 hbad
    go_enter Try.func49, Try.ntmps49
    go_wp2_with fail
    refine (l1In_is false _ _ _ _ H1.out).mono ?_
    rintro e w1 ⟨rfl, rfl⟩
    go_wp2_with fail
    go_ret2
    exact ⟨rfl, Below.refl _ _⟩
  | true =>
    cases h2 : inB d 1 9 with
    | false =>
      unfold inB at h1 h2
      have H1 := Lib.hid h1; have H2 := Lib.hid h2; clear h1 h2 hbad
      go_enter Try.func49, Try.ntmps49
      go_wp2_with fail
      refine (l1In_is true _ _ _ _ H1.out).mono ?_
      rintro e w1 ⟨rfl, rfl⟩
      go_wp2_with fail
      refine (l1In_is false _ _ _ _ H2.out).mono ?_
      rintro e w1 ⟨rfl, rfl⟩
      go_wp2_with fail
      go_ret2
      exact ⟨rfl, Below.refl _ _⟩
    | true =>
      have h3 : inB L 1 18 = false := by rcases hbad with h | h | h <;> simp_all
      unfold inB at h1 h2 h3
      have H1 := Lib.hid h1; have H2 := Lib.hid h2; have H3 := Lib.hid h3; clear h1 h2 h3 hbad
      go_enter Try.func49, Try.ntmps49
      go_wp2_with fail
      refine (l1In_is true _ _ _ _ H1.out).mono ?_
      rintro e w1 ⟨rfl, rfl⟩
      go_wp2_with fail
      refine (l1In_is true _ _ _ _ H2.out).mono ?_
      rintro e w1 ⟨rfl, rfl⟩
      go_wp2_with fail
      refine (l1In_is false _ _ _ _ H3.out).mono ?_
      rintro e w1 ⟨rfl, rfl⟩
      go_wp2_with fail
      go_ret2
      exact ⟨rfl, Below.refl _ _⟩

theorem implCW_bad (n d L : Int) (w : World) (hbad : inB n 1 18 = false ∨ inB d 1 9 = false ∨ inB L 1 18 = false) :
    Calls Try.prog 48 #[.int .i64 n, .int .i64 d, .int .i64 L] w fun e w' => e = .returned (.tuple #[.int .i64 0, .bool false]) ∧ Below w.heap.size w w' := by
  cases h1 : inB n 1 18 with
  | false =>
    unfold inB at h1
    have H1 := Lib.hid h1; clear h1 hbad
    go_enter Try.func48, Try.ntmps48
    go_wp2_with fail
    refine (isWithin_is false _ _ _ _ H1.out).mono ?_
    rintro e w1 ⟨rfl, rfl⟩
    go_wp2_with fail
    go_ret2
    exact ⟨rfl, Below.refl _ _⟩
  | true =>
    cases h2 : inB d 1 9 with
    | false =>
      unfold inB at h1 h2
      have H1 := Lib.hid h1; have H2 := Lib.hid h2; clear h1 h2 hbad
      go_enter Try.func48, Try.ntmps48
      go_wp2_with fail
      refine (isWithin_is true _ _ _ _ H1.out).mono ?_
      rintro e w1 ⟨rfl, rfl⟩
      go_wp2_with fail
      refine (isDigitJ_is false _ _ H2.out).mono ?_
      rintro e w1 ⟨rfl, rfl⟩
      go_wp2_with fail
      go_ret2
      exact ⟨rfl, Below.refl _ _⟩
    | true =>
      have h3 : inB L 1 18 = false := by rcases hbad with h | h | h <;> simp_all
      unfold inB at h1 h2 h3
      have H1 := Lib.hid h1; have H2 := Lib.hid h2; have H3 := Lib.hid h3; clear h1 h2 h3 hbad
      go_enter Try.func48, Try.ntmps48
      go_wp2_with fail
      refine (isWithin_is true _ _ _ _ H1.out).mono ?_
      rintro e w1 ⟨rfl, rfl⟩
      go_wp2_with fail
      refine (isDigitJ_is true _ _ H2.out).mono ?_
      rintro e w1 ⟨rfl, rfl⟩
      go_wp2_with fail
      refine (isWithin_is false _ _ _ _ H3.out).mono ?_
      rintro e w1 ⟨rfl, rfl⟩
      go_wp2_with fail
      go_ret2
      exact ⟨rfl, Below.refl _ _⟩

theorem cw_both (n d L : Int) : ∃ x y, (∀ w, Calls Try.prog 49 #[.int .i64 n, .int .i64 d, .int .i64 L] w fun e w' => e = .returned (.tuple #[.int .i64 x, .bool y]) ∧ Below w.heap.size w w')
    ∧ (∀ w, Calls Try.prog 48 #[.int .i64 n, .int .i64 d, .int .i64 L] w fun e w' => e = .returned (.tuple #[.int .i64 x, .bool y]) ∧ Below w.heap.size w w') := by
  by_cases hbad : inB n 1 18 = false ∨ inB d 1 9 = false ∨ inB L 1 18 = false
  · exact ⟨0, false, fun w => specCW_bad n d L w hbad, fun w => implCW_bad n d L w hbad⟩
  · have h1 : inB n 1 18 = true := by cases h : inB n 1 18 <;> simp_all
    have h2 : inB d 1 9 = true := by cases h : inB d 1 9 <;> simp_all
    have h3 : inB L 1 18 = true := by cases h : inB L 1 18 <;> simp_all
    unfold inB at h1 h2 h3
    have h1 := of_decide_eq_true h1; have h2 := of_decide_eq_true h2; have h3 := of_decide_eq_true h3
    obtain ⟨a, rfl⟩ : ∃ a : Nat, n = a := ⟨n.toNat, by omega⟩
    obtain ⟨c, rfl⟩ : ∃ c : Nat, d = (c + 1 : Nat) := ⟨(d - 1).toNat, by omega⟩
    obtain ⟨l, rfl⟩ : ∃ l : Nat, L = l := ⟨L.toNat, by omega⟩
    refine ⟨(specCW a (c + 1) l : Nat), true, fun w => specCW_good a c l w (by omega) (by omega) (by omega) (by omega) (by omega), fun w => ?_⟩
    rw [cw_eq a (c + 1) l (by omega) (by omega) (by omega) (by omega) (by omega) (by omega)]
    exact implCW_good a c l w (by omega) (by omega) (by omega) (by omega) (by omega)

end Go.Proofs.Ytdlhahigiooddaa
