/- Own words: what is asked; OwnWord, OwnDigit. -/
import Derived.Test.YthbjaclobllkhaaO3
import Derived.Test.YthbjaclobllkhaaI6
namespace Go.Proofs.Ythbjaclobllkhaa
open Go.RowKit Go.BigFrame Go.Shelf
set_option linter.unusedSimpArgs false
set_option linter.unusedVariables false
set_option maxRecDepth 4000

def twoB (a b : Int) : Bool := digOk a && digOk b && decide (a ≠ b)
theorem twoB_iff {a b : Int} : twoB a b = true ↔ (1 ≤ a ∧ a ≤ 9) ∧ (1 ≤ b ∧ b ≤ 9) ∧ a ≠ b := by
  unfold twoB digOk
  simp only [Bool.and_eq_true, decide_eq_true_eq, and_assoc]
def askB (a b n most : Int) : Bool := twoB a b && decide (1 ≤ n ∧ n ≤ most)
theorem askB_iff {a b n most : Int} : askB a b n most = true ↔ ((1 ≤ a ∧ a ≤ 9) ∧ (1 ≤ b ∧ b ≤ 9) ∧ a ≠ b) ∧ 1 ≤ n ∧ n ≤ most := by
  unfold askB
  rw [Bool.and_eq_true, twoB_iff, decide_eq_true_eq]
/-- The own word that is asked. -/
def ownW (a b n : Int) : List Nat := gOwn a.toNat b.toNat n.toNat

theorem ruTwo_is (a b : Int) (w : World) : Calls Try.prog 28 #[.int .i64 a, .int .i64 b] w fun e w' => e = .returned (.bool (twoB a b)) ∧ w = w' := by
  cases h1 : decide (1 ≤ a ∧ a ≤ 9) with
  | false =>
    have E : twoB a b = false := by unfold twoB digOk; rw [h1]; rfl
    rw [E]
    have H1 := Lib.hid h1; clear h1 E
    go_enter Try.func28, Try.ntmps28
    go_wp2_with fail
    refine (l1In_is false _ _ _ _ H1.out).mono ?_
    rintro e w1 ⟨rfl, rfl⟩
    go_wp2_with fail
    go_ret
    exact ⟨rfl, rfl⟩
  | true =>
    cases h2 : decide (1 ≤ b ∧ b ≤ 9) with
    | false =>
      have E : twoB a b = false := by unfold twoB digOk; rw [h1, h2]; rfl
      rw [E]
      have H1 := Lib.hid h1; have H2 := Lib.hid h2; clear h1 h2 E
      go_enter Try.func28, Try.ntmps28
      go_wp2_with fail
      refine (l1In_is true _ _ _ _ H1.out).mono ?_
      rintro e w1 ⟨rfl, rfl⟩
      go_wp2_with fail
      refine (l1In_is false _ _ _ _ H2.out).mono ?_
      rintro e w1 ⟨rfl, rfl⟩
      go_wp2_with fail
      go_ret
      exact ⟨rfl, rfl⟩
    | true =>
      have E : twoB a b = decide (a ≠ b) := by unfold twoB digOk; rw [h1, h2]; rfl
      rw [E]
      have H1 := Lib.hid h1; have H2 := Lib.hid h2; clear h1 h2 E
      go_enter Try.func28, Try.ntmps28
      go_wp2_with fail
      refine (l1In_is true _ _ _ _ H1.out).mono ?_
      rintro e w1 ⟨rfl, rfl⟩
      go_wp2_with fail
      refine (l1In_is true _ _ _ _ H2.out).mono ?_
      rintro e w1 ⟨rfl, rfl⟩
      go_wp2_with fail
      go_ret
      exact ⟨ret_bool (by by_cases h : a = b <;> simp [h]), rfl⟩
theorem areTwo_is (a b : Int) (w : World) : Calls Try.prog 46 #[.int .i64 a, .int .i64 b] w fun e w' => e = .returned (.bool (twoB a b)) ∧ w = w' := by
  cases h1 : digOk a with
  | false =>
    have E : twoB a b = false := by unfold twoB; rw [h1]; rfl
    rw [E]
    have H1 := Lib.hid h1; clear h1 E
    go_enter Try.func46, Try.ntmps46
    go_wp2_with fail
    refine (isDigit_is false _ _ H1.out).mono ?_
    rintro e w1 ⟨rfl, rfl⟩
    go_wp2_with fail
    go_ret
    exact ⟨rfl, rfl⟩
  | true =>
    cases h2 : digOk b with
    | false =>
      have E : twoB a b = false := by unfold twoB; rw [h1, h2]; rfl
      rw [E]
      have H1 := Lib.hid h1; have H2 := Lib.hid h2; clear h1 h2 E
      go_enter Try.func46, Try.ntmps46
      go_wp2_with fail
      refine (isDigit_is true _ _ H1.out).mono ?_
      rintro e w1 ⟨rfl, rfl⟩
      go_wp2_with fail
      refine (isDigit_is false _ _ H2.out).mono ?_
      rintro e w1 ⟨rfl, rfl⟩
      go_wp2_with fail
      go_ret
      exact ⟨rfl, rfl⟩
    | true =>
      have E : twoB a b = decide (a ≠ b) := by unfold twoB; rw [h1, h2]; rfl
      rw [E]
      have H1 := Lib.hid h1; have H2 := Lib.hid h2; clear h1 h2 E
      go_enter Try.func46, Try.ntmps46
      go_wp2_with fail
      refine (isDigit_is true _ _ H1.out).mono ?_
      rintro e w1 ⟨rfl, rfl⟩
      go_wp2_with fail
      refine (isDigit_is true _ _ H2.out).mono ?_
      rintro e w1 ⟨rfl, rfl⟩
      go_wp2_with fail
      go_ret
      exact ⟨ret_bool (by by_cases h : a = b <;> simp [h]), rfl⟩
theorem ruAsked_is (a b n : Int) (w : World) : Calls Try.prog 38 #[.int .i64 a, .int .i64 b, .int .i64 n] w fun e w' => e = .returned (.bool (askB a b n 100000)) ∧ w = w' := by
  cases h1 : twoB a b with
  | false =>
    have E : askB a b n 100000 = false := by unfold askB; rw [h1]; rfl
    rw [E]
    have H1 := Lib.hid h1; clear h1 E
    go_enter Try.func38, Try.ntmps38
    go_wp2_with fail
    refine (ruTwo_is _ _ _).mono ?_
    rintro e w1 ⟨rfl, rfl⟩
    rw [H1.out]
    go_wp2_with fail
    go_ret
    exact ⟨rfl, rfl⟩
  | true =>
    obtain ⟨y, hy⟩ : ∃ y, y = decide (1 ≤ n ∧ n ≤ 100000) := ⟨_, rfl⟩
    have E : askB a b n 100000 = y := by unfold askB; rw [h1, hy]; rfl
    rw [E]
    have H1 := Lib.hid h1; have HY := Lib.hid hy; clear h1 E hy
    go_enter Try.func38, Try.ntmps38
    go_wp2_with fail
    refine (ruTwo_is _ _ _).mono ?_
    rintro e w1 ⟨rfl, rfl⟩
    rw [H1.out]
    go_wp2_with fail
    refine (l1In_is y _ _ _ _ HY.out.symm).mono ?_
    rintro e w1 ⟨rfl, rfl⟩
    go_wp2_with fail
    go_ret
    exact ⟨rfl, rfl⟩
def ownO' (a b n most : Int) : Option (List UInt8) := if askB a b n most = true then some (sgL (ownW a b n)) else none
theorem ownBeginning_any (a b n most : Int) (w : World) (hm : most ≤ 100000) :
    Calls Try.prog 27 #[.int .i64 a, .int .i64 b, .int .i64 n, .int .i64 most] w fun e w' => e = .returned (strOk (ownO' a b n most)) ∧ Below w.heap.size w w' := by
  cases h1 : twoB a b with
  | false =>
    have E : ownO' a b n most = none := by unfold ownO' askB; rw [h1]; rfl
    rw [E]
    have H1 := Lib.hid h1; clear h1 E
    go_enter Try.func27, Try.ntmps27
    go_wp2_with fail
    refine (areTwo_is _ _ _).mono ?_
    rintro e w1 ⟨rfl, rfl⟩
    rw [H1.out]
    go_wp2_with fail
    go_ret2
    exact ⟨rfl, Below.refl _ _⟩
  | true =>
    cases h2 : decide (1 ≤ n ∧ n ≤ most) with
    | false =>
      have E : ownO' a b n most = none := by unfold ownO' askB; rw [h1, h2]; rfl
      rw [E]
      have H1 := Lib.hid h1; have H2 := Lib.hid h2; clear h1 h2 E
      go_enter Try.func27, Try.ntmps27
      go_wp2_with fail
      refine (areTwo_is _ _ _).mono ?_
      rintro e w1 ⟨rfl, rfl⟩
      rw [H1.out]
      go_wp2_with fail
      refine (isWithin_is false _ _ _ _ H2.out).mono ?_
      rintro e w1 ⟨rfl, rfl⟩
      go_wp2_with fail
      go_ret2
      exact ⟨rfl, Below.refl _ _⟩
    | true =>
      have E : ownO' a b n most = some (sgL (ownW a b n)) := by unfold ownO' askB; rw [h1, h2]; rfl
      rw [E]
      have h3 := twoB_iff.1 h1
      have h4 := of_decide_eq_true h2
      obtain ⟨A, rfl⟩ : ∃ A : Nat, a = (A : Int) := ⟨a.toNat, by omega⟩
      obtain ⟨B, rfl⟩ : ∃ B : Nat, b = (B : Int) := ⟨b.toNat, by omega⟩
      obtain ⟨N, rfl⟩ : ∃ N : Nat, n = (N : Int) := ⟨n.toNat, by omega⟩
      have HT := Lib.hid (fun (W : World) => ownText_any A B N W (by omega) (by omega) (by omega))
      unfold ownW
      rw [Int.toNat_natCast, Int.toNat_natCast, Int.toNat_natCast]
      have H1 := Lib.hid h1; have H2 := Lib.hid h2; clear h1 h2 E h3 h4 hm
      go_enter Try.func27, Try.ntmps27
      go_wp2_with fail
      refine (areTwo_is _ _ _).mono ?_
      rintro e w1 ⟨rfl, rfl⟩
      rw [H1.out]
      go_wp2_with fail
      refine (isWithin_is true _ _ _ _ H2.out).mono ?_
      rintro e w1 ⟨rfl, rfl⟩
      go_wp2_with fail
      refine (HT.out _).mono ?_
      rintro e w1 ⟨rfl, hb⟩
      have HB := Lib.hid hb; clear hb
      go_wp2_with fail
      go_ret2
      exact ⟨rfl, HB.out⟩
end Go.Proofs.Ythbjaclobllkhaa
