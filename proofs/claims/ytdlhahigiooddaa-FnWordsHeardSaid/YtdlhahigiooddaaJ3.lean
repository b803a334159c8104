/- CountHeard: the model's and the program's, and the law. -/
import Derived.Test.YtdlhahigiooddaaA3
namespace Go.Proofs.Ytdlhahigiooddaa
open Go.RowKit Go.BigFrame
set_option linter.unusedSimpArgs false
set_option linter.unusedVariables false
set_option maxRecDepth 4000

def intOk3 (b : Bool) (n : Int) : Value := .tuple #[.int .i64 (if b = true then n else 0), .bool b]
def inB (n lo hi : Int) : Bool := decide (lo ≤ n ∧ n ≤ hi)
/-- d * d, times d * (d - 1) so many times. -/
def heardN (d : Int) (j : Nat) : Int := d * d * (d * (d - 1)) ^ j
theorem heardN_succ (d : Int) (j : Nat) : heardN d (j + 1) = heardN d j * (d * (d - 1)) := by
  unfold heardN; rw [Int.pow_succ]; exact (Int.mul_assoc _ _ _).symm
def heardV (len d : Int) : Int := if len % 2 = 1 then 0 else heardN d ((len / 2).toNat - 1)
theorem heardN_bound (d : Int) (j : Nat) (h0 : 1 ≤ d) (h1 : d ≤ 9) (hj : j ≤ 8) : 0 ≤ heardN d j ∧ heardN d j ≤ 900000000000000000 ∧ 0 ≤ d * (d - 1) ∧ d * (d - 1) ≤ 72 ∧ 0 ≤ d * d ∧ d * d ≤ 81 := by
  obtain ⟨n, rfl⟩ := Int.eq_ofNat_of_zero_le (show 0 ≤ d by omega)
  have hd : n = 1 ∨ n = 2 ∨ n = 3 ∨ n = 4 ∨ n = 5 ∨ n = 6 ∨ n = 7 ∨ n = 8 ∨ n = 9 := by omega
  have hj' : j = 0 ∨ j = 1 ∨ j = 2 ∨ j = 3 ∨ j = 4 ∨ j = 5 ∨ j = 6 ∨ j = 7 ∨ j = 8 := by omega
  rcases hd with rfl | rfl | rfl | rfl | rfl | rfl | rfl | rfl | rfl <;> rcases hj' with rfl | rfl | rfl | rfl | rfl | rfl | rfl | rfl | rfl <;> decide
theorem isDigit3_is (b : Bool) (n : Int) (w : World) (h : inB n 1 9 = b) :
    Calls Try.prog 71 #[.int .i64 n] w fun e w' => e = .returned (.bool b) ∧ w = w' := by
  have H := Lib.hid h; clear h
  go_enter Try.func71, Try.ntmps71
  go_wp2_with fail
  refine (isWithin_is b _ _ _ _ H.out).mono ?_
  rintro e w1 ⟨rfl, rfl⟩
  go_wp2_with fail
  go_ret
  exact ⟨rfl, rfl⟩

set_option maxHeartbeats 1000000 in
theorem specCountHeard_any (n d : Int) (w : World) :
    Calls Try.prog 52 #[.int .i64 n, .int .i64 d] w fun e w' => e = .returned (intOk3 (inB n 1 18 && inB d 1 9) (heardV n d)) ∧ w = w' := by
  cases h1 : inB n 1 18 with
  | false =>
    have H1 := Lib.hid h1; clear h1
    go_enter Try.func52, Try.ntmps52
    go_wp2_with fail
    refine (l1In_is false _ _ _ _ H1.out).mono ?_
    rintro e w1 ⟨rfl, rfl⟩
    go_wp2_with fail
    go_ret2
    exact ⟨rfl, rfl⟩
  | true =>
    cases h2 : inB d 1 9 with
    | false =>
      have H1 := Lib.hid h1; have H2 := Lib.hid h2; clear h1 h2
      go_enter Try.func52, Try.ntmps52
      go_wp2_with fail
      refine (l1In_is true _ _ _ _ H1.out).mono ?_
      rintro e w1 ⟨rfl, rfl⟩
      go_wp2_with fail
      refine (l1In_is false _ _ _ _ H2.out).mono ?_
      rintro e w1 ⟨rfl, rfl⟩
      go_wp2_with fail
      go_ret2
      exact ⟨rfl, rfl⟩
    | true =>
      have a1 : 1 ≤ n ∧ n ≤ 18 := by simpa [inB] using h1
      have a2 : 1 ≤ d ∧ d ≤ 9 := by simpa [inB] using h2
      obtain ⟨n1, n2⟩ := a1
      obtain ⟨d1, d2⟩ := a2
      have H1 := Lib.hid h1; have H2 := Lib.hid h2; clear h1 h2
      by_cases ho : n % 2 = 1
      · have hob : (n % 2 == 1) = true := by simpa using ho
        have hv : Hid (heardV n d = 0) := by unfold heardV; rw [if_pos ho]; exact rfl
        clear ho
        go_enter Try.func52, Try.ntmps52
        go_wp2_with fail
        refine (l1In_is true _ _ _ _ H1.out).mono ?_
        rintro e w1 ⟨rfl, rfl⟩
        go_wp2_with fail
        refine (l1In_is true _ _ _ _ H2.out).mono ?_
        rintro e w1 ⟨rfl, rfl⟩
        go_wp2_with fail
        go_ret2
        exact ⟨by rw [hv.out]; rfl, rfl⟩
      · have hob : (n % 2 == 1) = false := by simpa using ho
        obtain ⟨m, hm⟩ : ∃ m : Nat, n = 2 * (m : Int) + 2 := ⟨(n / 2 - 1).toNat, by omega⟩
        have hv : Hid (heardV n d = heardN d m) := by
          unfold heardV; rw [if_neg ho]
          have : (n / 2).toNat - 1 = m := by omega
          rw [this]; exact rfl
        subst hm
        obtain ⟨_, _, b3, b4, b5, b6⟩ := heardN_bound d 0 d1 d2 (by omega)
        have h0 : Hid (heardN d 0 = d * d) := by unfold heardN; simp; exact trivial
        clear ho
        go_enter Try.func52, Try.ntmps52
        go_wp2_with fail
        refine (l1In_is true _ _ _ _ H1.out).mono ?_
        rintro e w1 ⟨rfl, rfl⟩
        go_wp2_with fail
        refine (l1In_is true _ _ _ _ H2.out).mono ?_
        rintro e w1 ⟨rfl, rfl⟩
        go_wp2_with fail
        go_loop [6, 7] (fun c k => ∃ (j : Nat) (x : Int), j ≤ m ∧ k = .int .i64 (2 * (j : Int) + 2) ∧ c = .int .i64 x ∧ Hid (x = heardN d j)) (fun _ k => (2 * (m : Int) + 2 - intOf k).toNat)
        case atStart => exact ⟨0, d * d, Nat.zero_le _, rfl, rfl, h0.out.symm⟩
        case round =>
          obtain ⟨j, x, hj, rfl, rfl, HX⟩ := hrel
          by_cases hlt : j < m
          · obtain ⟨y1, y2, _⟩ := heardN_bound d (j + 1) d1 d2 (by omega)
            rw [heardN_succ, ← HX.out] at y1 y2
            have HS := Lib.hid (heardN_succ d j)
            go_wp2_with fail
            go_round
            case rel => exact ⟨j + 1, _, by omega, by go_num, rfl, by rw [HS.out, ← HX.out]; exact rfl⟩
            case measure => simp [intOf] <;> omega
          · obtain rfl : j = m := by omega
            go_wp2_with fail
            go_ret2
            exact ⟨by rw [hv.out, HX.out]; rfl, rfl⟩
set_option maxHeartbeats 1000000 in
theorem implCountHeard_any (n d : Int) (w : World) :
    Calls Try.prog 51 #[.int .i64 n, .int .i64 d] w fun e w' => e = .returned (intOk3 (inB n 1 18 && inB d 1 9) (heardV n d)) ∧ w = w' := by
  cases h1 : inB n 1 18 with
  | false =>
    have H1 := Lib.hid h1; clear h1
    go_enter Try.func51, Try.ntmps51
    go_wp2_with fail
    refine (isWithin_is false _ _ _ _ H1.out).mono ?_
    rintro e w1 ⟨rfl, rfl⟩
    go_wp2_with fail
    go_ret2
    exact ⟨rfl, rfl⟩
  | true =>
    cases h2 : inB d 1 9 with
    | false =>
      have H1 := Lib.hid h1; have H2 := Lib.hid h2; clear h1 h2
      go_enter Try.func51, Try.ntmps51
      go_wp2_with fail
      refine (isWithin_is true _ _ _ _ H1.out).mono ?_
      rintro e w1 ⟨rfl, rfl⟩
      go_wp2_with fail
      refine (isDigit3_is false _ _ H2.out).mono ?_
      rintro e w1 ⟨rfl, rfl⟩
      go_wp2_with fail
      go_ret2
      exact ⟨rfl, rfl⟩
    | true =>
      have a1 : 1 ≤ n ∧ n ≤ 18 := by simpa [inB] using h1
      have a2 : 1 ≤ d ∧ d ≤ 9 := by simpa [inB] using h2
      obtain ⟨n1, n2⟩ := a1
      obtain ⟨d1, d2⟩ := a2
      have H1 := Lib.hid h1; have H2 := Lib.hid h2; clear h1 h2
      by_cases ho : n % 2 = 1
      · have hob : (n % 2 != 0) = true := by simp; omega
        have hv : Hid (heardV n d = 0) := by unfold heardV; rw [if_pos ho]; exact rfl
        clear ho
        go_enter Try.func51, Try.ntmps51
        go_wp2_with fail
        refine (isWithin_is true _ _ _ _ H1.out).mono ?_
        rintro e w1 ⟨rfl, rfl⟩
        go_wp2_with fail
        refine (isDigit3_is true _ _ H2.out).mono ?_
        rintro e w1 ⟨rfl, rfl⟩
        go_wp2_with fail
        go_ret2
        exact ⟨by rw [hv.out]; rfl, rfl⟩
      · have hob : (n % 2 != 0) = false := by simp; omega
        obtain ⟨m, hm⟩ : ∃ m : Nat, n = 2 * (m : Int) + 2 := ⟨(n / 2 - 1).toNat, by omega⟩
        have hv : Hid (heardV n d = heardN d m) := by
          unfold heardV; rw [if_neg ho]
          have : (n / 2).toNat - 1 = m := by omega
          rw [this]; exact rfl
        subst hm
        obtain ⟨_, _, b3, b4, b5, b6⟩ := heardN_bound d 0 d1 d2 (by omega)
        have h0 : Hid (heardN d 0 = d * d) := by unfold heardN; simp; exact trivial
        have hdv : (2 * (m : Int) + 2) / 2 = (m : Int) + 1 := by omega
        clear ho
        go_enter Try.func51, Try.ntmps51
        go_wp2_with fail
        refine (isWithin_is true _ _ _ _ H1.out).mono ?_
        rintro e w1 ⟨rfl, rfl⟩
        go_wp2_with fail
        refine (isDigit3_is true _ _ H2.out).mono ?_
        rintro e w1 ⟨rfl, rfl⟩
        go_wp2_with fail
        go_loop [6, 24] (fun c k => ∃ (j : Nat) (x : Int), j ≤ m ∧ k = .int .i64 (j : Int) ∧ c = .int .i64 x ∧ Hid (x = heardN d j)) (fun _ k => ((m : Int) - intOf k).toNat)
        case atStart => exact ⟨0, d * d, Nat.zero_le _, rfl, rfl, h0.out.symm⟩
        case round =>
          obtain ⟨j, x, hj, rfl, rfl, HX⟩ := hrel
          by_cases hlt : j < m
          · obtain ⟨y1, y2, _⟩ := heardN_bound d (j + 1) d1 d2 (by omega)
            rw [heardN_succ, ← HX.out] at y1 y2
            have HS := Lib.hid (heardN_succ d j)
            go_wp2_with fail
            go_round
            case rel => exact ⟨j + 1, _, by omega, by go_num, rfl, by rw [HS.out, ← HX.out]; exact rfl⟩
            case measure => simp [intOf] <;> omega
          · obtain rfl : j = m := by omega
            go_wp2_with fail
            go_ret2
            exact ⟨by rw [hv.out, HX.out]; rfl, rfl⟩

end Go.Proofs.Ytdlhahigiooddaa
