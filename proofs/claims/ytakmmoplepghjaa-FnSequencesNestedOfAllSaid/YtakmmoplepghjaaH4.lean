/- HalvedRank: the pair is lessened step by step, on both sides alike. -/
import Derived.Test.YtakmmoplepghjaaH3
namespace Go.Proofs.Ytakmmoplepghjaa
open Go.RowKit Go.BigFrame
set_option linter.unusedSimpArgs false
set_option linter.unusedVariables false
set_option maxRecDepth 4000

def rk (a b n w : Nat) : Nat × Nat × Nat × Nat :=
  if h : a = b ∨ 1000000000 < w ∨ a = 0 ∨ b = 0 then (a, b, n, w) else if b < a then rk (a - b) b (n + w) (2 * w) else rk a (b - a) n (2 * w)
termination_by a + b
decreasing_by all_goals omega
theorem rk_end {a b n w : Nat} (h : a = b ∨ 1000000000 < w) : rk a b n w = (a, b, n, w) := by
  rw [rk, dif_pos (by omega)]
theorem rk_gt {a b n w : Nat} (h : ¬ a = b) (hw : w ≤ 1000000000) (ha : 1 ≤ a) (hb : 1 ≤ b) (hab : b < a) : rk a b n w = rk (a - b) b (n + w) (2 * w) := by
  rw [rk, dif_neg (by omega), if_pos hab]
theorem rk_lt {a b n w : Nat} (h : ¬ a = b) (hw : w ≤ 1000000000) (ha : 1 ≤ a) (hb : 1 ≤ b) (hab : ¬ b < a) : rk a b n w = rk a (b - a) n (2 * w) := by
  rw [rk, dif_neg (by omega), if_neg hab]
def rkB (r : Nat × Nat × Nat × Nat) : Bool := decide (r.1 = 1 ∧ r.2.1 = 1 ∧ r.2.2.1 + r.2.2.2 ≤ 1000000000)
def rkV (r : Nat × Nat × Nat × Nat) : Int := if rkB r = true then ((r.2.2.1 + r.2.2.2 : Nat) : Int) else 0
def hrI (a b : Int) : Bool := decide (1 ≤ a ∧ a ≤ 1000) && decide (1 ≤ b ∧ b ≤ 1000)
def hrB (a b : Int) : Bool := hrI a b && rkB (rk a.toNat b.toNat 0 1)
def hrV (a b : Int) : Int := if hrI a b = true then rkV (rk a.toNat b.toNat 0 1) else 0

set_option maxHeartbeats 2000000 in
theorem specHalvedRank_any (a b : Int) (w : World) : Calls Try.prog 52 #[.int .i64 a, .int .i64 b] w fun e w' => e = .returned (.tuple #[.int .i64 (hrV a b), .bool (hrB a b)]) ∧ Below w.heap.size w w' := by
  cases h1 : decide (1 ≤ a ∧ a ≤ 1000) with
  | false =>
    have hV : hrV a b = 0 := by unfold hrV hrI; rw [h1]; rfl
    have hB : hrB a b = false := by unfold hrB hrI; rw [h1]; rfl
    have H1 := Lib.hid h1; have HV := Lib.hid hV; have HB := Lib.hid hB
    clear h1 hV hB
    go_enter Try.func52, Try.ntmps52
    go_wp2_with fail
    refine (l1In_is false _ _ _ _ H1.out).mono ?_
    rintro e w1 ⟨rfl, rfl⟩
    go_wp2_with fail
    go_ret2
    exact ⟨by rw [HV.out, HB.out]; rfl, Below.refl _ _⟩
  | true =>
    cases h2 : decide (1 ≤ b ∧ b ≤ 1000) with
    | false =>
      have hV : hrV a b = 0 := by unfold hrV hrI; rw [h1, h2]; rfl
      have hB : hrB a b = false := by unfold hrB hrI; rw [h1, h2]; rfl
      have H1 := Lib.hid h1; have H2 := Lib.hid h2; have HV := Lib.hid hV; have HB := Lib.hid hB
      clear h1 h2 hV hB
      go_enter Try.func52, Try.ntmps52
      go_wp2_with fail
      refine (l1In_is true _ _ _ _ H1.out).mono ?_
      rintro e w1 ⟨rfl, rfl⟩
      go_wp2_with fail
      refine (l1In_is false _ _ _ _ H2.out).mono ?_
      rintro e w1 ⟨rfl, rfl⟩
      go_wp2_with fail
      go_ret2
      exact ⟨by rw [HV.out, HB.out]; rfl, Below.refl _ _⟩
    | true =>
      have h1' : 1 ≤ a ∧ a ≤ 1000 := by simpa using h1
      have h2' : 1 ≤ b ∧ b ≤ 1000 := by simpa using h2
      obtain ⟨a0, rfl⟩ : ∃ N : Nat, a = N := ⟨a.toNat, by omega⟩
      obtain ⟨b0, rfl⟩ : ∃ N : Nat, b = N := ⟨b.toNat, by omega⟩
      obtain ⟨R, hR⟩ : ∃ R, R = rk a0 b0 0 1 := ⟨_, rfl⟩
      have hV : hrV a0 b0 = rkV R := by unfold hrV hrI; rw [h1, h2, hR]; rfl
      have hB : hrB a0 b0 = rkB R := by unfold hrB hrI; rw [h1, h2, hR]; rfl
      have H1 := Lib.hid h1; have H2 := Lib.hid h2; have HV := Lib.hid hV; have HB := Lib.hid hB; have HR := Lib.hid hR
      clear h1 h2 hV hB hR
      go_enter Try.func52, Try.ntmps52
      go_wp2_with fail
      refine (l1In_is true _ _ _ _ H1.out).mono ?_
      rintro e w1 ⟨rfl, rfl⟩
      go_wp2_with fail
      refine (l1In_is true _ _ _ _ H2.out).mono ?_
      rintro e w1 ⟨rfl, rfl⟩
      go_wp2_with fail
      go_loop [0, 1, 6, 7] (fun va vb vn vw => ∃ a b n wt : Nat, 1 ≤ a ∧ a ≤ 1000 ∧ 1 ≤ b ∧ b ≤ 1000 ∧ n ≤ wt ∧ wt ≤ 2000000000 ∧ 1 ≤ wt ∧ Hid (R = rk a b n wt) ∧ va = .int .i64 a ∧ vb = .int .i64 b ∧ vn = .int .i64 n ∧ vw = .int .i64 wt) (fun va vb _ _ => (intOf va + intOf vb).toNat)
      case atStart => exact ⟨a0, b0, 0, 1, by omega, by omega, by omega, by omega, by omega, by omega, by omega, HR, rfl, rfl, rfl, rfl⟩
      case round =>
        obtain ⟨a, b, n, wt, ha1, ha9, hb1, hb9, hn, hw9, hw1, HX, rfl, rfl, rfl, rfl⟩ := hrel
        by_cases hab : a = b
        · subst hab
          have hX := HX.out
          rw [rk_end (.inl rfl)] at hX
          have hrB : rkB R = decide (a = 1 ∧ n + wt ≤ 1000000000) := by rw [hX]; unfold rkB; simp
          have hrV : rkV R = if rkB R = true then ((n + wt : Nat) : Int) else 0 := by rw [hX]; rfl
          have e1 : ((a : Int) != (a : Int)) = false := by simp
          by_cases h1 : a = 1
          · subst h1
            by_cases h2 : n + wt ≤ 1000000000
            · rw [show decide (1 = 1 ∧ n + wt ≤ 1000000000) = true by simp; omega] at hrB
              rw [hrB, if_pos rfl] at hrV
              have HRB := Lib.hid hrB; have HRV := Lib.hid hrV
              clear hX hrB hrV
              go_wp2_with fail
              go_ret2
              exact ⟨by rw [HV.out, HB.out, HRV.out, HRB.out]; simp, Below.refl _ _⟩
            · rw [show decide (1 = 1 ∧ n + wt ≤ 1000000000) = false by simp; omega] at hrB
              rw [hrB, if_neg (by simp)] at hrV
              have HRB := Lib.hid hrB; have HRV := Lib.hid hrV
              clear hX hrB hrV
              go_wp2_with fail
              go_ret2
              exact ⟨by rw [HV.out, HB.out, HRV.out, HRB.out]; rfl, Below.refl _ _⟩
          · rw [show decide (a = 1 ∧ n + wt ≤ 1000000000) = false by simp; omega] at hrB
            rw [hrB, if_neg (by simp)] at hrV
            have HRB := Lib.hid hrB; have HRV := Lib.hid hrV
            have e2 : ((a : Int) != 1) = true := by simp; omega
            clear hX hrB hrV
            go_wp2_with fail
            go_ret2
            exact ⟨by rw [HV.out, HB.out, HRV.out, HRB.out]; rfl, Below.refl _ _⟩
        · have e1 : ((a : Int) != (b : Int)) = true := by simp; omega
          by_cases hM : wt ≤ 1000000000
          · by_cases hlt : b < a
            · have hX := HX.out
              rw [rk_gt hab hM ha1 hb1 hlt] at hX
              have HX2 := Lib.hid hX; clear hX
              go_wp2_with fail
              go_round
              case rel => exact ⟨a - b, b, n + wt, 2 * wt, by omega, by omega, by omega, by omega, by omega, by omega, by omega, HX2, by go_num, rfl, by go_num, by go_num⟩
              case measure => simp [intOf]; omega
            · have hX := HX.out
              rw [rk_lt hab hM ha1 hb1 hlt] at hX
              have HX2 := Lib.hid hX; clear hX
              go_wp2_with fail
              go_round
              case rel => exact ⟨a, b - a, n, 2 * wt, by omega, by omega, by omega, by omega, by omega, by omega, by omega, HX2, rfl, by go_num, rfl, by go_num⟩
              case measure => simp [intOf]; omega
          · have hX := HX.out
            rw [rk_end (.inr (by omega))] at hX
            have hrB : rkB R = false := by rw [hX]; unfold rkB; simp; omega
            have hrV : rkV R = 0 := by unfold rkV; rw [hrB]; rfl
            have HRB := Lib.hid hrB; have HRV := Lib.hid hrV
            clear hX hrB hrV
            go_wp2_with fail
            go_ret2
            exact ⟨by rw [HV.out, HB.out, HRV.out, HRB.out]; rfl, Below.refl _ _⟩

set_option maxHeartbeats 2000000 in
theorem implHalvedRank_any (a b : Int) (w : World) : Calls Try.prog 51 #[.int .i64 a, .int .i64 b] w fun e w' => e = .returned (.tuple #[.int .i64 (hrV a b), .bool (hrB a b)]) ∧ Below w.heap.size w w' := by
  cases h1 : decide (1 ≤ a ∧ a ≤ 1000) with
  | false =>
    have hV : hrV a b = 0 := by unfold hrV hrI; rw [h1]; rfl
    have hB : hrB a b = false := by unfold hrB hrI; rw [h1]; rfl
    have H1 := Lib.hid h1; have HV := Lib.hid hV; have HB := Lib.hid hB
    clear h1 hV hB
    go_enter Try.func51, Try.ntmps51
    go_wp2_with fail
    refine (isWithin_is false _ _ _ _ H1.out).mono ?_
    rintro e w1 ⟨rfl, rfl⟩
    go_wp2_with fail
    go_ret2
    exact ⟨by rw [HV.out, HB.out]; rfl, Below.refl _ _⟩
  | true =>
    cases h2 : decide (1 ≤ b ∧ b ≤ 1000) with
    | false =>
      have hV : hrV a b = 0 := by unfold hrV hrI; rw [h1, h2]; rfl
      have hB : hrB a b = false := by unfold hrB hrI; rw [h1, h2]; rfl
      have H1 := Lib.hid h1; have H2 := Lib.hid h2; have HV := Lib.hid hV; have HB := Lib.hid hB
      clear h1 h2 hV hB
      go_enter Try.func51, Try.ntmps51
      go_wp2_with fail
      refine (isWithin_is true _ _ _ _ H1.out).mono ?_
      rintro e w1 ⟨rfl, rfl⟩
      go_wp2_with fail
      refine (isWithin_is false _ _ _ _ H2.out).mono ?_
      rintro e w1 ⟨rfl, rfl⟩
      go_wp2_with fail
      go_ret2
      exact ⟨by rw [HV.out, HB.out]; rfl, Below.refl _ _⟩
    | true =>
      have h1' : 1 ≤ a ∧ a ≤ 1000 := by simpa using h1
      have h2' : 1 ≤ b ∧ b ≤ 1000 := by simpa using h2
      obtain ⟨a0, rfl⟩ : ∃ N : Nat, a = N := ⟨a.toNat, by omega⟩
      obtain ⟨b0, rfl⟩ : ∃ N : Nat, b = N := ⟨b.toNat, by omega⟩
      obtain ⟨R, hR⟩ : ∃ R, R = rk a0 b0 0 1 := ⟨_, rfl⟩
      have hV : hrV a0 b0 = rkV R := by unfold hrV hrI; rw [h1, h2, hR]; rfl
      have hB : hrB a0 b0 = rkB R := by unfold hrB hrI; rw [h1, h2, hR]; rfl
      have H1 := Lib.hid h1; have H2 := Lib.hid h2; have HV := Lib.hid hV; have HB := Lib.hid hB; have HR := Lib.hid hR
      clear h1 h2 hV hB hR
      go_enter Try.func51, Try.ntmps51
      go_wp2_with fail
      refine (isWithin_is true _ _ _ _ H1.out).mono ?_
      rintro e w1 ⟨rfl, rfl⟩
      go_wp2_with fail
      refine (isWithin_is true _ _ _ _ H2.out).mono ?_
      rintro e w1 ⟨rfl, rfl⟩
      go_wp2_with fail
      go_loop [0, 1, 6, 7] (fun va vb vn vw => ∃ a b n wt : Nat, 1 ≤ a ∧ a ≤ 1000 ∧ 1 ≤ b ∧ b ≤ 1000 ∧ n ≤ wt ∧ wt ≤ 2000000000 ∧ 1 ≤ wt ∧ Hid (R = rk a b n wt) ∧ va = .int .i64 a ∧ vb = .int .i64 b ∧ vn = .int .i64 n ∧ vw = .int .i64 wt) (fun va vb _ _ => (intOf va + intOf vb).toNat)
      case atStart => exact ⟨a0, b0, 0, 1, by omega, by omega, by omega, by omega, by omega, by omega, by omega, HR, rfl, rfl, rfl, rfl⟩
      case round =>
        obtain ⟨a, b, n, wt, ha1, ha9, hb1, hb9, hn, hw9, hw1, HX, rfl, rfl, rfl, rfl⟩ := hrel
        by_cases hab : a = b
        · subst hab
          have hX := HX.out
          rw [rk_end (.inl rfl)] at hX
          have hrB : rkB R = decide (a = 1 ∧ n + wt ≤ 1000000000) := by rw [hX]; unfold rkB; simp
          have hrV : rkV R = if rkB R = true then ((n + wt : Nat) : Int) else 0 := by rw [hX]; rfl
          have e1 : ((a : Int) != (a : Int)) = false := by simp
          by_cases h1 : a = 1
          · subst h1
            by_cases h2 : n + wt ≤ 1000000000
            · rw [show decide (1 = 1 ∧ n + wt ≤ 1000000000) = true by simp; omega] at hrB
              rw [hrB, if_pos rfl] at hrV
              have HRB := Lib.hid hrB; have HRV := Lib.hid hrV
              clear hX hrB hrV
              go_wp2_with fail
              go_ret2
              exact ⟨by rw [HV.out, HB.out, HRV.out, HRB.out]; simp, Below.refl _ _⟩
            · rw [show decide (1 = 1 ∧ n + wt ≤ 1000000000) = false by simp; omega] at hrB
              rw [hrB, if_neg (by simp)] at hrV
              have HRB := Lib.hid hrB; have HRV := Lib.hid hrV
              clear hX hrB hrV
              go_wp2_with fail
              go_ret2
              exact ⟨by rw [HV.out, HB.out, HRV.out, HRB.out]; rfl, Below.refl _ _⟩
          · rw [show decide (a = 1 ∧ n + wt ≤ 1000000000) = false by simp; omega] at hrB
            rw [hrB, if_neg (by simp)] at hrV
            have HRB := Lib.hid hrB; have HRV := Lib.hid hrV
            have e2 : ((a : Int) != 1) = true := by simp; omega
            clear hX hrB hrV
            go_wp2_with fail
            go_ret2
            exact ⟨by rw [HV.out, HB.out, HRV.out, HRB.out]; rfl, Below.refl _ _⟩
        · have e1 : ((a : Int) != (b : Int)) = true := by simp; omega
          by_cases hM : wt ≤ 1000000000
          · by_cases hlt : b < a
            · have hX := HX.out
              rw [rk_gt hab hM ha1 hb1 hlt] at hX
              have HX2 := Lib.hid hX; clear hX
              go_wp2_with fail
              go_round
              case rel => exact ⟨a - b, b, n + wt, 2 * wt, by omega, by omega, by omega, by omega, by omega, by omega, by omega, HX2, by go_num, rfl, by go_num, by go_num⟩
              case measure => simp [intOf]; omega
            · have hX := HX.out
              rw [rk_lt hab hM ha1 hb1 hlt] at hX
              have HX2 := Lib.hid hX; clear hX
              go_wp2_with fail
              go_round
              case rel => exact ⟨a, b - a, n, 2 * wt, by omega, by omega, by omega, by omega, by omega, by omega, by omega, HX2, rfl, by go_num, rfl, by go_num⟩
              case measure => simp [intOf]; omega
          · have hX := HX.out
            rw [rk_end (.inr (by omega))] at hX
            have hrB : rkB R = false := by rw [hX]; unfold rkB; simp; omega
            have hrV : rkV R = 0 := by unfold rkV; rw [hrB]; rfl
            have HRB := Lib.hid hrB; have HRV := Lib.hid hrV
            clear hX hrB hrV
            by_cases h1 : a = 1
            · subst h1
              have e2 : ((b : Int) != 1) = true := by simp; omega
              go_wp2_with fail
              go_ret2
              exact ⟨by rw [HV.out, HB.out, HRV.out, HRB.out]; rfl, Below.refl _ _⟩
            · have e2 : ((a : Int) != 1) = true := by simp; omega
              go_wp2_with fail
              go_ret2
              exact ⟨by rw [HV.out, HB.out, HRV.out, HRB.out]; rfl, Below.refl _ _⟩

end Go.Proofs.Ytakmmoplepghjaa
