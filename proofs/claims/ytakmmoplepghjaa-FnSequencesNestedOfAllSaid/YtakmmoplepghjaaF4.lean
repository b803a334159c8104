/- The program's FigureOf, StepOf and IsFigure. -/
import Derived.Test.YtakmmoplepghjaaF3
namespace Go.Proofs.Ytakmmoplepghjaa
open Go.RowKit Go.BigFrame Go.Maps
set_option linter.unusedSimpArgs false
set_option linter.unusedVariables false
set_option maxRecDepth 4000

theorem fld_figure (a b : Int) (m : Option Nat) (W : World) : (Instr.field 59 (.agg #[.int .i64 a, .int .i64 b, .map m]) 0).run Try.prog W = .ok (.int .i64 a) W := by kernel_rfl
theorem fld_step (a b : Int) (m : Option Nat) (W : World) : (Instr.field 59 (.agg #[.int .i64 a, .int .i64 b, .map m]) 1).run Try.prog W = .ok (.int .i64 b) W := by kernel_rfl

def fN (n : Int) : Bool := decide (1 ≤ n ∧ n ≤ 1000)
def fV (n : Int) : Int := if fN n = true then (fig (n.toNat - 1) : Nat) else 0
def stV (n : Int) : Int := if fN n = true then (stp n.toNat : Nat) else 0
theorem fN_open {n : Int} (h : fN n = true) : ∃ N : Nat, n = N ∧ 1 ≤ N ∧ N ≤ 1000 := by
  have : 1 ≤ n ∧ n ≤ 1000 := by unfold fN at h; simpa using h
  exact ⟨n.toNat, by omega, by omega, by omega⟩
theorem fV_bad {n : Int} (h : fN n = false) : fV n = 0 := by unfold fV; rw [h]; rfl
theorem fV_ok {N : Nat} (h : fN (N : Int) = true) : fV N = (fig (N - 1) : Nat) := by unfold fV; rw [h]; rfl
theorem stV_bad {n : Int} (h : fN n = false) : stV n = 0 := by unfold stV; rw [h]; rfl
theorem stV_ok {N : Nat} (h : fN (N : Int) = true) : stV N = (stp N : Nat) := by unfold stV; rw [h]; rfl

set_option maxHeartbeats 1000000 in
theorem implFigureOf_any (n : Int) (w : World) : Calls Try.prog 38 #[.int .i64 n] w fun e w' => e = .returned (.tuple #[.int .i64 (fV n), .bool (fN n)]) ∧ Below w.heap.size w w' := by
  cases hb : fN n with
  | false =>
    have HV := Lib.hid (fV_bad hb)
    unfold fN at hb
    have H1 := Lib.hid hb; clear hb
    go_enter Try.func38, Try.ntmps38
    go_wp2_with fail
    refine (isWithin_is false _ _ _ _ H1.out).mono ?_
    rintro e w1 ⟨rfl, rfl⟩
    go_wp2_with fail
    go_ret2
    exact ⟨by rw [HV.out]; rfl, Below.refl _ _⟩
  | true =>
    obtain ⟨N, rfl, h1, h9⟩ := fN_open hb
    have HV := Lib.hid (fV_ok hb)
    have hc := fun W => climbBy_any W (N - 1) (by omega)
    rw [show ((N - 1 : Nat) : Int) = (N : Int) - 1 by omega] at hc
    have HC := Lib.hid hc
    have hfd := fld_figure
    unfold fN at hb
    have H1 := Lib.hid hb; clear hb hc
    go_enter Try.func38, Try.ntmps38
    go_wp2_with fail
    refine (isWithin_is true _ _ _ _ H1.out).mono ?_
    rintro e w1 ⟨rfl, rfl⟩
    go_wp2_with fail
    refine (HC.out w).mono ?_
    rintro e w2 ⟨mb, rfl, _, _, h2⟩
    have B2 := Lib.hid h2; clear h2
    go_wp2_with fail
    go_ret2
    exact ⟨by rw [HV.out]; rfl, B2.out⟩

set_option maxHeartbeats 1000000 in
theorem implStepOf_any (n : Int) (w : World) : Calls Try.prog 40 #[.int .i64 n] w fun e w' => e = .returned (.tuple #[.int .i64 (stV n), .bool (fN n)]) ∧ Below w.heap.size w w' := by
  cases hb : fN n with
  | false =>
    have HV := Lib.hid (stV_bad hb)
    unfold fN at hb
    have H1 := Lib.hid hb; clear hb
    go_enter Try.func40, Try.ntmps40
    go_wp2_with fail
    refine (isWithin_is false _ _ _ _ H1.out).mono ?_
    rintro e w1 ⟨rfl, rfl⟩
    go_wp2_with fail
    go_ret2
    exact ⟨by rw [HV.out]; rfl, Below.refl _ _⟩
  | true =>
    obtain ⟨N, rfl, h1, h9⟩ := fN_open hb
    have HV := Lib.hid (stV_ok hb)
    have HC := Lib.hid (fun W => climbBy_any W N (by omega))
    have hfd := fld_step
    unfold fN at hb
    have H1 := Lib.hid hb; clear hb
    go_enter Try.func40, Try.ntmps40
    go_wp2_with fail
    refine (isWithin_is true _ _ _ _ H1.out).mono ?_
    rintro e w1 ⟨rfl, rfl⟩
    go_wp2_with fail
    refine (HC.out w).mono ?_
    rintro e w2 ⟨mb, rfl, _, _, h2⟩
    have B2 := Lib.hid h2; clear h2
    go_wp2_with fail
    go_ret2
    exact ⟨by rw [HV.out]; rfl, B2.out⟩

def iN (n : Int) : Bool := decide (1 ≤ n ∧ n ≤ 100000)
def iV (n : Int) : Bool := iN n && (figL 449).contains n.toNat
theorem iN_open {n : Int} (h : iN n = true) : ∃ N : Nat, n = N ∧ 1 ≤ N ∧ N ≤ 100000 := by
  have : 1 ≤ n ∧ n ≤ 100000 := by unfold iN at h; simpa using h
  exact ⟨n.toNat, by omega, by omega, by omega⟩
theorem iV_bad {n : Int} (h : iN n = false) : iV n = false := by unfold iV; rw [h]; rfl
theorem iV_ok {N : Nat} (h : iN (N : Int) = true) : iV N = (figL 449).contains N := by unfold iV; rw [h]; rfl
theorem fig_small {k : Nat} (h : fig k ≤ 100000) : k ≤ 449 := by
  have h1 := fig_big k
  by_cases hk : k ≤ 449
  · exact hk
  · have : 450 * 453 ≤ k * (k + 3) := Nat.mul_le_mul (by omega) (by omega)
    omega
theorem fig_found {k N : Nat} (hN : N ≤ 100000) (hlt : ∀ j, j < k → fig j < N) (hge : N ≤ fig k) : (figL 449).contains N = decide (fig k = N) := by
  rw [Bool.eq_iff_iff]
  simp only [List.contains_eq_mem, decide_eq_true_eq, mem_figL]
  constructor
  · rintro ⟨j, hj, e⟩
    by_cases h1 : j < k
    · have := hlt j h1; omega
    · by_cases h2 : k < j
      · have := fig_lt h2; omega
      · obtain rfl : j = k := by omega
        exact e
  · intro e; exact ⟨k, fig_small (by omega), e⟩

set_option maxHeartbeats 1000000 in
theorem implIsFigure_any (n : Int) (w : World) : Calls Try.prog 43 #[.int .i64 n] w fun e w' => e = .returned (.tuple #[.bool (iV n), .bool (iN n)]) ∧ Below w.heap.size w w' := by
  cases hb : iN n with
  | false =>
    have HV := Lib.hid (iV_bad hb)
    unfold iN at hb
    have H1 := Lib.hid hb; clear hb
    go_enter Try.func43, Try.ntmps43
    go_wp2_with fail
    refine (isWithin_is false _ _ _ _ H1.out).mono ?_
    rintro e w1 ⟨rfl, rfl⟩
    go_wp2_with fail
    go_ret2
    exact ⟨by rw [HV.out]; rfl, Below.refl _ _⟩
  | true =>
    obtain ⟨N, rfl, h1, h9⟩ := iN_open hb
    have HV := Lib.hid (iV_ok hb)
    have HC := Lib.hid (fun W => climbBy_any W 0 (by omega))
    unfold iN at hb
    have H1 := Lib.hid hb; clear hb
    go_enter Try.func43, Try.ntmps43
    go_wp2_with fail
    refine (isWithin_is true _ _ _ _ H1.out).mono ?_
    rintro e w1 ⟨rfl, rfl⟩
    go_wp2_with fail
    refine (HC.out _).mono ?_
    rintro e w2 ⟨mb, rfl, h3, h4, h2⟩
    have B2 := Lib.hid h2; have H3 := Lib.hid h3; clear h2 h3
    go_wp2_with fail
    go_loopw [12] (fun _ wr => ∃ k : Nat, k ≤ 449 ∧ Hid (ClimbAt wr w.heap.size w2.heap.size mb k ∧ (∀ j, j < k → fig j < N) ∧ Below w.heap.size w wr)) (fun _ wr => 1200000 - (intOf ((wr.cell? ⟨w2.heap.size, 0, none⟩).getD undef)).toNat)
    case atStart =>
      obtain ⟨n, D, hO, hn, hA⟩ := H3.out
      exact ⟨0, by omega, ⟨n, D, hn, hA, cAt_new w2 w.heap.size mb n D _ _ hO h4 B2.out.size hO.lt⟩, fun j hj => by omega, B2.out.alloc B2.out.size _⟩
    case round =>
      obtain ⟨k, hk9, HH⟩ := hrel
      obtain ⟨n, D, hn, hA, ⟨hO, _, d0, d1, d2, df⟩⟩ := HH.out.1
      clear hn hA hO df
      have hf9 := fig_le6 (k := k) (by omega)
      obtain ⟨x, hx⟩ : ∃ x, x = fig k := ⟨_, rfl⟩
      rw [← hx] at d0 hf9
      by_cases hlt : x < N
      · have hk2 : k + 1 ≤ 449 := by
          have h1 := fig_big k
          by_cases hk : k = 449
          · subst hk; omega
          · omega
        have HX := Lib.hid hx
        clear hx
        go_wp2_with fail
        refine (next_any wr w.heap.size w2.heap.size mb k HH.out.1 (by omega) HH.out.2.2.size).mono ?_
        rintro e w3 ⟨rfl, hn1, hn2⟩
        have hup : x < fig (k + 1) := by rw [HX.out]; exact fig_lt (by omega)
        have hup9 := fig_le6 (k := k + 1) (by omega)
        have H4 := Lib.hid hn1; have H5 := Lib.hid hn2
        obtain ⟨_, _, _, _, ⟨_, _, dd, _⟩⟩ := hn1
        have HDD := Lib.hid dd; clear hn2 dd
        go_wp2_with fail
        go_roundw
        case rel => exact ⟨k + 1, hk2, H4.out, fun j hj => by
          by_cases hjk : j = k
          · subst hjk; rw [← HX.out]; exact hlt
          · exact HH.out.2.1 j (by omega), HH.out.2.2.trans H5.out⟩
        case measure => rw [HDD.out, d0]; simp [intOf]; omega
      · have he := fig_found (k := k) h9 HH.out.2.1 (by omega)
        rw [← hx] at he
        by_cases hxn : x = N
        · subst hxn
          have HE := Lib.hid he; clear he hx
          go_wp2_with fail
          go_ret2
          exact ⟨by rw [HV.out, HE.out]; simp, HH.out.2.2⟩
        · have e1 : ((x : Int) == (N : Int)) = false := by simp; omega
          rw [show decide (x = N) = false by simp [hxn]] at he
          have HE := Lib.hid he; clear he hx
          go_wp2_with fail
          go_ret2
          exact ⟨by rw [HV.out, HE.out]; rfl, HH.out.2.2⟩
end Go.Proofs.Ytakmmoplepghjaa
