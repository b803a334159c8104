/- GolombSum, GolombLast, NestedTimes: the model's, the program's, and the laws. -/
import Derived.Test.YtakmmoplepghjaaG9
import Derived.Test.YtakmmoplepghjaaG8
namespace Go.Proofs.Ytakmmoplepghjaa
open Go.RowKit Go.BigFrame Go.Maps
set_option linter.unusedSimpArgs false
set_option linter.unusedVariables false
set_option maxRecDepth 4000

theorem allS'_succ (first k : Nat) (h : Nat → Nat) : allS' first (k + 1) h = allS' first k h + h (first + k) := by
  unfold allS'; rw [List.range_succ, List.map_append, List.sum_append]; simp
theorem allS'_le (first : Nat) (h : Nat → Nat) (M : Nat) : ∀ k : Nat, (∀ i, i < k → h (first + i) ≤ M) → allS' first k h ≤ M * k
  | 0, _ => by simp [allS']
  | k + 1, hh => by
    have := allS'_le first h M k (fun i hi => hh i (by omega))
    have h2 := hh k (by omega)
    rw [allS'_succ, Nat.mul_succ]; omega

set_option maxHeartbeats 1000000 in
theorem seSum_any (n : Nat) (w : World) (h1 : 1 ≤ n) (h9 : n ≤ 3000) :
    Calls Try.prog 61 #[.int .i64 n] w fun e w' => e = .returned (.int .i64 (allS' 1 n gol : Nat)) ∧ Below w.heap.size w w' := by
  go_enter Try.func61, Try.ntmps61
  go_wp2_with fail
  refine (seGolomb_any n w h1 h9).mono ?_
  rintro e w2 ⟨v, rfl, HX⟩
  obtain ⟨g, c, rfl, hgB, hgw, hmc, hc9, hce⟩ := seqRow_cells HX.out.1 (by omega)
  have HC := Lib.hid hce; clear hce
  go_wp2_with fail
  go_loop [3, 9] (fun s i => ∃ k s0 : Nat, k ≤ n ∧ s = .int .i64 (s0 : Nat) ∧ s0 ≤ 3000 * k ∧ Hid (s0 = allS' 1 k gol) ∧ i = .int .i64 k) (fun _ i => n - (intOf i).toNat)
  case atStart => exact ⟨0, 0, by omega, rfl, by omega, rfl, rfl⟩
  case round =>
    obtain ⟨k, s0, hk, rfl, hs9, HS, rfl⟩ := hrel
    by_cases hlt : k < n
    · have c1 := HC.out k hlt
      have hx9 := gol_le (k + 1) (by omega)
      obtain ⟨x, hx⟩ : ∃ x, x = gol (k + 1) := ⟨_, rfl⟩
      rw [← hx] at c1 hx9
      have HXX := Lib.hid hx; clear hx
      go_wp2_with fail
      go_round
      case rel => exact ⟨k + 1, s0 + x, by omega, by go_num, by omega, Lib.hid (by rw [allS'_succ, ← HS.out, Nat.add_comm 1 k, HXX.out]), by go_num⟩
      case measure => simp [intOf] <;> omega
    · obtain rfl : k = n := by omega
      go_wp2_with fail
      go_ret
      exact ⟨by rw [← HS.out]; rfl, HX.out.2⟩

def gsV (n : Int) : Int := if gN n = true then (allS' 1 n.toNat gol : Nat) else 0
theorem gsV_bad {n : Int} (h : gN n = false) : gsV n = 0 := by unfold gsV; rw [h]; rfl
theorem gsV_ok {N : Nat} (h : gN (N : Int) = true) : gsV N = (allS' 1 N gol : Nat) := by unfold gsV; rw [h]; rfl

set_option maxHeartbeats 1000000 in
theorem specGolombSum_any (n : Int) (w : World) : Calls Try.prog 14 #[.int .i64 n] w fun e w' => e = .returned (.tuple #[.int .i64 (gsV n), .bool (gN n)]) ∧ Below w.heap.size w w' := by
  cases hb : gN n with
  | false =>
    have HV := Lib.hid (gsV_bad hb); have HN := Lib.hid (fun W => seN_is n W false hb)
    clear hb
    go_enter Try.func14, Try.ntmps14
    go_wp2_with fail
    refine (HN.out _).mono ?_
    rintro e w1 ⟨rfl, rfl⟩
    go_wp2_with fail
    go_ret2
    exact ⟨by rw [HV.out]; rfl, Below.refl _ _⟩
  | true =>
    obtain ⟨N, rfl, h1, h9⟩ := gN_open hb
    have HV := Lib.hid (gsV_ok hb); have HN := Lib.hid (fun W => seN_is N W true hb)
    clear hb
    go_enter Try.func14, Try.ntmps14
    go_wp2_with fail
    refine (HN.out _).mono ?_
    rintro e w1 ⟨rfl, rfl⟩
    go_wp2_with fail
    refine (seSum_any N w (by omega) (by omega)).mono ?_
    rintro e w2 ⟨rfl, hb2⟩
    have B2 := Lib.hid hb2; clear hb2
    go_wp2_with fail
    go_ret2
    exact ⟨by rw [HV.out]; rfl, B2.out⟩

set_option maxHeartbeats 1000000 in
theorem seqSum_nil (w : World) :
    Calls Try.prog 60 #[.map none] w fun e w' => e = .returned (.int .i64 0) ∧ Below w.heap.size w w' := by
  have hrg := run_range_nilMap (P := Try.prog) w 43 3 3 Try.underlying43
  have hnx : ∀ ty, (Instr.next (.pointer (some ⟨w.heap.size, 0, none⟩)) false ty).run Try.prog (w.alloc (.mapIter none 0 #[] 0)) = _ := fun ty => run_next_nilMap _ ty 0 0 #[]
  go_enter Try.func60, Try.ntmps60
  go_wp2
  refine wp_loop_rounds 1 ?_
  rw [rounds_succ]
  go_wp2
  go_ret
  exact ⟨rfl, below_alloc w _⟩

theorem below_twice {w w1 w2 : World} (h1 : Below w.heap.size w w1) (h2 : Below w1.heap.size w1 w2) : Below w.heap.size w w2 := below_trans h1 h2

set_option maxHeartbeats 1000000 in
theorem implGolombSum_any (n : Int) (w : World) (hwf : (Lit.int .i64 n).wf = true) : Calls Try.prog 13 #[.int .i64 n] w fun e w' => e = .returned (.tuple #[.int .i64 (gsV n), .bool (gN n)]) ∧ Below w.heap.size w w' := by
  cases hb : gN n with
  | false =>
    have HV := Lib.hid (gsV_bad hb)
    unfold gN at hb
    have H1 := Lib.hid hb
    clear hb
    go_enter Try.func13, Try.ntmps13
    go_wp2_with fail
    refine (tellUpTo_bad n 1 _ w H1.out).mono ?_
    rintro e w1 ⟨rfl, rfl⟩
    go_wp2_with fail
    refine (seqSum_nil w).mono ?_
    rintro e w2 ⟨rfl, hb2⟩
    have B2 := Lib.hid hb2; clear hb2
    go_wp2_with fail
    go_ret2
    exact ⟨by rw [HV.out]; rfl, B2.out⟩
  | true =>
    obtain ⟨N, rfl, h1, h9⟩ := gN_open hb
    have HV := Lib.hid (gsV_ok hb)
    clear hb
    go_enter Try.func13, Try.ntmps13
    go_wp2_with fail
    refine (tellUpTo_golomb N w (by omega) (by omega)).mono ?_
    rintro e w1 ⟨D, rfl, HX⟩
    go_wp2_with fail
    refine (seqSum_any w1 w.heap.size N 1 N gol D HX.out.1 HX.out.2.1 (fun i hi => by have := gol_le (1 + i) (by omega); omega) (by omega)).mono ?_
    rintro e w2 ⟨rfl, hb2⟩
    have B2 := Lib.hid hb2; clear hb2
    go_wp2_with fail
    go_ret2
    exact ⟨by rw [HV.out]; rfl, below_trans HX.out.2.2 B2.out⟩

set_option maxHeartbeats 1000000 in
theorem specGolombLast_any (n : Int) (w : World) : Calls Try.prog 18 #[.int .i64 n] w fun e w' => e = .returned (.tuple #[.int .i64 (gsV n), .bool (gN n)]) ∧ Below w.heap.size w w' := by
  have H := Lib.hid (fun W => specGolombSum_any n W)
  go_enter Try.func18, Try.ntmps18
  go_wp2_with fail
  refine (H.out _).mono ?_
  rintro e w1 ⟨rfl, h1⟩
  have B1 := Lib.hid h1; clear h1
  go_wp2_with fail
  go_ret2
  exact ⟨rfl, B1.out⟩

set_option maxHeartbeats 1000000 in
theorem implGolombLast_any (n : Int) (w : World) (hwf : (Lit.int .i64 n).wf = true) : Calls Try.prog 17 #[.int .i64 n] w fun e w' => e = .returned (.tuple #[.int .i64 (gsV n), .bool (gN n)]) ∧ Below w.heap.size w w' := by
  have H := Lib.hid (fun W => implGolombSum_any n W hwf)
  go_enter Try.func17, Try.ntmps17
  go_wp2_with fail
  refine (H.out _).mono ?_
  rintro e w1 ⟨rfl, h1⟩
  have B1 := Lib.hid h1; clear h1
  go_wp2_with fail
  go_ret2
  exact ⟨rfl, B1.out⟩

/-! how often a value is in the nested sequence -/
def ntH (v : Nat) (i : Nat) : Nat := if nes i = v then 1 else 0
def ntN (n : Int) : Bool := decide (0 ≤ n ∧ n ≤ 1000)
def ntV (n : Int) : Int := if ntN n = true then (allS' 0 (2 * n.toNat + 1) (ntH n.toNat) : Nat) else 0
theorem ntN_open {n : Int} (h : ntN n = true) : ∃ N : Nat, n = N ∧ N ≤ 1000 := by
  have : 0 ≤ n ∧ n ≤ 1000 := by unfold ntN at h; simpa using h
  exact ⟨n.toNat, by omega, by omega⟩
theorem ntV_bad {n : Int} (h : ntN n = false) : ntV n = 0 := by unfold ntV; rw [h]; rfl
theorem ntV_ok {N : Nat} (h : ntN (N : Int) = true) : ntV N = (allS' 0 (2 * N + 1) (ntH N) : Nat) := by unfold ntV; rw [h]; rfl
theorem nt_more (N : Nat) (hN : N ≤ 1000) : allS' 0 (2 * N + 6) (ntH N) = allS' 0 (2 * N + 1) (ntH N) := by
  have hz : ∀ i, 2 * N < i → i ≤ 3009 → ntH N i = 0 := fun i h1 h2 => by
    have := (nes_in i h2).2
    unfold ntH; rw [if_neg (by omega)]
  have e : ∀ d : Nat, d ≤ 5 → allS' 0 (2 * N + 1 + d) (ntH N) = allS' 0 (2 * N + 1) (ntH N) := by
    intro d
    induction d with
    | zero => intro _; rfl
    | succ d ih =>
      intro hd
      rw [show 2 * N + 1 + (d + 1) = 2 * N + 1 + d + 1 by omega, allS'_succ, ih (by omega), hz _ (by omega) (by omega)]
      rfl
  exact e 5 (by omega)

set_option maxHeartbeats 1000000 in
theorem specNestedTimes_any (n : Int) (w : World) : Calls Try.prog 36 #[.int .i64 n] w fun e w' => e = .returned (.tuple #[.int .i64 (ntV n), .bool (ntN n)]) ∧ Below w.heap.size w w' := by
  cases hb : ntN n with
  | false =>
    have HV := Lib.hid (ntV_bad hb)
    unfold ntN at hb
    have H1 := Lib.hid hb; clear hb
    go_enter Try.func36, Try.ntmps36
    go_wp2_with fail
    refine (l1In_is false _ _ _ _ H1.out).mono ?_
    rintro e w1 ⟨rfl, rfl⟩
    go_wp2_with fail
    go_ret2
    exact ⟨by rw [HV.out]; rfl, Below.refl _ _⟩
  | true =>
    obtain ⟨N, rfl, h9⟩ := ntN_open hb
    have HV := Lib.hid (ntV_ok hb)
    unfold ntN at hb
    have H1 := Lib.hid hb; clear hb
    go_enter Try.func36, Try.ntmps36
    go_wp2_with fail
    refine (l1In_is true _ _ _ _ H1.out).mono ?_
    rintro e w1 ⟨rfl, rfl⟩
    go_wp2_with fail
    refine (seNested_any (2 * N + 5) w (by omega)).mono ?_
    rintro e w2 ⟨v, rfl, HX⟩
    obtain ⟨g, c, rfl, hgB, hgw, hmc, hc9, hce⟩ := seqRow_cells HX.out.1 (by omega)
    have HC := Lib.hid hce; clear hce
    go_wp2_with fail
    go_loop [4, 15] (fun s i => ∃ k s0 : Nat, k ≤ 2 * N + 6 ∧ s = .int .i64 (s0 : Nat) ∧ s0 ≤ k ∧ Hid (s0 = allS' 0 k (ntH N)) ∧ i = .int .i64 k) (fun _ i => 2 * N + 6 - (intOf i).toNat)
    case atStart => exact ⟨0, 0, by omega, rfl, by omega, rfl, rfl⟩
    case round =>
      obtain ⟨k, s0, hk, rfl, hs9, HS, rfl⟩ := hrel
      by_cases hlt : k < 2 * N + 6
      · have c1 := HC.out k (by omega)
        have hx9 := (nes_in k (by omega)).1
        have hst : allS' 0 (k + 1) (ntH N) = s0 + ntH N k := by rw [allS'_succ, ← HS.out, Nat.zero_add]
        unfold ntH at hst
        obtain ⟨x, hx⟩ : ∃ x, x = nes k := ⟨_, rfl⟩
        rw [← hx] at c1 hx9
        simp only [← hx] at hst
        clear hx
        by_cases hxv : x = N
        · subst hxv
          rw [if_pos rfl] at hst
          have HST := Lib.hid hst; clear hst
          go_wp2_with fail
          go_round
          case rel => exact ⟨k + 1, s0 + 1, by omega, by go_num, by omega, Lib.hid (HST.out.symm), by go_num⟩
          case measure => simp [intOf] <;> omega
        · have e1 : ((x : Int) == (N : Int)) = false := by simp; omega
          rw [if_neg hxv] at hst
          have HST := Lib.hid hst; clear hst
          go_wp2_with fail
          go_round
          case rel => exact ⟨k + 1, s0, by omega, by go_num, by omega, Lib.hid (HST.out.symm), by go_num⟩
          case measure => simp [intOf] <;> omega
      · obtain rfl : k = 2 * N + 6 := by omega
        go_wp2_with fail
        go_ret2
        exact ⟨by rw [HV.out, ← nt_more N h9, ← HS.out]; rfl, HX.out.2⟩

set_option maxHeartbeats 1000000 in
theorem implNestedTimes_any (n : Int) (w : World) : Calls Try.prog 35 #[.int .i64 n] w fun e w' => e = .returned (.tuple #[.int .i64 (ntV n), .bool (ntN n)]) ∧ Below w.heap.size w w' := by
  cases hb : ntN n with
  | false =>
    have HV := Lib.hid (ntV_bad hb)
    unfold ntN at hb
    have H1 := Lib.hid hb; clear hb
    go_enter Try.func35, Try.ntmps35
    go_wp2_with fail
    refine (isWithin_is false _ _ _ _ H1.out).mono ?_
    rintro e w1 ⟨rfl, rfl⟩
    go_wp2_with fail
    go_ret2
    exact ⟨by rw [HV.out]; rfl, Below.refl _ _⟩
  | true =>
    obtain ⟨N, rfl, h9⟩ := ntN_open hb
    have HV := Lib.hid (ntV_ok hb)
    unfold ntN at hb
    have H1 := Lib.hid hb; clear hb
    have ht := fun W => tellUpTo_nested (2 * N) W (by omega) (by omega)
    rw [show ((2 * N : Nat) : Int) = 2 * (N : Int) by omega] at ht
    have HT := Lib.hid ht; clear ht
    go_enter Try.func35, Try.ntmps35
    go_wp2_with fail
    refine (isWithin_is true _ _ _ _ H1.out).mono ?_
    rintro e w1 ⟨rfl, rfl⟩
    go_wp2_with fail
    refine (HT.out w).mono ?_
    rintro e w1 ⟨D, rfl, HX⟩
    go_wp2_with fail
    refine (seqTimes_any w1 w.heap.size (2 * N + 1) 0 (2 * N + 1) nes D N HX.out.1 HX.out.2.1 (fun i hi => by have := (nes_in (0 + i) (by omega)).1; omega) (by omega)).mono ?_
    rintro e w2 ⟨rfl, hb2⟩
    have B2 := Lib.hid hb2; clear hb2
    go_wp2_with fail
    go_ret2
    exact ⟨by rw [HV.out]; rfl, below_trans HX.out.2.2 B2.out⟩

end Go.Proofs.Ytakmmoplepghjaa
