/- NestedOf, GolombTimes, BackExcess: the model's, the program's, and the laws. -/
import Derived.Test.YtakmmoplepghjaaG6
namespace Go.Proofs.Ytakmmoplepghjaa
open Go.RowKit Go.BigFrame Go.Maps
set_option linter.unusedSimpArgs false
set_option linter.unusedVariables false
set_option maxRecDepth 4000

def nN (n : Int) : Bool := decide (0 ≤ n ∧ n ≤ 3000)
def nV (n : Int) : Int := if nN n = true then (nes n.toNat : Nat) else 0
theorem nN_open {n : Int} (h : nN n = true) : ∃ N : Nat, n = N ∧ N ≤ 3000 := by
  have : 0 ≤ n ∧ n ≤ 3000 := by unfold nN at h; simpa using h
  exact ⟨n.toNat, by omega, by omega⟩
theorem nV_bad {n : Int} (h : nN n = false) : nV n = 0 := by unfold nV; rw [h]; rfl
theorem nV_ok {N : Nat} (h : nN (N : Int) = true) : nV N = (nes N : Nat) := by unfold nV; rw [h]; rfl

set_option maxHeartbeats 1000000 in
theorem specNestedOf_any (n : Int) (w : World) : Calls Try.prog 31 #[.int .i64 n] w fun e w' => e = .returned (.tuple #[.int .i64 (nV n), .bool (nN n)]) ∧ Below w.heap.size w w' := by
  cases hb : nN n with
  | false =>
    have HV := Lib.hid (nV_bad hb)
    unfold nN at hb
    have H1 := Lib.hid hb; clear hb
    go_enter Try.func31, Try.ntmps31
    go_wp2_with fail
    refine (l1In_is false _ _ _ _ H1.out).mono ?_
    rintro e w1 ⟨rfl, rfl⟩
    go_wp2_with fail
    go_ret2
    exact ⟨by rw [HV.out]; rfl, Below.refl _ _⟩
  | true =>
    obtain ⟨N, rfl, h9⟩ := nN_open hb
    have HV := Lib.hid (nV_ok hb)
    unfold nN at hb
    have H1 := Lib.hid hb; clear hb
    go_enter Try.func31, Try.ntmps31
    go_wp2_with fail
    refine (l1In_is true _ _ _ _ H1.out).mono ?_
    rintro e w1 ⟨rfl, rfl⟩
    go_wp2_with fail
    refine (seNested_any N w (by omega)).mono ?_
    rintro e w2 ⟨v, rfl, HX⟩
    obtain ⟨g, c, rfl, hgB, hgw, hmc, hc9, hce⟩ := seqRow_cells HX.out.1 (by omega)
    have c1 := hce N (by omega)
    clear hce
    go_wp2_with fail
    go_ret2
    exact ⟨by rw [HV.out]; rfl, HX.out.2⟩

set_option maxHeartbeats 1000000 in
theorem implNestedOf_any (n : Int) (w : World) (hwf : (Lit.int .i64 n).wf = true) : Calls Try.prog 30 #[.int .i64 n] w fun e w' => e = .returned (.tuple #[.int .i64 (nV n), .bool (nN n)]) ∧ Below w.heap.size w w' := by
  cases hb : nN n with
  | false =>
    have HV := Lib.hid (nV_bad hb)
    have hnil := Maps.look_nil (w := w) false lawI Try.underlying43 (zeroI w) (keyOf_int_mk Try.underlying3 hwf)
    simp only [Bool.false_eq_true, if_false] at hnil
    unfold nN at hb
    have H1 := Lib.hid hb
    clear hb
    go_enter Try.func30, Try.ntmps30
    go_wp2_with fail
    refine (tellUpTo_bad n 0 _ w H1.out).mono ?_
    rintro e w1 ⟨rfl, rfl⟩
    go_wp2_with fail
    go_ret2
    exact ⟨by rw [HV.out]; rfl, Below.refl _ _⟩
  | true =>
    obtain ⟨N, rfl, h9⟩ := nN_open hb
    have HV := Lib.hid (nV_ok hb)
    clear hb
    go_enter Try.func30, Try.ntmps30
    go_wp2_with fail
    refine (tellUpTo_nested N w (by omega) (by omega)).mono ?_
    rintro e w1 ⟨D, rfl, HX⟩
    go_wp2_with (at_lookup; refine wpList_lookup_own_int _ rfl _ _ 43 rfl 3 3 .i64 lawI Try.underlying43 Try.underlying3 (zeroI _) w.heap.size (N + 1) _ rfl HX.out.1 _ _ rfl (keyOf_int_mk Try.underlying3 (wfI (by omega) (by omega))) ?_; intro c hat hwc; obtain rfl := (HX.out.2.1.at_eq hat N rfl (by omega) (by omega)); clear hat hwc)
    go_ret2
    exact ⟨by rw [HV.out]; rfl, HX.out.2.2⟩

set_option maxHeartbeats 1000000 in
theorem specGolombTimes_any (n : Int) (w : World) : Calls Try.prog 16 #[.int .i64 n] w fun e w' => e = .returned (.tuple #[.int .i64 (sV gol n), .bool (gN n)]) ∧ Below w.heap.size w w' := by
  have H := Lib.hid (fun W => specGolombOf_any n W)
  go_enter Try.func16, Try.ntmps16
  go_wp2_with fail
  refine (H.out _).mono ?_
  rintro e w1 ⟨rfl, h1⟩
  have B1 := Lib.hid h1; clear h1
  go_wp2_with fail
  go_ret2
  exact ⟨rfl, B1.out⟩

set_option maxHeartbeats 1000000 in
theorem implGolombTimes_any (n : Int) (w : World) (hwf : (Lit.int .i64 n).wf = true) : Calls Try.prog 15 #[.int .i64 n] w fun e w' => e = .returned (.tuple #[.int .i64 (sV gol n), .bool (gN n)]) ∧ Below w.heap.size w w' := by
  have H := Lib.hid (fun W => implGolombOf_any n W hwf)
  go_enter Try.func15, Try.ntmps15
  go_wp2_with fail
  refine (H.out _).mono ?_
  rintro e w1 ⟨rfl, h1⟩
  have B1 := Lib.hid h1; clear h1
  go_wp2_with fail
  go_ret2
  exact ⟨rfl, B1.out⟩

def beV (n : Int) : Int := if gN n = true then 2 * (bac n.toNat : Nat) - n else 0
theorem beV_bad {n : Int} (h : gN n = false) : beV n = 0 := by unfold beV; rw [h]; rfl
theorem beV_ok {N : Nat} (h : gN (N : Int) = true) : beV N = 2 * (bac N : Nat) - (N : Int) := by unfold beV; rw [h]; rfl

set_option maxHeartbeats 1000000 in
theorem specBackExcess_any (n : Int) (w : World) : Calls Try.prog 28 #[.int .i64 n] w fun e w' => e = .returned (.tuple #[.int .i64 (beV n), .bool (gN n)]) ∧ Below w.heap.size w w' := by
  cases hb : gN n with
  | false =>
    have HV := Lib.hid (beV_bad hb); have HN := Lib.hid (fun W => seN_is n W false hb)
    clear hb
    go_enter Try.func28, Try.ntmps28
    go_wp2_with fail
    refine (HN.out _).mono ?_
    rintro e w1 ⟨rfl, rfl⟩
    go_wp2_with fail
    go_ret2
    exact ⟨by rw [HV.out]; rfl, Below.refl _ _⟩
  | true =>
    obtain ⟨N, rfl, h1, h9⟩ := gN_open hb
    have HV := Lib.hid (beV_ok hb); have HN := Lib.hid (fun W => seN_is N W true hb)
    have hbl := (bac_in N (by omega)).2.2
    obtain ⟨x, hx⟩ : ∃ x, x = bac N := ⟨_, rfl⟩
    rw [← hx] at hbl HV
    have HXX := Lib.hid hx
    clear hb hx
    go_enter Try.func28, Try.ntmps28
    go_wp2_with fail
    refine (HN.out _).mono ?_
    rintro e w1 ⟨rfl, rfl⟩
    go_wp2_with fail
    refine (seBack_any N w (by omega) (by omega)).mono ?_
    rintro e w2 ⟨m, v, rfl, hm1, hm2, HX⟩
    obtain ⟨g, c, rfl, hgB, hgw, hmc, hc9, hce⟩ := seqRow_cells HX.out.1 (by omega)
    have c1 := hce N (by omega)
    rw [← HXX.out] at c1
    clear hce
    go_wp2_with fail
    go_ret2
    exact ⟨by rw [HV.out]; rfl, HX.out.2⟩

set_option maxHeartbeats 1000000 in
theorem implBackExcess_any (n : Int) (w : World) (hwf : (Lit.int .i64 n).wf = true) : Calls Try.prog 27 #[.int .i64 n] w fun e w' => e = .returned (.tuple #[.int .i64 (beV n), .bool (gN n)]) ∧ Below w.heap.size w w' := by
  have h := fun W => implBackOf_any n W hwf
  cases hb : gN n with
  | false =>
    have HV := Lib.hid (beV_bad hb)
    rw [hb, sV_bad hb] at h
    have H := Lib.hid h; clear h hb
    go_enter Try.func27, Try.ntmps27
    go_wp2_with fail
    refine (H.out _).mono ?_
    rintro e w1 ⟨rfl, h1⟩
    have B1 := Lib.hid h1; clear h1
    go_wp2_with fail
    go_ret2
    exact ⟨by rw [HV.out]; rfl, B1.out⟩
  | true =>
    obtain ⟨N, rfl, h1, h9⟩ := gN_open hb
    have HV := Lib.hid (beV_ok hb)
    have hbl := (bac_in N (by omega)).2.2
    rw [hb, sV_ok hb] at h
    obtain ⟨x, hx⟩ : ∃ x, x = bac N := ⟨_, rfl⟩
    rw [← hx] at hbl HV h
    have H := Lib.hid h; clear h hb hx
    go_enter Try.func27, Try.ntmps27
    go_wp2_with fail
    refine (H.out _).mono ?_
    rintro e w1 ⟨rfl, h1⟩
    have B1 := Lib.hid h1; clear h1
    go_wp2_with fail
    go_ret2
    exact ⟨by rw [HV.out]; rfl, B1.out⟩

end Go.Proofs.Ytakmmoplepghjaa
