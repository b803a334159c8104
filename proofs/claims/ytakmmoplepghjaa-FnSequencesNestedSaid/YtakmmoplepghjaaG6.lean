/- The numbers of the sequences: the model's, the program's, and the laws. -/
import Derived.Test.YtakmmoplepghjaaG5
namespace Go.Proofs.Ytakmmoplepghjaa
open Go.RowKit Go.BigFrame Go.Maps
set_option linter.unusedSimpArgs false
set_option linter.unusedVariables false
set_option maxRecDepth 4000

def gN (n : Int) : Bool := decide (1 ≤ n ∧ n ≤ 3000)
def sV (f : Nat → Nat) (n : Int) : Int := if gN n = true then (f n.toNat : Nat) else 0
theorem gN_open {n : Int} (h : gN n = true) : ∃ N : Nat, n = N ∧ 1 ≤ N ∧ N ≤ 3000 := by
  have : 1 ≤ n ∧ n ≤ 3000 := by unfold gN at h; simpa using h
  exact ⟨n.toNat, by omega, by omega, by omega⟩
theorem sV_bad {f : Nat → Nat} {n : Int} (h : gN n = false) : sV f n = 0 := by unfold sV; rw [h]; rfl
theorem sV_ok {f : Nat → Nat} {N : Nat} (h : gN (N : Int) = true) : sV f N = (f N : Nat) := by unfold sV; rw [h]; rfl

theorem seN_is (n : Int) (w : World) (b : Bool) (h : gN n = b) : Calls Try.prog 58 #[.int .i64 n] w fun e w' => e = .returned (.bool b) ∧ w = w' := by
  unfold gN at h
  have H := Lib.hid h; clear h
  go_enter Try.func58, Try.ntmps58
  go_wp2_with fail
  refine (l1In_is b _ _ _ _ H.out).mono ?_
  rintro e w1 ⟨rfl, rfl⟩
  go_wp2_with fail
  go_ret
  exact ⟨rfl, rfl⟩

set_option maxHeartbeats 1000000 in
theorem specGolombOf_any (n : Int) (w : World) : Calls Try.prog 12 #[.int .i64 n] w fun e w' => e = .returned (.tuple #[.int .i64 (sV gol n), .bool (gN n)]) ∧ Below w.heap.size w w' := by
  cases hb : gN n with
  | false =>
    have HV := Lib.hid (sV_bad (f := gol) hb); have HN := Lib.hid (fun W => seN_is n W false hb)
    clear hb
    go_enter Try.func12, Try.ntmps12
    go_wp2_with fail
    refine (HN.out _).mono ?_
    rintro e w1 ⟨rfl, rfl⟩
    go_wp2_with fail
    go_ret2
    exact ⟨by rw [HV.out]; rfl, Below.refl _ _⟩
  | true =>
    obtain ⟨N, rfl, h1, h9⟩ := gN_open hb
    have HV := Lib.hid (sV_ok (f := gol) hb); have HN := Lib.hid (fun W => seN_is N W true hb)
    clear hb
    go_enter Try.func12, Try.ntmps12
    go_wp2_with fail
    refine (HN.out _).mono ?_
    rintro e w1 ⟨rfl, rfl⟩
    go_wp2_with fail
    refine (seGolomb_any N w (by omega) (by omega)).mono ?_
    rintro e w2 ⟨v, rfl, HX⟩
    obtain ⟨g, c, rfl, hgB, hgw, hmc, hc9, hce⟩ := seqRow_cells HX.out.1 (by omega)
    obtain ⟨y, hy⟩ : ∃ y, y = N - 1 := ⟨_, rfl⟩
    have c1 : w2.cell? ⟨g, y, none⟩ = some (.int .i64 (gol N : Nat)) := by rw [hce y (by omega), show y + 1 = N by omega]
    have hyx : (N : Int) - 1 = (y : Int) := by omega
    have hym : y < N := by omega
    clear hce hy
    go_wp2_with fail
    go_ret2
    exact ⟨by rw [HV.out]; rfl, HX.out.2⟩

set_option maxHeartbeats 1000000 in
theorem implGolombOf_any (n : Int) (w : World) (hwf : (Lit.int .i64 n).wf = true) : Calls Try.prog 11 #[.int .i64 n] w fun e w' => e = .returned (.tuple #[.int .i64 (sV gol n), .bool (gN n)]) ∧ Below w.heap.size w w' := by
  cases hb : gN n with
  | false =>
    have HV := Lib.hid (sV_bad (f := gol) hb)
    have hnil := Maps.look_nil (w := w) false lawI Try.underlying43 (zeroI w) (keyOf_int_mk Try.underlying3 hwf)
    simp only [Bool.false_eq_true, if_false] at hnil
    unfold gN at hb
    have H1 := Lib.hid hb
    clear hb
    go_enter Try.func11, Try.ntmps11
    go_wp2_with fail
    refine (tellUpTo_bad n 1 _ w H1.out).mono ?_
    rintro e w1 ⟨rfl, rfl⟩
    go_wp2_with fail
    go_ret2
    exact ⟨by rw [HV.out]; rfl, Below.refl _ _⟩
  | true =>
    obtain ⟨N, rfl, h1, h9⟩ := gN_open hb
    have HV := Lib.hid (sV_ok (f := gol) hb)
    clear hb
    go_enter Try.func11, Try.ntmps11
    go_wp2_with fail
    refine (tellUpTo_golomb N w (by omega) (by omega)).mono ?_
    rintro e w1 ⟨D, rfl, HX⟩
    go_wp2_with (at_lookup; refine wpList_lookup_own_int _ rfl _ _ 43 rfl 3 3 .i64 lawI Try.underlying43 Try.underlying3 (zeroI _) w.heap.size N _ rfl HX.out.1 _ _ rfl (keyOf_int_mk Try.underlying3 (wfI (by omega) (by omega))) ?_; intro c hat hwc; obtain rfl := (HX.out.2.1.at_eq hat N rfl (by omega) (by omega)); clear hat hwc)
    go_ret2
    exact ⟨by rw [HV.out]; rfl, HX.out.2.2⟩

set_option maxHeartbeats 1000000 in
theorem specBackOf_any (n : Int) (w : World) : Calls Try.prog 25 #[.int .i64 n] w fun e w' => e = .returned (.tuple #[.int .i64 (sV bac n), .bool (gN n)]) ∧ Below w.heap.size w w' := by
  cases hb : gN n with
  | false =>
    have HV := Lib.hid (sV_bad (f := bac) hb); have HN := Lib.hid (fun W => seN_is n W false hb)
    clear hb
    go_enter Try.func25, Try.ntmps25
    go_wp2_with fail
    refine (HN.out _).mono ?_
    rintro e w1 ⟨rfl, rfl⟩
    go_wp2_with fail
    go_ret2
    exact ⟨by rw [HV.out]; rfl, Below.refl _ _⟩
  | true =>
    obtain ⟨N, rfl, h1, h9⟩ := gN_open hb
    have HV := Lib.hid (sV_ok (f := bac) hb); have HN := Lib.hid (fun W => seN_is N W true hb)
    clear hb
    go_enter Try.func25, Try.ntmps25
    go_wp2_with fail
    refine (HN.out _).mono ?_
    rintro e w1 ⟨rfl, rfl⟩
    go_wp2_with fail
    refine (seBack_any N w (by omega) (by omega)).mono ?_
    rintro e w2 ⟨m, v, rfl, hm1, hm2, HX⟩
    obtain ⟨g, c, rfl, hgB, hgw, hmc, hc9, hce⟩ := seqRow_cells HX.out.1 (by omega)
    have c1 := hce N (by omega)
    clear hce
    go_wp2_with fail
    go_ret2
    exact ⟨by rw [HV.out]; rfl, HX.out.2⟩

set_option maxHeartbeats 1000000 in
theorem implBackOf_any (n : Int) (w : World) (hwf : (Lit.int .i64 n).wf = true) : Calls Try.prog 24 #[.int .i64 n] w fun e w' => e = .returned (.tuple #[.int .i64 (sV bac n), .bool (gN n)]) ∧ Below w.heap.size w w' := by
  cases hb : gN n with
  | false =>
    have HV := Lib.hid (sV_bad (f := bac) hb)
    have hnil := Maps.look_nil (w := w) false lawI Try.underlying43 (zeroI w) (keyOf_int_mk Try.underlying3 hwf)
    simp only [Bool.false_eq_true, if_false] at hnil
    unfold gN at hb
    have H1 := Lib.hid hb
    clear hb
    go_enter Try.func24, Try.ntmps24
    go_wp2_with fail
    refine (tellUpTo_bad n 1 _ w H1.out).mono ?_
    rintro e w1 ⟨rfl, rfl⟩
    go_wp2_with fail
    go_ret2
    exact ⟨by rw [HV.out]; rfl, Below.refl _ _⟩
  | true =>
    obtain ⟨N, rfl, h1, h9⟩ := gN_open hb
    have HV := Lib.hid (sV_ok (f := bac) hb)
    clear hb
    go_enter Try.func24, Try.ntmps24
    go_wp2_with fail
    refine (tellUpTo_back N w (by omega) (by omega)).mono ?_
    rintro e w1 ⟨D, rfl, HX⟩
    go_wp2_with (at_lookup; refine wpList_lookup_own_int _ rfl _ _ 43 rfl 3 3 .i64 lawI Try.underlying43 Try.underlying3 (zeroI _) w.heap.size N _ rfl HX.out.1 _ _ rfl (keyOf_int_mk Try.underlying3 (wfI (by omega) (by omega))) ?_; intro c hat hwc; obtain rfl := (HX.out.2.1.at_eq hat N rfl (by omega) (by omega)); clear hat hwc)
    go_ret2
    exact ⟨by rw [HV.out]; rfl, HX.out.2.2⟩

set_option maxHeartbeats 1000000 in
theorem implWildOf_any (n : Int) (w : World) (hwf : (Lit.int .i64 n).wf = true) : Calls Try.prog 32 #[.int .i64 n] w fun e w' => e = .returned (.tuple #[.int .i64 (sV wil n), .bool (gN n)]) ∧ Below w.heap.size w w' := by
  cases hb : gN n with
  | false =>
    have HV := Lib.hid (sV_bad (f := wil) hb)
    have hnil := Maps.look_nil (w := w) false lawI Try.underlying43 (zeroI w) (keyOf_int_mk Try.underlying3 hwf)
    simp only [Bool.false_eq_true, if_false] at hnil
    unfold gN at hb
    have H1 := Lib.hid hb
    clear hb
    go_enter Try.func32, Try.ntmps32
    go_wp2_with fail
    refine (tellUpTo_bad n 1 _ w H1.out).mono ?_
    rintro e w1 ⟨rfl, rfl⟩
    go_wp2_with fail
    go_ret2
    exact ⟨by rw [HV.out]; rfl, Below.refl _ _⟩
  | true =>
    obtain ⟨N, rfl, h1, h9⟩ := gN_open hb
    have HV := Lib.hid (sV_ok (f := wil) hb)
    clear hb
    go_enter Try.func32, Try.ntmps32
    go_wp2_with fail
    refine (tellUpTo_wild N w (by omega) (by omega)).mono ?_
    rintro e w1 ⟨D, rfl, HX⟩
    go_wp2_with (at_lookup; refine wpList_lookup_own_int _ rfl _ _ 43 rfl 3 3 .i64 lawI Try.underlying43 Try.underlying3 (zeroI _) w.heap.size N _ rfl HX.out.1 _ _ rfl (keyOf_int_mk Try.underlying3 (wfI (by omega) (by omega))) ?_; intro c hat hwc; obtain rfl := (HX.out.2.1.at_eq hat N rfl (by omega) (by omega)); clear hat hwc)
    go_ret2
    exact ⟨by rw [HV.out]; rfl, HX.out.2.2⟩

end Go.Proofs.Ytakmmoplepghjaa
