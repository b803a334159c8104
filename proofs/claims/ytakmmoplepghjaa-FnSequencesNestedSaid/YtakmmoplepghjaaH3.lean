/- HalvedOf and HalvedPair: the model's, the program's, and the laws. -/
import Derived.Test.YtakmmoplepghjaaH2
namespace Go.Proofs.Ytakmmoplepghjaa
open Go.RowKit Go.BigFrame
set_option linter.unusedSimpArgs false
set_option linter.unusedVariables false
set_option maxRecDepth 4000

def hvB (n : Int) : Bool := decide (0 ≤ n ∧ n ≤ 1000000000)
def hvV (n : Int) : Int := if hvB n = true then ((halv n.toNat).1 : Nat) else 0

set_option maxHeartbeats 1000000 in
theorem specHalvedOf_any (n : Int) (w : World) : Calls Try.prog 49 #[.int .i64 n] w fun e w' => e = .returned (.tuple #[.int .i64 (hvV n), .bool (hvB n)]) ∧ Below w.heap.size w w' := by
  cases hb : hvB n with
  | false =>
    have hV : hvV n = 0 := by unfold hvV; rw [hb]; rfl
    unfold hvB at hb
    have H1 := Lib.hid hb; have HV := Lib.hid hV
    clear hb hV
    go_enter Try.func49, Try.ntmps49
    go_wp2_with fail
    refine (l1In_is false _ _ _ _ H1.out).mono ?_
    rintro e w1 ⟨rfl, rfl⟩
    go_wp2_with fail
    go_ret2
    exact ⟨by rw [HV.out]; rfl, Below.refl _ _⟩
  | true =>
    obtain ⟨h0, h9⟩ : 0 ≤ n ∧ n ≤ 1000000000 := by unfold hvB at hb; simpa using hb
    obtain ⟨N, rfl⟩ : ∃ N : Nat, n = N := ⟨n.toNat, by omega⟩
    have hV : hvV (N : Int) = ((halv N).1 : Nat) := by unfold hvV; rw [hb]; rfl
    unfold hvB at hb
    have H1 := Lib.hid hb; have HV := Lib.hid hV; have HS := Lib.hid (fun W => seHalved_is N (by omega) W)
    clear hb hV
    go_enter Try.func49, Try.ntmps49
    go_wp2_with fail
    refine (l1In_is true _ _ _ _ H1.out).mono ?_
    rintro e w1 ⟨rfl, rfl⟩
    go_wp2_with fail
    refine (HS.out _).mono ?_
    rintro e w1 ⟨rfl, rfl⟩
    go_wp2_with fail
    go_ret2
    exact ⟨by rw [HV.out]; rfl, Below.refl _ _⟩

set_option maxHeartbeats 1000000 in
theorem implHalvedOf_any (n : Int) (w : World) : Calls Try.prog 48 #[.int .i64 n] w fun e w' => e = .returned (.tuple #[.int .i64 (hvV n), .bool (hvB n)]) ∧ Below w.heap.size w w' := by
  cases hb : hvB n with
  | false =>
    have hV : hvV n = 0 := by unfold hvV; rw [hb]; rfl
    unfold hvB at hb
    have H1 := Lib.hid hb; have HV := Lib.hid hV
    clear hb hV
    go_enter Try.func48, Try.ntmps48
    go_wp2_with fail
    refine (isWithin_is false _ _ _ _ H1.out).mono ?_
    rintro e w1 ⟨rfl, rfl⟩
    go_wp2_with fail
    go_ret2
    exact ⟨by rw [HV.out]; rfl, Below.refl _ _⟩
  | true =>
    obtain ⟨h0, h9⟩ : 0 ≤ n ∧ n ≤ 1000000000 := by unfold hvB at hb; simpa using hb
    obtain ⟨N, rfl⟩ : ∃ N : Nat, n = N := ⟨n.toNat, by omega⟩
    have hV : hvV (N : Int) = ((halv N).1 : Nat) := by unfold hvV; rw [hb]; rfl
    unfold hvB at hb
    have H1 := Lib.hid hb; have HV := Lib.hid hV; have HS := Lib.hid (fun W => halvedFrom_is N (by omega) W)
    clear hb hV
    go_enter Try.func48, Try.ntmps48
    go_wp2_with fail
    refine (isWithin_is true _ _ _ _ H1.out).mono ?_
    rintro e w1 ⟨rfl, rfl⟩
    go_wp2_with fail
    refine (HS.out _).mono ?_
    rintro e w1 ⟨rfl, rfl⟩
    go_wp2_with fail
    go_ret2
    exact ⟨by rw [HV.out]; rfl, Below.refl _ _⟩

def hpB (n : Int) : Bool := decide (1 ≤ n ∧ n ≤ 1000000000)
def hpV (n : Int) : Int := if hpB n = true then ((halv n.toNat).1 : Nat) else 0
def hpU (n : Int) : Int := if hpB n = true then ((halv n.toNat).2 : Nat) else 0

set_option maxHeartbeats 1000000 in
theorem specHalvedPair_any (n : Int) (w : World) : Calls Try.prog 47 #[.int .i64 n] w fun e w' => e = .returned (.tuple #[.int .i64 (hpV n), .int .i64 (hpU n), .bool (hpB n)]) ∧ Below w.heap.size w w' := by
  cases hb : hpB n with
  | false =>
    have hV : hpV n = 0 := by unfold hpV; rw [hb]; rfl
    have hU : hpU n = 0 := by unfold hpU; rw [hb]; rfl
    unfold hpB at hb
    have H1 := Lib.hid hb; have HV := Lib.hid hV; have HU := Lib.hid hU
    clear hb hV hU
    go_enter Try.func47, Try.ntmps47
    go_wp2_with fail
    refine (l1In_is false _ _ _ _ H1.out).mono ?_
    rintro e w1 ⟨rfl, rfl⟩
    go_wp2_with fail
    go_ret3
    exact ⟨by rw [HV.out, HU.out]; rfl, Below.refl _ _⟩
  | true =>
    obtain ⟨h0, h9⟩ : 1 ≤ n ∧ n ≤ 1000000000 := by unfold hpB at hb; simpa using hb
    obtain ⟨N, rfl⟩ : ∃ N : Nat, n = N := ⟨n.toNat, by omega⟩
    have hV : hpV (N : Int) = ((halv N).1 : Nat) := by unfold hpV; rw [hb]; rfl
    have hU : hpU (N : Int) = ((halv N).2 : Nat) := by unfold hpU; rw [hb]; rfl
    unfold hpB at hb
    have H1 := Lib.hid hb; have HV := Lib.hid hV; have HU := Lib.hid hU; have HS := Lib.hid (fun W => seHalved_is N (by omega) W)
    clear hb hV hU
    go_enter Try.func47, Try.ntmps47
    go_wp2_with fail
    refine (l1In_is true _ _ _ _ H1.out).mono ?_
    rintro e w1 ⟨rfl, rfl⟩
    go_wp2_with fail
    refine (HS.out _).mono ?_
    rintro e w1 ⟨rfl, rfl⟩
    go_wp2_with fail
    go_ret3
    exact ⟨by rw [HV.out, HU.out]; rfl, Below.refl _ _⟩

set_option maxHeartbeats 1000000 in
theorem implHalvedPair_any (n : Int) (w : World) : Calls Try.prog 46 #[.int .i64 n] w fun e w' => e = .returned (.tuple #[.int .i64 (hpV n), .int .i64 (hpU n), .bool (hpB n)]) ∧ Below w.heap.size w w' := by
  cases hb : hpB n with
  | false =>
    have hV : hpV n = 0 := by unfold hpV; rw [hb]; rfl
    have hU : hpU n = 0 := by unfold hpU; rw [hb]; rfl
    unfold hpB at hb
    have H1 := Lib.hid hb; have HV := Lib.hid hV; have HU := Lib.hid hU
    clear hb hV hU
    go_enter Try.func46, Try.ntmps46
    go_wp2_with fail
    refine (isWithin_is false _ _ _ _ H1.out).mono ?_
    rintro e w1 ⟨rfl, rfl⟩
    go_wp2_with fail
    go_ret3
    exact ⟨by rw [HV.out, HU.out]; rfl, Below.refl _ _⟩
  | true =>
    obtain ⟨h0, h9⟩ : 1 ≤ n ∧ n ≤ 1000000000 := by unfold hpB at hb; simpa using hb
    obtain ⟨N, rfl⟩ : ∃ N : Nat, n = N := ⟨n.toNat, by omega⟩
    have hV : hpV (N : Int) = ((halv N).1 : Nat) := by unfold hpV; rw [hb]; rfl
    have hU : hpU (N : Int) = ((halv N).2 : Nat) := by unfold hpU; rw [hb]; rfl
    unfold hpB at hb
    have H1 := Lib.hid hb; have HV := Lib.hid hV; have HU := Lib.hid hU; have HS := Lib.hid (fun W => halvedFrom_is N (by omega) W)
    clear hb hV hU
    go_enter Try.func46, Try.ntmps46
    go_wp2_with fail
    refine (isWithin_is true _ _ _ _ H1.out).mono ?_
    rintro e w1 ⟨rfl, rfl⟩
    go_wp2_with fail
    refine (HS.out _).mono ?_
    rintro e w1 ⟨rfl, rfl⟩
    go_wp2_with fail
    go_ret3
    exact ⟨by rw [HV.out, HU.out]; rfl, Below.refl _ _⟩

end Go.Proofs.Ytakmmoplepghjaa
