/- FigureOf, StepOf, IsFigure: the model's, and the laws. -/
import Derived.Test.YtakmmoplepghjaaF5
namespace Go.Proofs.Ytakmmoplepghjaa
open Go.RowKit Go.BigFrame
set_option linter.unusedSimpArgs false
set_option linter.unusedVariables false
set_option maxRecDepth 4000

set_option maxHeartbeats 1000000 in
theorem specFigureOf_any (n : Int) (w : World) : Calls Try.prog 39 #[.int .i64 n] w fun e w' => e = .returned (.tuple #[.int .i64 (fV n), .bool (fN n)]) ∧ Below w.heap.size w w' := by
  cases hb : fN n with
  | false =>
    have HV := Lib.hid (fV_bad hb)
    unfold fN at hb
    have H1 := Lib.hid hb; clear hb
    go_enter Try.func39, Try.ntmps39
    go_wp2_with fail
    refine (l1In_is false _ _ _ _ H1.out).mono ?_
    rintro e w1 ⟨rfl, rfl⟩
    go_wp2_with fail
    go_ret2
    exact ⟨by rw [HV.out]; rfl, Below.refl _ _⟩
  | true =>
    obtain ⟨N, rfl, h1, h9⟩ := fN_open hb
    have HV := Lib.hid (fV_ok hb)
    unfold fN at hb
    have H1 := Lib.hid hb; clear hb
    go_enter Try.func39, Try.ntmps39
    go_wp2_with fail
    refine (l1In_is true _ _ _ _ H1.out).mono ?_
    rintro e w1 ⟨rfl, rfl⟩
    go_wp2_with fail
    refine (seFigures_any N w h1 h9).mono ?_
    rintro e w2 ⟨fv, sv, rfl, HX⟩
    obtain ⟨g, c, rfl, hgB, hgw, hmc, hc9, hce⟩ := figRow_cells HX.out.1 (by omega)
    obtain ⟨y, hy⟩ : ∃ y, y = N - 1 := ⟨_, rfl⟩
    have c1 := hce y (by omega)
    have hyx : (N : Int) - 1 = (y : Int) := by omega
    have hym : y < N := by omega
    have HY := Lib.hid hy
    clear hce hy
    go_wp2_with fail
    go_ret2
    exact ⟨by rw [HV.out]; rw [← HY.out]; rfl, HX.out.2.2⟩

set_option maxHeartbeats 1000000 in
theorem specStepOf_any (n : Int) (w : World) : Calls Try.prog 41 #[.int .i64 n] w fun e w' => e = .returned (.tuple #[.int .i64 (stV n), .bool (fN n)]) ∧ Below w.heap.size w w' := by
  cases hb : fN n with
  | false =>
    have HV := Lib.hid (stV_bad hb)
    unfold fN at hb
    have H1 := Lib.hid hb; clear hb
    go_enter Try.func41, Try.ntmps41
    go_wp2_with fail
    refine (l1In_is false _ _ _ _ H1.out).mono ?_
    rintro e w1 ⟨rfl, rfl⟩
    go_wp2_with fail
    go_ret2
    exact ⟨by rw [HV.out]; rfl, Below.refl _ _⟩
  | true =>
    obtain ⟨N, rfl, h1, h9⟩ := fN_open hb
    have HV := Lib.hid (stV_ok hb)
    unfold fN at hb
    have H1 := Lib.hid hb; clear hb
    go_enter Try.func41, Try.ntmps41
    go_wp2_with fail
    refine (l1In_is true _ _ _ _ H1.out).mono ?_
    rintro e w1 ⟨rfl, rfl⟩
    go_wp2_with fail
    refine (seFigures_any N w h1 h9).mono ?_
    rintro e w2 ⟨fv, sv, rfl, HX⟩
    obtain ⟨g, c, rfl, hgB, hgw, hmc, hc9, hce⟩ := figRow_cells HX.out.2.1 (by omega)
    obtain ⟨y, hy⟩ : ∃ y, y = N - 1 := ⟨_, rfl⟩
    have c1 := hce y (by omega)
    have hyx : (N : Int) - 1 = (y : Int) := by omega
    have hym : y < N := by omega
    have HY := Lib.hid hy
    clear hce hy
    go_wp2_with fail
    go_ret2
    exact ⟨by rw [HV.out]; rw [show N = y + 1 by have := HY.out; omega]; rfl, HX.out.2.2⟩

set_option maxHeartbeats 1000000 in
theorem specIsFigure_any (n : Int) (w : World) : Calls Try.prog 44 #[.int .i64 n] w fun e w' => e = .returned (.tuple #[.bool (iV n), .bool (iN n)]) ∧ Below w.heap.size w w' := by
  cases hb : iN n with
  | false =>
    have HV := Lib.hid (iV_bad hb)
    unfold iN at hb
    have H1 := Lib.hid hb; clear hb
    go_enter Try.func44, Try.ntmps44
    go_wp2_with fail
    refine (l1In_is false _ _ _ _ H1.out).mono ?_
    rintro e w1 ⟨rfl, rfl⟩
    go_wp2_with fail
    go_ret2
    exact ⟨by rw [HV.out]; rfl, Below.refl _ _⟩
  | true =>
    obtain ⟨N, rfl, h1, h9⟩ := iN_open hb
    have hv := iV_ok hb
    have hh : (fqL fig 450).contains ((N : Nat) : Int) = (figL 449).contains N := by
      rw [figL_has 449 N]; simp [List.contains_eq_mem]
    rw [← hh] at hv
    obtain ⟨bb, hbb⟩ : ∃ bb, bb = (fqL fig 450).contains ((N : Nat) : Int) := ⟨_, rfl⟩
    rw [← hbb] at hv
    have HV := Lib.hid hv; have HBB := Lib.hid hbb.symm
    have HS := Lib.hid (fun W => seFigures_any 450 W (by omega) (by omega))
    unfold iN at hb
    have H1 := Lib.hid hb; clear hb hv hh hbb
    go_enter Try.func44, Try.ntmps44
    go_wp2_with fail
    refine (l1In_is true _ _ _ _ H1.out).mono ?_
    rintro e w1 ⟨rfl, rfl⟩
    go_wp2_with fail
    refine (HS.out w).mono ?_
    rintro e w2 ⟨fv, sv, rfl, HX⟩
    go_wp2_with fail
    refine (l1HasF_any w2 w.heap.size fv (fqL fig 450) (N : Int) (figRow_ints HX.out.1) bb HBB.out).mono ?_
    rintro e w3 ⟨rfl, rfl⟩
    go_wp2_with fail
    go_ret2
    exact ⟨by rw [HV.out]; rfl, HX.out.2.2⟩

end Go.Proofs.Ytakmmoplepghjaa
