/- Places that are drawn. -/
import Derived.Test.Ytakmmoplepghjaau1
namespace Go.Proofs.Ytakmmoplepghjaa
open Go.RowKit Go.BigFrame Go.Deep
set_option linter.unusedSimpArgs false
set_option linter.unusedVariables false
set_option maxRecDepth 4000

/-- A number is drawn: some number of Go's, and nothing else is left of the drawing. -/
def Drawn (w : World) (e : Ending) (w' : World) : Prop := ∃ x : Int, e = .returned (.int .i64 x) ∧ (Lit.int .i64 x).wf = true ∧ Below w.heap.size w w'

set_option maxHeartbeats 4000000 in
theorem place_c (w0 w : World) (g K : Nat) (cv : Value) (ns : List Int) (ha : ArgY w0 cv ns) (hc : Cur w0 w g cv K) (hK : K ≤ 1000000) :
    Calls Try.prog 67 #[.pointer (some ⟨g, 0, none⟩)] w fun e w' => ∃ x : Int, e = .returned (.int .i64 x) ∧ (Lit.int .i64 x).wf = true ∧ Cur w0 w' g cv (K + 4) ∧ w.grownBy w' (some g) := by
  have HO := Lib.hid (one_c w0 w g K 8 cv ns ha hc (by omega) (by omega) (by omega))
  have HA := Lib.hid ha
  clear hc ha
  go_enter Try.func67, Try.ntmps67
  go_wp2_with fail
  refine HO.out.mono ?_
  rintro e w1 ⟨b, rfl, hcu, hg⟩
  have HG := Lib.hid hg; have HC := Lib.hid hcu
  clear hcu hg
  cases b with
  | true =>
    go_wp2_with fail
    have hlt := HC.out.lt
    refine (among_c w0 _ g (K + 2) w1.heap.size 7 7 cv ns [0, 1, 2, 3000, 3001, -1, 4611686018427387904] HA.out (HC.out.later (below_alloc _ _)) (by omega) rfl (by omega) (by omega) (by omega) (by omega) (by omega) (by simp) ?_).mono ?_
    · intro i hi
      have hcl := heap_alloc_new w1 (.cells #[.int .i64 0, .int .i64 1, .int .i64 2, .int .i64 3000, .int .i64 3001, .int .i64 (-1), .int .i64 4611686018427387904] 3)
      simp only [World.cell?, hcl]
      match i, hi with
      | 0, _ => rfl
      | 1, _ => rfl
      | 2, _ => rfl
      | 3, _ => rfl
      | 4, _ => rfl
      | 5, _ => rfl
      | 6, _ => rfl
    rintro e w2 ⟨x, hx, rfl, hcu, hg⟩
    have HG2 := Lib.hid (HG.out.trans ((World.grownBy_alloc w1 _ (some g)).trans hg)); have HC2 := Lib.hid hcu
    have HW : Hid ((Lit.int .i64 x).wf = true) := by
      simp only [List.mem_cons, List.not_mem_nil, or_false] at hx
      rcases hx with rfl | rfl | rfl | rfl | rfl | rfl | rfl <;> exact Lib.hid (by decide)
    clear hcu hg hx
    go_wp2_with fail
    go_ret
    exact ⟨x, rfl, HW.out, HC2.out, HG2.out⟩
  | false =>
    have HP := Lib.hid (pick_c w0 w1 g (K + 2) 300 cv ns HA.out HC.out (by omega) (by omega) (by omega))
    go_wp2_with fail
    refine HP.out.mono ?_
    rintro e w2 ⟨x, rfl, hx, hcu, hg⟩
    have HG2 := Lib.hid (HG.out.trans hg); have HC2 := Lib.hid hcu
    clear hcu hg
    go_wp2_with fail
    go_ret
    exact ⟨1 + (x : Int), rfl, WalkArith.wf_i64 (by omega), HC2.out, HG2.out⟩

/-- A cursor that has just been made. -/
theorem cur_new (w : World) (cv : Value) : Cur w (w.alloc (.cells #[cv, .int .i64 0, .int .u64 0] 56)) w.heap.size cv 0 :=
  ⟨⟨0, 0, Nat.le_refl _, by omega, by omega, heap_alloc_new w _⟩, Nat.le_refl _, below_alloc _ _⟩

set_option maxHeartbeats 1000000 in
theorem drawGolombOf_c (w : World) (cv : Value) (ns : List Int) (ha : ArgY w cv ns) :
    Calls Try.prog 54 #[cv] w fun e w' => Drawn w e w' := by
  have HP := Lib.hid (place_c w _ w.heap.size 0 cv ns ha (cur_new w cv) (by omega))
  obtain ⟨A, C, rfl, _⟩ := ha
  go_enter Try.func54, Try.ntmps54
  go_wp2_with fail
  refine HP.out.mono ?_
  rintro e w1 ⟨x, rfl, hw, hcu, hg⟩
  have HW := Lib.hid hw; have HC := Lib.hid hcu.below
  clear hw hcu hg
  go_wp2_with fail
  go_ret
  exact ⟨x, rfl, HW.out, HC.out⟩
theorem drawGolombList_c (w : World) (cv : Value) (ns : List Int) (ha : ArgY w cv ns) :
    Calls Try.prog 8 #[cv] w fun e w' => Drawn w e w' := by
  have HP := Lib.hid (drawGolombOf_c w cv ns ha)
  obtain ⟨A, C, rfl, _⟩ := ha
  go_enter Try.func8, Try.ntmps8
  go_wp2_with fail
  refine HP.out.mono ?_
  rintro e w1 ⟨x, rfl, hw, hb⟩
  have HW := Lib.hid hw; have HC := Lib.hid hb
  clear hw hb
  go_wp2_with fail
  go_ret
  exact ⟨x, rfl, HW.out, HC.out⟩
theorem drawBackList_c (w : World) (cv : Value) (ns : List Int) (ha : ArgY w cv ns) :
    Calls Try.prog 21 #[cv] w fun e w' => Drawn w e w' := by
  have HP := Lib.hid (drawGolombOf_c w cv ns ha)
  obtain ⟨A, C, rfl, _⟩ := ha
  go_enter Try.func21, Try.ntmps21
  go_wp2_with fail
  refine HP.out.mono ?_
  rintro e w1 ⟨x, rfl, hw, hb⟩
  have HW := Lib.hid hw; have HC := Lib.hid hb
  clear hw hb
  go_wp2_with fail
  go_ret
  exact ⟨x, rfl, HW.out, HC.out⟩
theorem drawNestedOf_c (w : World) (cv : Value) (ns : List Int) (ha : ArgY w cv ns) :
    Calls Try.prog 29 #[cv] w fun e w' => Drawn w e w' := by
  have HP := Lib.hid (drawGolombOf_c w cv ns ha)
  obtain ⟨A, C, rfl, _⟩ := ha
  go_enter Try.func29, Try.ntmps29
  go_wp2_with fail
  refine HP.out.mono ?_
  rintro e w1 ⟨x, rfl, hw, hb⟩
  have HW := Lib.hid hw; have HC := Lib.hid hb
  clear hw hb
  go_wp2_with fail
  go_ret
  exact ⟨x, rfl, HW.out, HC.out⟩
set_option maxHeartbeats 1000000 in
theorem drawBackExcess_c (w : World) (cv : Value) (ns : List Int) (ha : ArgY w cv ns) :
    Calls Try.prog 26 #[cv] w fun e w' => Drawn w e w' := by
  have HO := Lib.hid (one_c w _ w.heap.size 0 3 cv ns ha (cur_new w cv) (by omega) (by omega) (by omega))
  have HA := Lib.hid ha
  obtain ⟨A, C, rfl, _⟩ := ha
  go_enter Try.func26, Try.ntmps26
  go_wp2_with fail
  refine HO.out.mono ?_
  rintro e w1 ⟨b, rfl, hcu, hg⟩
  have HC := Lib.hid hcu
  clear hcu hg
  cases b with
  | true =>
    have HP := Lib.hid (pick_c w w1 w.heap.size 2 12 _ ns HA.out HC.out (by omega) (by omega) (by omega))
    go_wp2_with fail
    refine HP.out.mono ?_
    rintro e w2 ⟨x, rfl, hx, hcu, hg⟩
    have HC2 := Lib.hid hcu
    clear hcu hg
    match x, hx with
    | 0, _ | 1, _ | 2, _ | 3, _ | 4, _ | 5, _ | 6, _ | 7, _ | 8, _ | 9, _ | 10, _ | 11, _ =>
      go_wp2_with fail
      go_ret
      exact ⟨_, rfl, by decide, HC2.out.below⟩
  | false =>
    have HP := Lib.hid (place_c w w1 w.heap.size 2 _ ns HA.out HC.out (by omega))
    go_wp2_with fail
    refine HP.out.mono ?_
    rintro e w2 ⟨x, rfl, hw, hcu, hg⟩
    have HC2 := Lib.hid hcu; have HW := Lib.hid hw
    clear hcu hg hw
    go_wp2_with fail
    go_ret
    exact ⟨x, rfl, HW.out, HC2.out.below⟩
end Go.Proofs.Ytakmmoplepghjaa
