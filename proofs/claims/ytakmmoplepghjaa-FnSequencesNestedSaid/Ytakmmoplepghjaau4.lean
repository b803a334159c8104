/- Numbers that are drawn of lists. -/
import Derived.Test.Ytakmmoplepghjaau2
import Derived.Test.YtakmmoplepghjaaH1
namespace Go.Proofs.Ytakmmoplepghjaa
open Go.RowKit Go.BigFrame Go.Deep
set_option linter.unusedSimpArgs false
set_option linter.unusedVariables false
set_option maxRecDepth 4000

/-- Cells of a row that has just been laid. -/
theorem lit_cells (w : World) (xs : List Int) (T : TypeId) : ∀ i (h : i < xs.length), (w.alloc (.cells (xs.map (Value.int .i64)).toArray T)).cell? ⟨w.heap.size, i, none⟩ = some (.int .i64 xs[i]) := by
  intro i h
  have hcl := heap_alloc_new w (.cells (xs.map (Value.int .i64)).toArray T)
  simp only [World.cell?, hcl]
  simp [h]

set_option maxHeartbeats 2000000 in
theorem drawNestedTimes_c (w : World) (cv : Value) (ns : List Int) (ha : ArgY w cv ns) :
    Calls Try.prog 34 #[cv] w fun e w' => Drawn w e w' := by
  have HP := Lib.hid (pick_c w _ w.heap.size 0 300 cv ns ha (cur_new w cv) (by omega) (by omega) (by omega))
  have HA := Lib.hid ha
  obtain ⟨A, C, rfl, _⟩ := ha
  go_enter Try.func34, Try.ntmps34
  go_wp2_with fail
  refine HP.out.mono ?_
  rintro e w1 ⟨x, rfl, hx, hcu, hg⟩
  have HC := Lib.hid hcu
  clear hcu hg HP
  have HP := Lib.hid (pick_c w w1 w.heap.size 2 300 _ ns HA.out HC.out (by omega) (by omega) (by omega))
  go_wp2_with fail
  refine HP.out.mono ?_
  rintro e w2 ⟨y, rfl, hy, hcu, hg⟩
  have HC2 := Lib.hid hcu
  clear hcu hg HP
  have hlt := HC2.out.lt
  go_wp2_with fail
  refine (among_c w _ w.heap.size 4 w2.heap.size 10 10 _ ns [0, 1, 2, 3, 5, 1000, 1001, -1, (x : Int), (y : Int)] HA.out (HC2.out.later (below_alloc _ _)) (by omega) rfl (by omega) (by omega) (by omega) (by omega) (by omega) (by simp) (lit_cells w2 _ _)).mono ?_
  rintro e w3 ⟨v, hv, rfl, hcu, hg⟩
  have HC3 := Lib.hid hcu.below
  have HW : Hid ((Lit.int .i64 v).wf = true) := by
    simp only [List.mem_cons, List.not_mem_nil, or_false] at hv
    exact Lib.hid (WalkArith.wf_i64 (by omega))
  clear hcu hg hv
  go_wp2_with fail
  go_ret
  exact ⟨v, rfl, HW.out, HC3.out⟩

set_option maxHeartbeats 2000000 in
theorem drawFigureOf_c (w : World) (cv : Value) (ns : List Int) (ha : ArgY w cv ns) :
    Calls Try.prog 37 #[cv] w fun e w' => Drawn w e w' := by
  have HP := Lib.hid (pick_c w _ w.heap.size 0 200 cv ns ha (cur_new w cv) (by omega) (by omega) (by omega))
  have HA := Lib.hid ha
  obtain ⟨A, C, rfl, _⟩ := ha
  go_enter Try.func37, Try.ntmps37
  go_wp2_with fail
  refine HP.out.mono ?_
  rintro e w1 ⟨x, rfl, hx, hcu, hg⟩
  have HC := Lib.hid hcu
  clear hcu hg HP
  have HP := Lib.hid (pick_c w w1 w.heap.size 2 200 _ ns HA.out HC.out (by omega) (by omega) (by omega))
  go_wp2_with fail
  refine HP.out.mono ?_
  rintro e w2 ⟨y, rfl, hy, hcu, hg⟩
  have HC2 := Lib.hid hcu
  clear hcu hg HP
  have hlt := HC2.out.lt
  go_wp2_with fail
  refine (among_c w _ w.heap.size 4 w2.heap.size 10 10 _ ns [1, 2, 3, 10, 1000, 1001, 0, -1, 1 + (x : Int), 1 + (y : Int)] HA.out (HC2.out.later (below_alloc _ _)) (by omega) rfl (by omega) (by omega) (by omega) (by omega) (by omega) (by simp) (lit_cells w2 _ _)).mono ?_
  rintro e w3 ⟨v, hv, rfl, hcu, hg⟩
  have HC3 := Lib.hid hcu.below
  have HW : Hid ((Lit.int .i64 v).wf = true) := by
    simp only [List.mem_cons, List.not_mem_nil, or_false] at hv
    exact Lib.hid (WalkArith.wf_i64 (by omega))
  clear hcu hg hv
  go_wp2_with fail
  go_ret
  exact ⟨v, rfl, HW.out, HC3.out⟩

set_option maxHeartbeats 2000000 in
theorem drawIsFigure_c (w : World) (cv : Value) (ns : List Int) (ha : ArgY w cv ns) :
    Calls Try.prog 42 #[cv] w fun e w' => Drawn w e w' := by
  have HP := Lib.hid (pick_c w _ w.heap.size 0 2000 cv ns ha (cur_new w cv) (by omega) (by omega) (by omega))
  have HA := Lib.hid ha
  obtain ⟨A, C, rfl, _⟩ := ha
  go_enter Try.func42, Try.ntmps42
  go_wp2_with fail
  refine HP.out.mono ?_
  rintro e w1 ⟨x, rfl, hx, hcu, hg⟩
  have HC := Lib.hid hcu
  clear hcu hg HP
  have HP := Lib.hid (pick_c w w1 w.heap.size 2 2000 _ ns HA.out HC.out (by omega) (by omega) (by omega))
  go_wp2_with fail
  refine HP.out.mono ?_
  rintro e w2 ⟨y, rfl, hy, hcu, hg⟩
  have HC2 := Lib.hid hcu
  clear hcu hg HP
  have hlt := HC2.out.lt
  go_wp2_with fail
  refine (among_c w _ w.heap.size 4 w2.heap.size 11 11 _ ns [1, 2, 3, 7, 12, 13, 100000, 100001, 0, 1 + (x : Int), 1 + (y : Int)] HA.out (HC2.out.later (below_alloc _ _)) (by omega) rfl (by omega) (by omega) (by omega) (by omega) (by omega) (by simp) (lit_cells w2 _ _)).mono ?_
  rintro e w3 ⟨v, hv, rfl, hcu, hg⟩
  have HC3 := Lib.hid hcu.below
  have HW : Hid ((Lit.int .i64 v).wf = true) := by
    simp only [List.mem_cons, List.not_mem_nil, or_false] at hv
    exact Lib.hid (WalkArith.wf_i64 (by omega))
  clear hcu hg hv
  go_wp2_with fail
  go_ret
  exact ⟨v, rfl, HW.out, HC3.out⟩

set_option maxHeartbeats 2000000 in
theorem drawHalvedOf_c (w : World) (cv : Value) (ns : List Int) (ha : ArgY w cv ns) :
    Calls Try.prog 79 #[cv] w fun e w' => Drawn w e w' := by
  have HP := Lib.hid (pick_c w _ w.heap.size 0 5000 cv ns ha (cur_new w cv) (by omega) (by omega) (by omega))
  have HA := Lib.hid ha
  obtain ⟨A, C, rfl, _⟩ := ha
  go_enter Try.func79, Try.ntmps79
  go_wp2_with fail
  refine HP.out.mono ?_
  rintro e w1 ⟨x, rfl, hx, hcu, hg⟩
  have HC := Lib.hid hcu
  clear hcu hg HP
  have HP := Lib.hid (pick_c w w1 w.heap.size 2 5000 _ ns HA.out HC.out (by omega) (by omega) (by omega))
  go_wp2_with fail
  refine HP.out.mono ?_
  rintro e w2 ⟨y, rfl, hy, hcu, hg⟩
  have HC2 := Lib.hid hcu
  clear hcu hg HP
  have hlt := HC2.out.lt
  go_wp2_with fail
  refine (among_c w _ w.heap.size 4 w2.heap.size 11 11 _ ns [0, 1, 2, 5, 1023, 1024, 1000000000, 1000000001, -1, (x : Int), (y : Int)] HA.out (HC2.out.later (below_alloc _ _)) (by omega) rfl (by omega) (by omega) (by omega) (by omega) (by omega) (by simp) (lit_cells w2 _ _)).mono ?_
  rintro e w3 ⟨v, hv, rfl, hcu, hg⟩
  have HC3 := Lib.hid hcu.below
  have HW : Hid ((Lit.int .i64 v).wf = true) := by
    simp only [List.mem_cons, List.not_mem_nil, or_false] at hv
    exact Lib.hid (WalkArith.wf_i64 (by omega))
  clear hcu hg hv
  go_wp2_with fail
  go_ret
  exact ⟨v, rfl, HW.out, HC3.out⟩

theorem drawHalvedPair_c (w : World) (cv : Value) (ns : List Int) (ha : ArgY w cv ns) :
    Calls Try.prog 45 #[cv] w fun e w' => Drawn w e w' := by
  have HP := Lib.hid (drawHalvedOf_c w cv ns ha)
  obtain ⟨A, C, rfl, _⟩ := ha
  go_enter Try.func45, Try.ntmps45
  go_wp2_with fail
  refine HP.out.mono ?_
  rintro e w1 ⟨x, rfl, hw, hb⟩
  have HW := Lib.hid hw; have HC := Lib.hid hb
  clear hw hb
  go_wp2_with fail
  go_ret
  exact ⟨x, rfl, HW.out, HC.out⟩
/-- Two numbers are drawn. -/
def Drawn2 (w : World) (e : Ending) (w' : World) : Prop := ∃ x y : Int, e = .returned (.tuple #[.int .i64 x, .int .i64 y]) ∧ Below w.heap.size w w'
set_option maxHeartbeats 4000000 in
theorem drawHalvedRank_c (w : World) (cv : Value) (ns : List Int) (ha : ArgY w cv ns) :
    Calls Try.prog 50 #[cv] w fun e w' => Drawn2 w e w' := by
  have HP := Lib.hid (pick_c w _ w.heap.size 0 6 cv ns ha (cur_new w cv) (by omega) (by omega) (by omega))
  have HA := Lib.hid ha
  obtain ⟨A, C, rfl, _⟩ := ha
  go_enter Try.func50, Try.ntmps50
  go_wp2_with fail
  refine HP.out.mono ?_
  rintro e w1 ⟨x, rfl, hx, hcu, hg⟩
  have HC := Lib.hid hcu
  clear hcu hg HP
  by_cases h0 : x = 0
  · subst h0
    have hlt := HC.out.lt
    go_wp2_with fail
    refine (among_c w _ w.heap.size 2 w1.heap.size 5 5 _ ns [1, 0, 1000, 1001, 4] HA.out (HC.out.later (below_alloc _ _)) (by omega) rfl (by omega) (by omega) (by omega) (by omega) (by omega) (by simp) (lit_cells w1 _ _)).mono ?_
    rintro e w2 ⟨v, hv, rfl, hcu, hg⟩
    have HC2 := Lib.hid hcu
    clear hcu hg hv
    have hlt2 := HC2.out.lt
    go_wp2_with fail
    refine (among_c w _ w.heap.size 4 w2.heap.size 6 6 _ ns [1, 2, 999, 1000, 30, -1] HA.out (HC2.out.later (below_alloc _ _)) (by omega) rfl (by omega) (by omega) (by omega) (by omega) (by omega) (by simp) (lit_cells w2 _ _)).mono ?_
    rintro e w3 ⟨u, hu, rfl, hcu, hg⟩
    have HC3 := Lib.hid hcu.below
    clear hcu hg hu
    go_wp2_with fail
    go_ret2
    exact ⟨v, u, rfl, HC3.out⟩
  · have e0 : ((x : Int) == 0) = false := by rw [beq_eq_false_iff_ne]; omega
    by_cases h1 : x = 1
    · subst h1
      have HP := Lib.hid (pick_c w w1 w.heap.size 2 30 _ ns HA.out HC.out (by omega) (by omega) (by omega))
      go_wp2_with fail
      refine HP.out.mono ?_
      rintro e w2 ⟨a, rfl, ha, hcu, hg⟩
      have HC2 := Lib.hid hcu
      clear hcu hg HP
      have HP := Lib.hid (pick_c w w2 w.heap.size 4 30 _ ns HA.out HC2.out (by omega) (by omega) (by omega))
      go_wp2_with fail
      refine HP.out.mono ?_
      rintro e w3 ⟨b, rfl, hb, hcu, hg⟩
      have HC3 := Lib.hid hcu.below
      clear hcu hg HP
      go_wp2_with fail
      go_ret2
      exact ⟨_, _, rfl, HC3.out⟩
    · have e1 : ((x : Int) == 1) = false := by rw [beq_eq_false_iff_ne]; omega
      have HP := Lib.hid (pick_c w w1 w.heap.size 2 5000 _ ns HA.out HC.out (by omega) (by omega) (by omega))
      go_wp2_with fail
      refine HP.out.mono ?_
      rintro e w2 ⟨a, rfl, ha, hcu, hg⟩
      have HC2 := Lib.hid hcu.below
      clear hcu hg HP
      have hs := fun W => seHalved_is (1 + a) (by omega) W
      rw [show ((1 + a : Nat) : Int) = 1 + (a : Int) by omega] at hs
      have HS := Lib.hid hs
      clear hs
      go_wp2_with fail
      refine (HS.out _).mono ?_
      rintro e w3 ⟨rfl, rfl⟩
      go_wp2_with fail
      go_ret2
      exact ⟨_, _, rfl, HC2.out⟩
end Go.Proofs.Ytakmmoplepghjaa
