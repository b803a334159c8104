/- What is drawn for chapter 1's laws (by tools/genu7.py). -/
import Derived.Test.Ytdlhahigiooddaau5
import Derived.Test.Ytdlhahigiooddaau3
namespace Go.Proofs.Ytdlhahigiooddaa
open Go.RowKit Go.BigFrame Go.Deep
set_option linter.unusedSimpArgs false
set_option linter.unusedVariables false
set_option maxRecDepth 4000

/-- A text is drawn. -/
def TextD (w : World) (e : Ending) (w' : World) : Prop := ∃ t : ByteArray, e = .returned (.string t) ∧ t.size ≤ 402 ∧ Below w.heap.size w w'
/-- A text and a number are drawn. -/
def TextN (w : World) (e : Ending) (w' : World) : Prop := ∃ (t : ByteArray) (x : Int), e = .returned (.tuple #[.string t, .int .i64 x]) ∧ t.size ≤ 402 ∧ (Lit.int .i64 x).wf = true ∧ Below w.heap.size w w'
def Nums2 (w : World) (e : Ending) (w' : World) : Prop := ∃ x y : Int, e = .returned (.tuple #[.int .i64 x, .int .i64 y]) ∧ (Lit.int .i64 x).wf = true ∧ (Lit.int .i64 y).wf = true ∧ Below w.heap.size w w'
def Nums3 (w : World) (e : Ending) (w' : World) : Prop := ∃ x y z : Int, e = .returned (.tuple #[.int .i64 x, .int .i64 y, .int .i64 z]) ∧ (Lit.int .i64 x).wf = true ∧ (Lit.int .i64 y).wf = true ∧ (Lit.int .i64 z).wf = true ∧ Below w.heap.size w w'

set_option maxHeartbeats 1000000 in
theorem drawIsWord_c (w : World) (cv : Value) (ns : List Int) (ha : ArgY w cv ns) :
    Calls Try.prog 54 #[cv] w fun e w' => TextD w e w' := by
  have HP := Lib.hid (wordOf_c w _ w.heap.size 0 9 cv ns ha (cur_new w cv) (by omega) (by omega) (by omega))
  obtain ⟨A, C, rfl, _⟩ := ha
  go_enter Try.func54, Try.ntmps54
  go_wp2_with fail
  refine HP.out.mono ?_
  rintro e w1 ⟨t, rfl, ht, hcu⟩
  have HC := Lib.hid hcu.below
  clear hcu
  go_wp2_with fail
  go_ret
  exact ⟨t, rfl, ht, HC.out⟩

set_option maxHeartbeats 1000000 in
theorem drawSayWord_c (w : World) (cv : Value) (ns : List Int) (ha : ArgY w cv ns) :
    Calls Try.prog 7 #[cv] w fun e w' => TextD w e w' := by
  have HP := Lib.hid (drawIsWord_c w cv ns ha)
  obtain ⟨A, C, rfl, _⟩ := ha
  go_enter Try.func7, Try.ntmps7
  go_wp2_with fail
  refine HP.out.mono ?_
  rintro e w1 ⟨t, rfl, ht, hb⟩
  have HC := Lib.hid hb
  clear hb
  go_wp2_with fail
  go_ret
  exact ⟨t, rfl, ht, HC.out⟩

set_option maxHeartbeats 1000000 in
theorem drawHearWord_c (w : World) (cv : Value) (ns : List Int) (ha : ArgY w cv ns) :
    Calls Try.prog 36 #[cv] w fun e w' => TextD w e w' := by
  have HP := Lib.hid (drawIsWord_c w cv ns ha)
  obtain ⟨A, C, rfl, _⟩ := ha
  go_enter Try.func36, Try.ntmps36
  go_wp2_with fail
  refine HP.out.mono ?_
  rintro e w1 ⟨t, rfl, ht, hb⟩
  have HC := Lib.hid hb
  clear hb
  go_wp2_with fail
  go_ret
  exact ⟨t, rfl, ht, HC.out⟩

set_option maxHeartbeats 1000000 in
theorem drawSayTimes_c (w : World) (cv : Value) (ns : List Int) (ha : ArgY w cv ns) :
    Calls Try.prog 81 #[cv] w fun e w' => TextN w e w' := by
  have HP := Lib.hid (wordOf_c w _ w.heap.size 0 6 cv ns ha (cur_new w cv) (by omega) (by omega) (by omega))
  have HA := Lib.hid ha
  obtain ⟨A, C, rfl, _⟩ := ha
  go_enter Try.func81, Try.ntmps81
  go_wp2_with fail
  refine HP.out.mono ?_
  rintro e w1 ⟨t, rfl, ht, hcu⟩
  have HC := Lib.hid hcu
  clear hcu HP
  go_wp2_with fail
  have hlt := HC.out.lt
  refine (among_c w _ w.heap.size 44 w1.heap.size 10 10 _ ns [0, 1, 2, 3, 5, 8, 12, 20, 21, -1] HA.out (HC.out.later (below_alloc _ _)) (by omega) rfl (by omega) (by omega) (by omega) (by omega) (by omega) (by simp) (lit_cellsW w1 _ _)).mono ?_
  rintro e w2 ⟨x2, hx, rfl, hcu, hg⟩
  have HC2 := Lib.hid hcu
  have HW2 : Hid ((Lit.int .i64 x2).wf = true) := by
    simp only [List.mem_cons, List.not_mem_nil, or_false] at hx
    exact Lib.hid (WalkArith.wf_i64 (by omega))
  clear hcu hg hx hlt
  go_wp2_with fail
  go_ret2
  exact ⟨t, x2, rfl, ht, HW2.out, HC2.out.below⟩

set_option maxHeartbeats 1000000 in
theorem drawCountDigit_c (w : World) (cv : Value) (ns : List Int) (ha : ArgY w cv ns) :
    Calls Try.prog 34 #[cv] w fun e w' => TextN w e w' := by
  have HP := Lib.hid (wordOf_c w _ w.heap.size 0 12 cv ns ha (cur_new w cv) (by omega) (by omega) (by omega))
  have HA := Lib.hid ha
  obtain ⟨A, C, rfl, _⟩ := ha
  go_enter Try.func34, Try.ntmps34
  go_wp2_with fail
  refine HP.out.mono ?_
  rintro e w1 ⟨t, rfl, ht, hcu⟩
  have HC := Lib.hid hcu
  clear hcu HP
  go_wp2_with fail
  have hlt := HC.out.lt
  refine (among_c w _ w.heap.size 68 w1.heap.size 8 8 _ ns [1, 2, 3, 4, 9, 0, 10, -1] HA.out (HC.out.later (below_alloc _ _)) (by omega) rfl (by omega) (by omega) (by omega) (by omega) (by omega) (by simp) (lit_cellsW w1 _ _)).mono ?_
  rintro e w2 ⟨x2, hx, rfl, hcu, hg⟩
  have HC2 := Lib.hid hcu
  have HW2 : Hid ((Lit.int .i64 x2).wf = true) := by
    simp only [List.mem_cons, List.not_mem_nil, or_false] at hx
    exact Lib.hid (WalkArith.wf_i64 (by omega))
  clear hcu hg hx hlt
  go_wp2_with fail
  go_ret2
  exact ⟨t, x2, rfl, ht, HW2.out, HC2.out.below⟩

set_option maxHeartbeats 400000 in
theorem drawCountWords_c (w : World) (cv : Value) (ns : List Int) (ha : ArgY w cv ns) :
    Calls Try.prog 47 #[cv] w fun e w' => Nums3 w e w' := by
  have HA := Lib.hid ha
  have hcn := cur_new w cv
  obtain ⟨A, C, rfl, _⟩ := ha
  have HC1 := Lib.hid hcn
  clear hcn
  go_enter Try.func47, Try.ntmps47
  go_wp2_with fail
  have hlt := HC1.out.lt
  have hcl := lit_cellsW (w.alloc (.cells #[.slice A ns.length C, .int .i64 0, .int .u64 0] 74)) [1, 2, 3, 4, 6, 18, 0, 19] 3
  rw [World.size_alloc] at hcl
  refine (among_c w _ w.heap.size 0 (w.heap.size + 1) 8 8 _ ns [1, 2, 3, 4, 6, 18, 0, 19] HA.out (HC1.out.later (below_alloc _ _)) (by omega) rfl (by omega) (by omega) (by omega) (by omega) (by omega) (by simp) hcl).mono ?_
  clear hcl
  rintro e w2 ⟨x2, hx, rfl, hcu, hg⟩
  have HC2 := Lib.hid hcu
  have HW2 : Hid ((Lit.int .i64 x2).wf = true) := by
    simp only [List.mem_cons, List.not_mem_nil, or_false] at hx
    exact Lib.hid (WalkArith.wf_i64 (by omega))
  clear hcu hg hx hlt
  go_wp2_with fail
  have hlt := HC2.out.lt
  refine (among_c w _ w.heap.size 2 w2.heap.size 6 6 _ ns [1, 2, 3, 9, 0, 10] HA.out (HC2.out.later (below_alloc _ _)) (by omega) rfl (by omega) (by omega) (by omega) (by omega) (by omega) (by simp) (lit_cellsW w2 _ _)).mono ?_
  rintro e w3 ⟨x3, hx, rfl, hcu, hg⟩
  have HC3 := Lib.hid hcu
  have HW3 : Hid ((Lit.int .i64 x3).wf = true) := by
    simp only [List.mem_cons, List.not_mem_nil, or_false] at hx
    exact Lib.hid (WalkArith.wf_i64 (by omega))
  clear hcu hg hx hlt
  go_wp2_with fail
  have hlt := HC3.out.lt
  refine (among_c w _ w.heap.size 4 w3.heap.size 7 7 _ ns [1, 2, 3, 9, 18, 0, 19] HA.out (HC3.out.later (below_alloc _ _)) (by omega) rfl (by omega) (by omega) (by omega) (by omega) (by omega) (by simp) (lit_cellsW w3 _ _)).mono ?_
  rintro e w4 ⟨x4, hx, rfl, hcu, hg⟩
  have HC4 := Lib.hid hcu
  have HW4 : Hid ((Lit.int .i64 x4).wf = true) := by
    simp only [List.mem_cons, List.not_mem_nil, or_false] at hx
    exact Lib.hid (WalkArith.wf_i64 (by omega))
  clear hcu hg hx hlt
  go_wp2_with fail
  go_ret3
  exact ⟨x2, x3, x4, rfl, HW2.out, HW3.out, HW4.out, HC4.out.below⟩

set_option maxHeartbeats 400000 in
theorem drawCountHeard_c (w : World) (cv : Value) (ns : List Int) (ha : ArgY w cv ns) :
    Calls Try.prog 50 #[cv] w fun e w' => Nums2 w e w' := by
  have HA := Lib.hid ha
  have hcn := cur_new w cv
  obtain ⟨A, C, rfl, _⟩ := ha
  have HC1 := Lib.hid hcn
  clear hcn
  go_enter Try.func50, Try.ntmps50
  go_wp2_with fail
  have hlt := HC1.out.lt
  have hcl := lit_cellsW (w.alloc (.cells #[.slice A ns.length C, .int .i64 0, .int .u64 0] 74)) [1, 2, 3, 4, 6, 18, 0, 19] 3
  rw [World.size_alloc] at hcl
  refine (among_c w _ w.heap.size 0 (w.heap.size + 1) 8 8 _ ns [1, 2, 3, 4, 6, 18, 0, 19] HA.out (HC1.out.later (below_alloc _ _)) (by omega) rfl (by omega) (by omega) (by omega) (by omega) (by omega) (by simp) hcl).mono ?_
  clear hcl
  rintro e w2 ⟨x2, hx, rfl, hcu, hg⟩
  have HC2 := Lib.hid hcu
  have HW2 : Hid ((Lit.int .i64 x2).wf = true) := by
    simp only [List.mem_cons, List.not_mem_nil, or_false] at hx
    exact Lib.hid (WalkArith.wf_i64 (by omega))
  clear hcu hg hx hlt
  go_wp2_with fail
  have hlt := HC2.out.lt
  refine (among_c w _ w.heap.size 2 w2.heap.size 7 7 _ ns [1, 2, 3, 9, 0, 10, -1] HA.out (HC2.out.later (below_alloc _ _)) (by omega) rfl (by omega) (by omega) (by omega) (by omega) (by omega) (by simp) (lit_cellsW w2 _ _)).mono ?_
  rintro e w3 ⟨x3, hx, rfl, hcu, hg⟩
  have HC3 := Lib.hid hcu
  have HW3 : Hid ((Lit.int .i64 x3).wf = true) := by
    simp only [List.mem_cons, List.not_mem_nil, or_false] at hx
    exact Lib.hid (WalkArith.wf_i64 (by omega))
  clear hcu hg hx hlt
  go_wp2_with fail
  go_ret2
  exact ⟨x2, x3, rfl, HW2.out, HW3.out, HC3.out.below⟩

set_option maxHeartbeats 1000000 in
theorem drawWayOfWord_c (w : World) (cv : Value) (ns : List Int) (ha : ArgY w cv ns) :
    Calls Try.prog 38 #[cv] w fun e w' => TextN w e w' := by
  have HP := Lib.hid (drawSayTimes_c w cv ns ha)
  obtain ⟨A, C, rfl, _⟩ := ha
  go_enter Try.func38, Try.ntmps38
  go_wp2_with fail
  refine HP.out.mono ?_
  rintro e w1 ⟨t, x, rfl, ht, hx, hb⟩
  have HC := Lib.hid hb; have HX := Lib.hid hx
  clear hb hx
  go_wp2_with fail
  go_ret2
  exact ⟨t, x, rfl, ht, HX.out, HC.out⟩
end Go.Proofs.Ytdlhahigiooddaa
