/- What is drawn for chapter 1's laws (by tools/genu7.py). -/
import Derived.Test.Ytmlghonidheidaau5
import Derived.Test.Ytmlghonidheidaau3
namespace Go.Proofs.Ytmlghonidheidaa
open Go.RowKit Go.BigFrame Go.Deep
set_option linter.unusedSimpArgs false
set_option linter.unusedVariables false
set_option maxRecDepth 4000

/-- A text is drawn. -/
def TextD (w : World) (e : Ending) (w' : World) : Prop := ∃ t : ByteArray, e = .returned (.string t) ∧ t.size ≤ 402 ∧ Below w.heap.size w w'
/-- A text and a number are drawn. -/
def TextN (w : World) (e : Ending) (w' : World) : Prop := ∃ (t : ByteArray) (x : Int), e = .returned (.tuple #[.string t, .int .i64 x]) ∧ t.size ≤ 402 ∧ (Lit.int .i64 x).wf = true ∧ Below w.heap.size w w'
def Nums2 (w : World) (e : Ending) (w' : World) : Prop := ∃ x y : Int, e = .returned (.tuple #[.int .i64 x, .int .i64 y]) ∧ (Lit.int .i64 x).wf = true ∧ (Lit.int .i64 y).wf = true ∧ Below w.heap.size w w'
def Nums3 (w : World) (e : Ending) (w' : World) : Prop := ∃ x y z : Int, e = .returned (.tuple #[.int .i64 x, .int .i64 y, .int .i64 z]) ∧ (Lit.int .i64 x).wf = true ∧ (Lit.int .i64 y).wf = true ∧ (Lit.int .i64 z).wf = true ∧ Below w.heap.size w w'

set_option maxHeartbeats 1000000 in
theorem drawIsWord_c (w : World) (cv : Value) (ns : List Int) (ha : ArgY w cv ns) :
    Calls Try.prog 35 #[cv] w fun e w' => TextD w e w' := by
  have HP := Lib.hid (wordOf_c w _ w.heap.size 0 9 cv ns ha (cur_new w cv) (by omega) (by omega) (by omega))
  obtain ⟨A, C, rfl, _⟩ := ha
  go_enter Try.func35, Try.ntmps35
  go_wp2_with fail
  refine HP.out.mono ?_
  rintro e w1 ⟨t, rfl, ht, hcu⟩
  have HC := Lib.hid hcu.below
  clear hcu
  go_wp2_with fail
  go_ret
  exact ⟨t, rfl, ht, HC.out⟩

set_option maxHeartbeats 1000000 in
theorem drawSayWord_c (w : World) (cv : Value) (ns : List Int) (ha : ArgY w cv ns) :
    Calls Try.prog 6 #[cv] w fun e w' => TextD w e w' := by
  have HP := Lib.hid (drawIsWord_c w cv ns ha)
  obtain ⟨A, C, rfl, _⟩ := ha
  go_enter Try.func6, Try.ntmps6
  go_wp2_with fail
  refine HP.out.mono ?_
  rintro e w1 ⟨t, rfl, ht, hb⟩
  have HC := Lib.hid hb
  clear hb
  go_wp2_with fail
  go_ret
  exact ⟨t, rfl, ht, HC.out⟩

set_option maxHeartbeats 1000000 in
theorem drawCountDigit_c (w : World) (cv : Value) (ns : List Int) (ha : ArgY w cv ns) :
    Calls Try.prog 33 #[cv] w fun e w' => TextN w e w' := by
  have HP := Lib.hid (wordOf_c w _ w.heap.size 0 12 cv ns ha (cur_new w cv) (by omega) (by omega) (by omega))
  have HA := Lib.hid ha
  obtain ⟨A, C, rfl, _⟩ := ha
  go_enter Try.func33, Try.ntmps33
  go_wp2_with fail
  refine HP.out.mono ?_
  rintro e w1 ⟨t, rfl, ht, hcu⟩
  have HC := Lib.hid hcu
  clear hcu HP
  go_wp2_with fail
  have hlt := HC.out.lt
  refine (among_c w _ w.heap.size 68 w1.heap.size 8 8 _ ns [1, 2, 3, 4, 9, 0, 10, -1] HA.out (HC.out.later (below_alloc _ _)) (by omega) rfl (by omega) (by omega) (by omega) (by omega) (by omega) (by simp) (lit_cellsW w1 _ _)).mono ?_
  rintro e w2 ⟨x2, hx, rfl, hcu, hg⟩
  have HC2 := Lib.hid hcu
  have HW2 : Hid ((Lit.int .i64 x2).wf = true) := by
    simp only [List.mem_cons, List.not_mem_nil, or_false] at hx
    exact Lib.hid (WalkArith.wf_i64 (by omega))
  clear hcu hg hx hlt
  go_wp2_with fail
  go_ret2
  exact ⟨t, x2, rfl, ht, HW2.out, HC2.out.below⟩

end Go.Proofs.Ytmlghonidheidaa
