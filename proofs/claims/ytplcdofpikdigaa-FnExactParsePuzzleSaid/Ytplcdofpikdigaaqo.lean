/- Chapter 9: the law of ParsePuzzle. -/
import Derived.Test.Ytplcdofpikdigaaqn
namespace Go.Proofs.Ytplcdofpikdigaa
open Go.RowKit Go.BigFrame Go.Deep
set_option linter.unusedSimpArgs false
set_option linter.unusedVariables false
set_option maxRecDepth 4000

set_option maxHeartbeats 4000000 in
theorem law_ParsePuzzle (s : ByteArray) (w : World) (hs : s.size ≤ maxLen) :
    Calls Try.prog 10 #[.string s] w fun e w' => e = .returned (.bool true) ∧ Below w.heap.size w w' := by
  by_cases hb : 1048576 < s.size
  · go_enter Try.func10, Try.ntmps10
    go_wp2_with fail
    go_ret
    exact ⟨rfl, Below.refl _ _⟩
  · obtain ⟨l, hl⟩ : ∃ l, l = s.data.toList := ⟨_, rfl⟩
    have hSP := fun (W0 : World) => specParsePuzzle_any s l hl W0 hs
    have hIM := fun (W0 : World) => implParsePuzzle_any s l hl W0 (by first | exact hs | omega)
    have hEQ := fun (W0 : World) => eqPuzzle_same W0 (rWParsePuzzle l) (rSParsePuzzle l) (rDParsePuzzle l)
    obtain ⟨x, hx⟩ : ∃ x, x = bs (rWParsePuzzle l) := ⟨_, rfl⟩
    obtain ⟨y, hy⟩ : ∃ y, y = bs (rSParsePuzzle l) := ⟨_, rfl⟩
    obtain ⟨z, hz⟩ : ∃ z, z = rDParsePuzzle l := ⟨_, rfl⟩
    obtain ⟨r1, hr1⟩ : ∃ r, r = rBParsePuzzle l := ⟨_, rfl⟩
    simp only [pzV, ← hx, ← hy, ← hz, ← hr1] at hSP hIM hEQ
    have HSP := Lib.hid hSP; have HIM := Lib.hid hIM; have HEQ := Lib.hid hEQ
    have e1 : (r1 != r1) = false := by simp
    clear hSP hIM hEQ hx hy hz hr1 hl
    go_enter Try.func10, Try.ntmps10
    go_wp2_with fail
    refine (HSP.out _).mono ?_
    rintro e w3 ⟨rfl, hb3⟩
    have HB3 := Lib.hid hb3
    have HA3 := Lib.hid (threeAt_new w3 (.string x) (.string y) (.int .i64 z) 26)
    clear hb3
    go_wp2_with fail
    refine (HIM.out _).mono ?_
    rintro e w6 ⟨rfl, hb6⟩
    have hs6 := HA3.out.below hb6
    obtain ⟨d0, d1, d2, _, _, _⟩ := hs6.cells
    have hlt6 := hs6.lt
    have HB6 := Lib.hid (below_trans HB3.out (below_trans (below_alloc _ _) hb6))
    clear hb6 hs6
    go_wp2_with fail
    refine (HEQ.out _).mono ?_
    rintro e w8 ⟨rfl, hb8⟩
    have HB8 := Lib.hid (below_trans HB6.out (below_trans (below_alloc _ _) hb8))
    clear hb8
    go_wp2_with fail
    go_ret
    exact ⟨rfl, HB8.out⟩
end Go.Proofs.Ytplcdofpikdigaa
