/- The law InventoryOf. -/
import Derived.Test.YtfkaghiopnaghaaT6
namespace Go.Proofs.Ytfkaghiopnaghaa
open Go.RowKit Go.BigFrame
set_option linter.unusedSimpArgs false
set_option linter.unusedVariables false
set_option maxRecDepth 4000

theorem law_InventoryOf (s : ByteArray) (w : World) (hs : s.size ≤ maxLen) :
    Calls Try.prog 4 #[.string s] w fun e w' => e = .returned (.bool true) ∧ Below w.heap.size w w' := by
  by_cases hb : 1048576 < s.size
  · go_enter Try.func4, Try.ntmps4
    go_wp2_with fail
    go_ret
    exact ⟨rfl, Below.refl _ _⟩
  · cases hk : invO s.data.toList
    all_goals
      have HK := Lib.hid hk; clear hk
      go_enter Try.func4, Try.ntmps4
      go_wp2_with fail
      refine (specInventoryOf_any s w hs).mono ?_
      rintro e w1 ⟨rfl, h1⟩
      rw [HK.out]
      have H1 := Lib.hid h1; clear h1
      unfold strOk
      go_wp2_with fail
      refine (implInventoryOf_any s w1 hs).mono ?_
      rintro e w2 ⟨rfl, h2⟩
      rw [HK.out]
      have H2 := Lib.hid h2; clear h2
      unfold strOk
      go_wp2_with fail
      go_ret
      exact ⟨rfl, below_trans H1.out H2.out⟩
end Go.Proofs.Ytfkaghiopnaghaa
