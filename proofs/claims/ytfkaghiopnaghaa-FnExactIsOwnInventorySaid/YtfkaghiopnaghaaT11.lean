/- The law IsOwnInventory. -/
import Derived.Test.YtfkaghiopnaghaaT10
namespace Go.Proofs.Ytfkaghiopnaghaa
open Go.RowKit Go.BigFrame
set_option linter.unusedSimpArgs false
set_option linter.unusedVariables false
set_option maxRecDepth 4000

set_option maxHeartbeats 1000000 in
theorem law_IsOwnInventory (s : ByteArray) (w : World) (hs : s.size ≤ maxLen) :
    Calls Try.prog 6 #[.string s] w fun e w' => e = .returned (.bool true) ∧ Below w.heap.size w w' := by
  by_cases hb : 1048576 < s.size
  · go_enter Try.func6, Try.ntmps6
    go_wp2_with fail
    go_ret
    exact ⟨rfl, Below.refl _ _⟩
  · obtain ⟨x, hx⟩ : ∃ x, x = (goodL s.data.toList && isOwnL s.data.toList) := ⟨_, rfl⟩
    obtain ⟨y, hy⟩ : ∃ y, y = goodL s.data.toList := ⟨_, rfl⟩
    have e1 : (x != x) = false := by simp
    have e2 : (y != y) = false := by simp
    have HS := Lib.hid (fun (W : World) => specIsOwnInventory_any s W hs); have HI := Lib.hid (fun (W : World) => implIsOwnInventory_any s W hs)
    rw [← hx, ← hy] at HS HI
    clear hx hy
    go_enter Try.func6, Try.ntmps6
    go_wp2_with fail
    refine (HS.out w).mono ?_
    rintro e w1 ⟨rfl, h1⟩
    have H1 := Lib.hid h1; clear h1
    go_wp2_with fail
    refine (HI.out w1).mono ?_
    rintro e w2 ⟨rfl, h2⟩
    have H2 := Lib.hid h2; clear h2
    go_wp2_with fail
    go_ret
    exact ⟨rfl, below_trans H1.out H2.out⟩

end Go.Proofs.Ytfkaghiopnaghaa
