/- Letters of the alphabet, one after the other, as texts; how often they are in a name. -/
import Derived.Test.YtlcbdmmmafpchaaDoorv2
namespace Go.Proofs.YtlcbdmmmafpchaaDoor
open Go.RowKit Go.BigFrame
set_option linter.unusedSimpArgs false
set_option linter.unusedVariables false
set_option maxRecDepth 4000

theorem conv_rune (j : Nat) (hj : j < 26) (W : World) : (convert 21 9 (.int .i32 ((97 + j : Nat) : Int))).run Tryd.prog W = .ok (.string (bs [az j])) W := by
  match j, hj with
  | 0, _ | 1, _ | 2, _ | 3, _ | 4, _ | 5, _ | 6, _ | 7, _ | 8, _ | 9, _ | 10, _ | 11, _ | 12, _ | 13, _ | 14, _ | 15, _ | 16, _ | 17, _ | 18, _ | 19, _ | 20, _ | 21, _ | 22, _ | 23, _ | 24, _ | 25, _ => rfl
  | n + 26, h => exact absurd h (by omega)
theorem letB_az {j : Nat} (hj : j < 26) : letB [az j] = true := by
  match j, hj with
  | 0, _ | 1, _ | 2, _ | 3, _ | 4, _ | 5, _ | 6, _ | 7, _ | 8, _ | 9, _ | 10, _ | 11, _ | 12, _ | 13, _ | 14, _ | 15, _ | 16, _ | 17, _ | 18, _ | 19, _ | 20, _ | 21, _ | 22, _ | 23, _ | 24, _ | 25, _ => rfl
  | n + 26, h => exact absurd h (by omega)
theorem cntO_az {k j : Nat} (hk : nmB (k : Int) = true) (hj : j < 26) : cntO (k : Int) [az j] = ((ltN k).count (az j) : Int) := by
  unfold cntO
  rw [hk, letB_az hj, Bool.and_self, if_pos rfl]; rfl
end Go.Proofs.YtlcbdmmmafpchaaDoor
