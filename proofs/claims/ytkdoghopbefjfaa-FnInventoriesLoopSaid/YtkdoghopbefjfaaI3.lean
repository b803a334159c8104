/- The program's SayWord, LengthSaid, IsStill, SumOfWord, and the model's. -/
import Derived.Test.YtkdoghopbefjfaaI2
namespace Go.Proofs.Ytkdoghopbefjfaa
open Go.RowKit Go.BigFrame
set_option linter.unusedSimpArgs false
set_option linter.unusedVariables false
set_option maxRecDepth 4000

theorem say_len {l : List UInt8} (h : goodL l = true) : (sayL l).length ≤ 16000 := by
  have h2 : l.length ≤ 400 := by unfold goodL at h; simp at h; omega
  refine Nat.le_trans (sayR_len _ (fun p hp => ?_)) (by have := runsL_len l; omega)
  exact Nat.le_trans (le_sum_of_mem _ p hp) (by rw [runsL_sum]; exact h2)
theorem speak_good {l : List UInt8} (h : speakL l = true) : goodL l = true := by unfold speakL at h; simp at h; exact h.1

theorem saidO_len {l m : List UInt8} (h : saidO l = some m) : 1 ≤ m.length ∧ m.length ≤ 400 := by
  unfold saidO at h
  split at h
  · rename_i hh
    simp at h; subst h
    have := hh.2; unfold goodL at this; simp at this; omega
  · cases h
end Go.Proofs.Ytkdoghopbefjfaa
