/- The inventory of a word: the model's taOf and the program's inventory. -/
import Derived.Test.YtmlghonidheidaaT4
import Derived.Test.YtmlghonidheidaaI3
namespace Go.Proofs.Ytmlghonidheidaa
open Go.RowKit Go.BigFrame
set_option linter.unusedSimpArgs false
set_option linter.unusedVariables false
set_option maxRecDepth 4000

theorem okT_take_succ (ts : List Nat) (k n : Nat) (h : ts[k]? = some n) : okT (ts.take (k + 1)) = (okT (ts.take k) && decide (n ≤ 9)) := by
  obtain ⟨hk, e⟩ := List.getElem?_eq_some_iff.1 h
  unfold okT
  rw [List.take_succ_eq_append_getElem hk, List.all_append, e]
  simp
theorem okT_false {ts : List Nat} {k : Nat} (h : okT (ts.take k) = false) : okT ts = false := by
  unfold okT at *
  rw [← List.take_append_drop k ts, List.all_append, h]; rfl
theorem invK_next (ts : List Nat) (k n : Nat) (h : ts[k]? = some n) : invK ts (k + 1) = invK ts k ++ if n = 0 then [] else numL n ++ numL (k + 1) := by
  rw [invK_succ]
  unfold pairAt
  rw [List.getD_eq_getElem?_getD, h]; rfl
end Go.Proofs.Ytmlghonidheidaa
