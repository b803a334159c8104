/- Chapter 8: DifferentLetters of the model; its law. -/
import Derived.Test.YtbggbdoanahlmaaDoormj
namespace Go.Proofs.YtbggbdoanahlmaaDoor
open Go.RowKit Go.BigFrame
set_option linter.unusedSimpArgs false
set_option linter.unusedVariables false
set_option maxRecDepth 4000

/-- None of the first j signs is the sign k. -/
def noneB (l : List UInt8) (k j : Nat) : Bool := !decide (l.getD k 0 ∈ l.take j)
theorem noneB_succ (l : List UInt8) (k j : Nat) (hj : j < l.length) : noneB l k (j + 1) = (noneB l k j && decide (l[j] ≠ l.getD k 0)) := by
  unfold noneB
  rw [List.take_succ_eq_append_getElem hj]
  by_cases h1 : l.getD k 0 ∈ l.take j
  · rw [decide_eq_true h1, decide_eq_true (List.mem_append_left _ h1)]; rfl
  · by_cases h2 : l[j] = l.getD k 0
    · rw [decide_eq_true (show l.getD k 0 ∈ l.take j ++ [l[j]] from List.mem_append_right _ (by simp [h2])), decide_eq_false h1]
      simp [h2]
    · rw [decide_eq_false (show ¬ l.getD k 0 ∈ l.take j ++ [l[j]] from fun e => by
        rcases List.mem_append.1 e with e | e
        · exact h1 e
        · exact h2 (by simpa [eq_comm] using e)), decide_eq_false h1, decide_eq_true (show l[j] ≠ l.getD k 0 from h2)]; rfl
theorem fstK_none (l : List UInt8) (k : Nat) : fstK l (k + 1) = fstK l k + if noneB l k k = true then 1 else 0 := by
  rw [fstK]
  unfold noneB
  by_cases h : l.getD k 0 ∈ l.take k
  · rw [if_pos h, decide_eq_true h]; rfl
  · rw [if_neg h, decide_eq_false h]; rfl
theorem get_bs (s : ByteArray) (k : Nat) (h : k < s.size) : s.data.toList.getD k 0 = s[k] := by
  have h' : k < s.data.toList.length := by simpa using h
  show (s.data.toList[k]?).getD 0 = s[k]
  rw [List.getElem?_eq_getElem h']; rfl

end Go.Proofs.YtbggbdoanahlmaaDoor
