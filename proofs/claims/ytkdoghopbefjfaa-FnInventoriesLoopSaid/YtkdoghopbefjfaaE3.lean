/- The laws' own helpers on rows of texts: equal rows are found equal; marks are laid and found again. -/
import Derived.Test.YtkdoghopbefjfaaE2
import Derived.Test.YtkdoghopbefjfaaA4
namespace Go.Proofs.Ytkdoghopbefjfaa
open Go.RowKit Go.BigFrame
set_option linter.unusedSimpArgs false
set_option linter.unusedVariables false
set_option maxRecDepth 4000

def markT (k : Nat) : List UInt8 := 109 :: numL k
def numT (k : Nat) : List UInt8 := if k = 0 then [] else numL k
theorem numT_step (k : Nat) (h : 0 < k) : numT k = numT (k / 10) ++ [UInt8.ofNat (48 + k % 10)] := by
  unfold numT
  rw [if_neg (by omega)]
  by_cases h2 : k < 10
  · rw [numL_one k h2, if_pos (by omega), show k % 10 = k by omega]; rfl
  · rw [numL_more k h2, if_neg (by omega)]
theorem markT_len (k : Nat) (h : k ≤ 1000000) : (markT k).length ≤ 20 := by
  have := numL_len19 k (by omega)
  simp [markT]; omega

def Strs (w : World) (B : Nat) (v : Value) (ls : List (List UInt8)) : Prop := w.ownsRow B 9 1 v ls.length (ls.map (fun l => .string (bs l)))
theorem strs_open {w : World} {B : Nat} {v : Value} {ls : List (List UInt8)} (h : Strs w B v ls) : (v = .slice none 0 0 ∧ ls = []) ∨
    ∃ g cap, v = .slice (some ⟨g, 0, none⟩) ls.length cap ∧ B ≤ g ∧ g < w.heap.size ∧ ls.length ≤ 9223372036854775807 ∧ cap ≤ 9223372036854775807 ∧
      (∀ i (hi : i < ls.length), w.cell? ⟨g, i, none⟩ = some (.string (bs ls[i]))) ∧ (∀ i, w.frozen? ⟨g, i, none⟩ = false) := by
  rcases own_open h with ⟨rfl, h2, h3⟩ | ⟨g, cap, rfl, h1, h2, h3, h4, _, h5, h6⟩
  · exact .inl ⟨rfl, List.eq_nil_of_length_eq_zero h2⟩
  · unfold maxLen at h4
    exact .inr ⟨g, cap, rfl, h1, h2, by omega, by omega, fun i hi => by have := h5 i (by simpa using hi); simpa using this, h6⟩

def markTS (k n : Nat) : List (List UInt8) := (List.range n).map (fun i => markT (k + i))
theorem markTS_len (k n : Nat) : (markTS k n).length = n := by simp [markTS]
theorem markTS_succ (k n : Nat) : markTS k (n + 1) = markTS k n ++ [markT (k + n)] := by simp [markTS, List.range_succ]
theorem markTS_get (k n i : Nat) (h : i < n) : (markTS k n)[i]'(by rw [markTS_len]; exact h) = markT (k + i) := by simp [markTS]

end Go.Proofs.Ytkdoghopbefjfaa
