/- The laws' own helpers on rows of numbers that may lie in an array: equal rows are found equal; marks are laid and found again. -/
import Derived.Test.YtkdoghopbefjfaaE2
import Derived.Laws.Rows
namespace Go.Proofs.Ytkdoghopbefjfaa
open Go.RowKit Go.BigFrame
set_option linter.unusedSimpArgs false
set_option linter.unusedVariables false
set_option maxRecDepth 4000

abbrev ivs (xs : List Int) : List Value := xs.map (.int .i64)
/-- A slice value owns a row of numbers; behind it more cells of the same block may lie. -/
def IntsA (w : World) (B : Nat) (v : Value) (xs : List Int) : Prop := (v = .slice none 0 0 ∧ xs = []) ∨
  ∃ g cap E rest, v = .slice (some ⟨g, 0, none⟩) xs.length cap ∧ B ≤ g ∧ w.heap[g]? = some (.cells (ivs xs ++ rest).toArray E (0, 0)) ∧ xs.length ≤ cap ∧ cap ≤ 9223372036854775807
theorem intsA_of {w : World} {B : Nat} {v : Value} {xs : List Int} (h : Ints w B v xs) : IntsA w B v xs := by
  rcases h.2 with ⟨rfl, h0⟩ | ⟨g, cap, cur, rfl, hB, hg, h1, h2, h3, h4⟩
  · exact .inl ⟨rfl, List.eq_nil_of_length_eq_zero h0⟩
  · unfold maxLen at h2
    refine .inr ⟨g, cap, 3, cur.toList.drop xs.length, rfl, hB, ?_, h1, by omega⟩
    rw [hg]
    congr 2
    apply Array.ext'
    simp only [Nat.mul_one] at h4
    simp only [ivs, ← h4]
    rw [List.take_append_drop]
theorem intsA_nil (w : World) (B : Nat) : IntsA w B (.slice none 0 0) [] := .inl ⟨rfl, rfl⟩
theorem intsA_below {w w' : World} {B : Nat} {v : Value} {xs : List Int} (h : IntsA w B v xs) (hb : Below w.heap.size w w') : IntsA w' B v xs := by
  rcases h with h | ⟨g, cap, E, rest, h1, h2, h3, h4⟩
  · exact .inl h
  · exact .inr ⟨g, cap, E, rest, h1, h2, (hb.block g (Array.getElem?_eq_some_iff.1 h3).1).trans h3, h4⟩
theorem intsA_mono {w : World} {B B' : Nat} {v : Value} {xs : List Int} (h : IntsA w B v xs) (hB : B' ≤ B) : IntsA w B' v xs := by
  rcases h with h | ⟨g, cap, E, rest, h1, h2, h3⟩
  · exact .inl h
  · exact .inr ⟨g, cap, E, rest, h1, by omega, h3⟩
theorem intsA_open {w : World} {B : Nat} {v : Value} {xs : List Int} (h : IntsA w B v xs) : (v = .slice none 0 0 ∧ xs = []) ∨
    ∃ g cap E rest, v = .slice (some ⟨g, 0, none⟩) xs.length cap ∧ B ≤ g ∧ g < w.heap.size ∧ w.heap[g]? = some (.cells (ivs xs ++ rest).toArray E (0, 0)) ∧ xs.length ≤ 9223372036854775807 ∧ cap ≤ 9223372036854775807 ∧ xs.length ≤ cap ∧
      (∀ i (hi : i < xs.length), w.cell? ⟨g, i, none⟩ = some (.int .i64 xs[i])) := by
  rcases h with h | ⟨g, cap, E, rest, h1, h2, h3, h4, h5⟩
  · exact .inl h
  · refine .inr ⟨g, cap, E, rest, h1, h2, (Array.getElem?_eq_some_iff.1 h3).1, h3, by omega, h5, h4, fun i hi => ?_⟩
    rw [cell_of_row w g i _ _ _ h3]
    simp [ivs, List.getElem?_append_left, hi]

end Go.Proofs.Ytkdoghopbefjfaa
