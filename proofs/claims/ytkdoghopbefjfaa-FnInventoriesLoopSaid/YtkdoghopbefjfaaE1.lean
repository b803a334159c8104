/- The laws' own helpers on rows of numbers: equal rows are found equal; marks are laid and found again. -/
import Derived.Test.YtkdoghopbefjfaaB
import Derived.BigQuiet
import Derived.Deep.QuietTactic
import Derived.Deep.RegionWith
namespace Go.Proofs.Ytkdoghopbefjfaa
open Go.RowKit Go.BigFrame
set_option linter.unusedSimpArgs false
set_option linter.unusedVariables false
set_option maxRecDepth 4000

abbrev iv (n : Int) : Value := .int .i64 n
/-- A slice value owns a row of numbers. -/
def Ints (w : World) (B : Nat) (v : Value) (xs : List Int) : Prop := w.ownsRow B 3 1 v xs.length (xs.map (.int .i64))
theorem ints_open {w : World} {B : Nat} {v : Value} {xs : List Int} (h : Ints w B v xs) : (v = .slice none 0 0 ∧ xs = []) ∨
    ∃ g cap, v = .slice (some ⟨g, 0, none⟩) xs.length cap ∧ B ≤ g ∧ g < w.heap.size ∧ xs.length ≤ 9223372036854775807 ∧ cap ≤ 9223372036854775807 ∧
      (∀ i (hi : i < xs.length), w.cell? ⟨g, i, none⟩ = some (.int .i64 xs[i])) ∧ (∀ i, w.frozen? ⟨g, i, none⟩ = false) := by
  rcases own_open h with ⟨rfl, h2, h3⟩ | ⟨g, cap, rfl, h1, h2, h3, h4, _, h5, h6⟩
  · exact .inl ⟨rfl, List.eq_nil_of_length_eq_zero h2⟩
  · unfold maxLen at h4
    exact .inr ⟨g, cap, rfl, h1, h2, by omega, by omega, fun i hi => by have := h5 i (by simpa using hi); simpa using this, h6⟩

/-- Rows of numbers. -/
def IntsRR (w : World) (B : Nat) (v : Value) (vs : List Value) (nss : List (List Int)) : Prop := OwnsRR w B 32 3 v vs (nss.map (·.map (.int .i64)))
theorem intsRR_row {w : World} {B : Nat} {v : Value} {vs : List Value} {nss : List (List Int)} (h : IntsRR w B v vs nss) (k : Nat) (hk : k < nss.length) : ∃ u, vs[k]? = some u ∧ Ints w B u nss[k] := by
  obtain ⟨u, xs, e1, e2, e3⟩ := ownsRR_row h k (by rw [← h.len]; simpa using hk)
  refine ⟨u, e1, ?_⟩
  rw [List.getElem?_map, List.getElem?_eq_getElem hk] at e2
  simp at e2
  subst e2
  unfold Ints
  simpa using e3
theorem intsRR_open {w : World} {B : Nat} {v : Value} {vs : List Value} {nss : List (List Int)} (h : IntsRR w B v vs nss) : (v = .slice none 0 0 ∧ nss = []) ∨
    ∃ g cap, v = .slice (some ⟨g, 0, none⟩) nss.length cap ∧ nss.length ≤ 9223372036854775807 ∧ cap ≤ 9223372036854775807 ∧ g < w.heap.size ∧ B ≤ g ∧
      (∀ k (hk : k < nss.length), ∃ u, vs[k]? = some u ∧ Ints w B u nss[k] ∧ w.cell? ⟨g, k, none⟩ = some u) := by
  rcases ownsRR_open h with ⟨h1, h2, h3⟩ | ⟨g, cap, h1, h2, h3, h4, h5, h6⟩
  · exact .inl ⟨h1, by simpa using h3⟩
  · unfold maxLen at h3
    refine .inr ⟨g, cap, by simpa using h1, by simp at h2; omega, by omega, h5, h4, fun k hk => ?_⟩
    obtain ⟨u, e1, e2⟩ := intsRR_row h k hk
    exact ⟨u, e1, e2, h6 k (by simpa using hk) u e1⟩

end Go.Proofs.Ytkdoghopbefjfaa
