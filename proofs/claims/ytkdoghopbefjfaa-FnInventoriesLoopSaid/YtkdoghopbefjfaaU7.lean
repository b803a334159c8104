/- Rows of rows of numbers that may lie in arrays: made, kept, compared, marked and found again. -/
import Derived.Test.YtkdoghopbefjfaaU6
namespace Go.Proofs.Ytkdoghopbefjfaa
open Go.RowKit Go.BigFrame
set_option linter.unusedSimpArgs false
set_option linter.unusedVariables false
set_option maxRecDepth 4000

theorem intsA_far {w w' : World} {B : Nat} {u : Value} {xs : List Int} (h : IntsA w B u xs) (hk : ∀ k, u.ownBlock = some k → w'.heap[k]? = w.heap[k]?) : IntsA w' B u xs := by
  rcases h with h | ⟨g, cap, E, rest, rfl, h2, h3, h4⟩
  · exact .inl h
  · exact .inr ⟨g, cap, E, rest, rfl, h2, (hk g rfl).trans h3, h4⟩
theorem intsA_lt {w : World} {B : Nat} {u : Value} {xs : List Int} (h : IntsA w B u xs) : ∀ k, u.ownBlock = some k → B ≤ k ∧ k < w.heap.size := by
  rcases h with ⟨rfl, _⟩ | ⟨g, cap, E, rest, rfl, h2, h3, h4⟩
  · intro k e; cases e
  · intro k e
    have e' : g = k := by simpa [Value.ownBlock] using e
    subst e'
    exact ⟨h2, (Array.getElem?_eq_some_iff.1 h3).1⟩
/-- A row of rows. -/
structure IntsRA (w : World) (B : Nat) (v : Value) (vs : List Value) (nss : List (List Int)) : Prop where
  outer : w.ownsRow B 32 1 v vs.length vs
  len : nss.length = vs.length
  inner : ∀ (i : Nat) (u : Value) (xs : List Int), vs[i]? = some u → nss[i]? = some xs → IntsA w B u xs
  apart : ∀ (i j : Nat) (u u' : Value), i ≠ j → vs[i]? = some u → vs[j]? = some u' → Apart u u'
  alone : ∀ (i : Nat) (u : Value), vs[i]? = some u → Apart u v
theorem intsRA_nil (w : World) (B : Nat) : IntsRA w B (.slice none 0 0) [] [] :=
  ⟨World.ownsRow_nil _ _ _ _, rfl, fun i u xs h => by simp at h, fun i j u u' _ h => by simp at h, fun i u h => by simp at h⟩
theorem intsRA_row {w : World} {B : Nat} {v : Value} {vs : List Value} {nss : List (List Int)} (h : IntsRA w B v vs nss) (k : Nat) (hk : k < nss.length) : ∃ u, vs[k]? = some u ∧ IntsA w B u nss[k] := by
  have hk' : k < vs.length := by rw [← h.len]; exact hk
  exact ⟨vs[k], List.getElem?_eq_getElem hk', h.inner k _ _ (List.getElem?_eq_getElem hk') (List.getElem?_eq_getElem hk)⟩
theorem intsRA_below {w w' : World} {B : Nat} {v : Value} {vs : List Value} {nss : List (List Int)} (h : IntsRA w B v vs nss) (hb : Below w.heap.size w w') : IntsRA w' B v vs nss :=
  ⟨own_below h.outer hb, h.len, fun i u xs h1 h2 => intsA_below (h.inner i u xs h1 h2) hb, h.apart, h.alone⟩
theorem intsRA_mono {w : World} {B B' : Nat} {v : Value} {vs : List Value} {nss : List (List Int)} (h : IntsRA w B v vs nss) (hB : B' ≤ B) : IntsRA w B' v vs nss :=
  ⟨own_mono h.outer hB, h.len, fun i u xs h1 h2 => intsA_mono (h.inner i u xs h1 h2) hB, h.apart, h.alone⟩
theorem intsRA_other {w w' : World} {B : Nat} {v : Value} {vs : List Value} {nss : List (List Int)} (h : IntsRA w B v vs nss) (hk : ∀ k, B ≤ k → k < w.heap.size → w'.heap[k]? = w.heap[k]?) : IntsRA w' B v vs nss :=
  ⟨own_block h.outer (fun g hg => hk g (h.outer.lt g hg).1 (h.outer.lt g hg).2), h.len, fun i u xs h1 h2 => intsA_other (h.inner i u xs h1 h2) hk, h.apart, h.alone⟩
theorem intsRA_open {w : World} {B : Nat} {v : Value} {vs : List Value} {nss : List (List Int)} (h : IntsRA w B v vs nss) : (v = .slice none 0 0 ∧ nss = []) ∨
    ∃ g cap, v = .slice (some ⟨g, 0, none⟩) nss.length cap ∧ nss.length ≤ 9223372036854775807 ∧ cap ≤ 9223372036854775807 ∧ g < w.heap.size ∧ B ≤ g ∧
      (∀ k (hk : k < nss.length), ∃ u, vs[k]? = some u ∧ IntsA w B u nss[k] ∧ w.cell? ⟨g, k, none⟩ = some u) := by
  rcases own_open h.outer with ⟨h1, h2, h3⟩ | ⟨g, cap, h1, hB, hg, h2, h3, _, h4, _⟩
  · exact .inl ⟨h1, List.eq_nil_of_length_eq_zero (by rw [h.len, h2])⟩
  · unfold maxLen at h3
    refine .inr ⟨g, cap, by rw [h.len]; exact h1, by rw [h.len]; omega, by omega, hg, hB, fun k hk => ?_⟩
    obtain ⟨u, e1, e2⟩ := intsRA_row h k hk
    refine ⟨u, e1, e2, ?_⟩
    have hk' : k < vs.length := by rw [← h.len]; exact hk
    rw [h4 k hk']
    rw [List.getElem?_eq_getElem hk'] at e1
    exact e1
/-- A new row behind the others: by the law on append. -/
theorem intsRA_snoc {w w' : World} {B : Nat} {v v' u : Value} {vs : List Value} {nss : List (List Int)} {xs : List Int} (h : IntsRA w B v vs nss) (hu : IntsA w B u xs)
    (hfar : ∀ (i : Nat) (u' : Value), vs[i]? = some u' → Apart u' u) (hfar' : Apart u v)
    (hown : w'.ownsRow B 32 1 v' (vs.length + 1) (vs ++ [u])) (hg : w.grownBy w' v.ownBlock) (hw : v'.ownBlock = v.ownBlock ∨ v'.ownBlock = some w.heap.size) : IntsRA w' B v' (vs ++ [u]) (nss ++ [xs]) := by
  have keep : ∀ x ys, IntsA w B x ys → Apart x v → IntsA w' B x ys ∧ Apart x v' := by
    intro x ys h1 h2
    refine ⟨intsA_far h1 (fun k e => hg.block k ((intsA_lt h1 k e).2) (fun e' => h2 k e e'.symm)), ?_⟩
    intro k e1 e2
    rcases hw with hw | hw
    · rw [hw] at e2; exact h2 k e1 e2
    · rw [hw] at e2
      have := (intsA_lt h1 k e1).2
      have : w.heap.size = k := Option.some.inj e2
      omega
  refine ⟨by simpa using hown, by simp [h.len], ?_, ?_, ?_⟩
  · intro i x ys h1 h2
    rcases snoc_get h1 with h1 | ⟨e1, rfl⟩ <;> rcases snoc_get h2 with h2 | ⟨e2, rfl⟩
    · exact (keep x ys (h.inner i x ys h1 h2) (h.alone i x h1)).1
    · have := get_lt h1; have := h.len; omega
    · have := get_lt h2; have := h.len; omega
    · exact (keep _ _ hu hfar').1
  · intro i j x x' hij h1 h2
    rcases snoc_get h1 with h1 | ⟨e1, e⟩ <;> rcases snoc_get h2 with h2 | ⟨e2, e'⟩
    · exact h.apart i j x x' hij h1 h2
    · rw [e']; exact hfar i x h1
    · rw [e]; exact (hfar j x' h2).symm
    · omega
  · intro i x h1
    rcases snoc_get h1 with h1 | ⟨e1, rfl⟩
    · obtain ⟨u', e1, e2⟩ := intsRA_row h i (by rw [h.len]; exact get_lt h1)
      rw [h1] at e1; cases e1
      exact (keep _ _ e2 (h.alone i x h1)).2
    · exact (keep _ _ hu hfar').2
/-- One of the rows written. -/
theorem intsRA_inner {w w' : World} {B : Nat} {v u : Value} {vs : List Value} {nss : List (List Int)} {ys : List Int} {i : Nat} (h : IntsRA w B v vs nss) (hu : vs[i]? = some u)
    (hk : ∀ k, u.ownBlock ≠ some k → k < w.heap.size → w'.heap[k]? = w.heap[k]?) (hy : IntsA w' B u ys) : IntsRA w' B v vs (nss.set i ys) := by
  refine ⟨own_block h.outer (fun g hg => hk g (fun e => h.alone i u hu g e hg) (h.outer.lt g hg).2), by simp [h.len], ?_, h.apart, h.alone⟩
  intro k u' zs h1 h2
  by_cases e : k = i
  · subst e
    rw [hu] at h1; cases h1
    have hlt : k < nss.length := by rw [h.len]; exact get_lt hu
    rw [List.getElem?_set_self hlt] at h2; cases h2
    exact hy
  · rw [List.getElem?_set_ne (fun e' => e e'.symm)] at h2
    have h3 := h.inner k u' zs h1 h2
    exact intsA_far h3 (fun g hg => hk g (fun e' => h.apart k i u' u e h1 hu g hg e') (intsA_lt h3 g hg).2)

end Go.Proofs.Ytkdoghopbefjfaa
