/- An argument of rows of numbers: read, measured and copied by the law's own helpers. -/
import Derived.Test.YtmlghonidheidaaI10
import Derived.Test.YtmlghonidheidaaI15
import Derived.Carry
import Derived.Deep.Matrix
namespace Go.Proofs.Ytmlghonidheidaa
open Go.RowKit Go.BigFrame
set_option linter.unusedSimpArgs false
set_option linter.unusedVariables false
set_option maxRecDepth 4000

theorem info_intX : (Try.prog.info? 3).map (fun i => (i.zero, i.size, i.bytes)) = some (some (.int .i64 0), 1, 8) := by kernel_rfl
theorem info_rowX : (Try.prog.info? 37).map (fun i => (i.zero, i.size, i.bytes)) = some (some (.slice none 0 0), 1, 24) := by kernel_rfl

/-- An argument's row of numbers. -/
def ArgI (w : World) (u : Value) (ns : List Int) : Prop :=
  ∃ A C, u = .slice A ns.length C ∧ ns.length ≤ C ∧ C ≤ 9223372036854775807 ∧
    ∀ c (hc : c < ns.length), ∃ b o, A = some ⟨b, o, none⟩ ∧ b < w.heap.size ∧ w.cell? ⟨b, o + c, none⟩ = some (.int .i64 ns[c])
/-- An argument's rows. -/
def ArgR (w : World) (v : Value) (nss : List (List Int)) : Prop :=
  ∃ A C, v = .slice A nss.length C ∧ nss.length ≤ C ∧ C ≤ 9223372036854775807 ∧
    ∀ r (hr : r < nss.length), ∃ b o u, A = some ⟨b, o, none⟩ ∧ b < w.heap.size ∧ w.cell? ⟨b, o + r, none⟩ = some u ∧ ArgI w u nss[r]
theorem argI_below {w w' : World} {u : Value} {ns : List Int} (h : ArgI w u ns) (hb : Below w.heap.size w w') : ArgI w' u ns := by
  obtain ⟨A, C, h1, h2, h3, h4⟩ := h
  refine ⟨A, C, h1, h2, h3, fun c hc => ?_⟩
  obtain ⟨b, o, e1, e2, e3⟩ := h4 c hc
  exact ⟨b, o, e1, Nat.lt_of_lt_of_le e2 hb.size, (hb.cell (p := ⟨b, o + c, none⟩) e2).trans e3⟩
theorem argR_below {w w' : World} {v : Value} {nss : List (List Int)} (h : ArgR w v nss) (hb : Below w.heap.size w w') : ArgR w' v nss := by
  obtain ⟨A, C, h1, h2, h3, h4⟩ := h
  refine ⟨A, C, h1, h2, h3, fun r hr => ?_⟩
  obtain ⟨b, o, u, e1, e2, e3, e4⟩ := h4 r hr
  exact ⟨b, o, u, e1, Nat.lt_of_lt_of_le e2 hb.size, (hb.cell (p := ⟨b, o + r, none⟩) e2).trans e3, argI_below e4 hb⟩

/-- The first k of a list, the others at rest. -/
def fillN {α : Type} (z : α) (l : List α) (k : Nat) : List α := (List.range l.length).map fun i => if i < k then l.getD i z else z
theorem fillN_len {α : Type} (z : α) (l : List α) (k : Nat) : (fillN z l k).length = l.length := by simp [fillN]
theorem fillN_zero {α : Type} (z : α) (l : List α) : fillN z l 0 = List.replicate l.length z := by
  refine List.ext_getElem (by simp [fillN]) fun i h1 h2 => ?_
  simp [fillN]
theorem fillN_all {α : Type} (z : α) (l : List α) : fillN z l l.length = l := by
  refine List.ext_getElem (by simp [fillN]) fun i h1 h2 => ?_
  simp [fillN, List.getD, h2]
theorem fillN_set {α : Type} (z : α) (l : List α) (k : Nat) (hk : k < l.length) : (fillN z l k).set k l[k] = fillN z l (k + 1) := by
  refine List.ext_getElem (by simp [fillN]) fun i h1 h2 => ?_
  have hi : i < l.length := by simpa [fillN] using h2
  rw [List.getElem_set]
  by_cases e : k = i
  · subst e
    simp [fillN, List.getD, hi]
  · rw [if_neg e]
    by_cases hlt : i < k
    · simp [fillN, hlt, show i < k + 1 by omega]
    · simp [fillN, hlt, show ¬ i < k + 1 by omega]

theorem own_lt {w : World} {B : Nat} {E : TypeId} {u : Value} {n : Nat} {xs : List Value} (h : w.ownsRow B E 1 u n xs) : ∀ g, u.ownBlock = some g → B ≤ g ∧ g < w.heap.size := by
  rcases own_open h with ⟨rfl, _⟩ | ⟨g', cap', rfl, h1, h2, _⟩
  · intro g hg; cases hg
  · intro g hg; cases hg; exact ⟨h1, h2⟩

/-- A row laid into one of the outer row's places. -/
theorem ownsRR_put {w : World} {B : Nat} {T E : TypeId} {g n cap : Nat} {vs : List Value} {xss : List (List Value)} (h : OwnsRR w B T E (.slice (some ⟨g, 0, none⟩) n cap) vs xss) (k : Nat) (hk : k < vs.length) {u : Value} {xs : List Value}
    (hu : w.ownsRow B E 1 u xs.length xs) (hfar : ∀ (j : Nat) (u' : Value), vs[j]? = some u' → Apart u' u) (hal : Apart u (.slice (some ⟨g, 0, none⟩) n cap)) :
    OwnsRR (w.setCell ⟨g, k, none⟩ u) B T E (.slice (some ⟨g, 0, none⟩) n cap) (vs.set k u) (xss.set k xs) := by
  have other : ∀ (u' : Value) (n' : Nat) (ys : List Value), w.ownsRow B E 1 u' n' ys → u'.ownBlock ≠ some g → (w.setCell ⟨g, k, none⟩ u).ownsRow B E 1 u' n' ys := by
    intro u' n' ys h1 h2
    refine own_block h1 (fun k' hk' => Below.heap_setCell _ _ _ _ ?_)
    intro e; exact h2 (by rw [hk']; exact congrArg some e)
  have hnv : n = vs.length := by
    rcases own_open h.outer with ⟨e, _⟩ | ⟨g', cap', e, _⟩
    · cases e
    · simp only [Value.slice.injEq] at e; exact e.2.1
  subst hnv
  refine ⟨?_, by simp [h.len], ?_, ?_, ?_⟩
  · have := (h.outer.stored k u).1
    rw [List.length_set]; exact this
  · intro i u' ys h1 h2
    by_cases e : i = k
    · subst e
      rw [List.getElem?_set_self hk] at h1; cases h1
      rw [List.getElem?_set_self (by rw [h.len]; exact hk)] at h2; cases h2
      exact other _ _ _ hu (fun e => hal g e rfl)
    · rw [List.getElem?_set_ne (fun e' => e e'.symm)] at h1 h2
      exact other _ _ _ (h.inner i u' ys h1 h2) (fun e => h.alone i _ h1 g e rfl)
  · intro i j u1 u2 hij h1 h2
    by_cases e : i = k
    · subst e
      rw [List.getElem?_set_self hk] at h1; cases h1
      rw [List.getElem?_set_ne (fun e' => hij e')] at h2
      exact (hfar j _ h2).symm
    · rw [List.getElem?_set_ne (fun e' => e e'.symm)] at h1
      by_cases e2 : j = k
      · subst e2
        rw [List.getElem?_set_self hk] at h2; cases h2
        exact hfar i _ h1
      · rw [List.getElem?_set_ne (fun e' => e2 e'.symm)] at h2
        exact h.apart i j _ _ hij h1 h2
  · intro i u' h1
    by_cases e : i = k
    · subst e
      rw [List.getElem?_set_self hk] at h1; cases h1
      exact hal
    · rw [List.getElem?_set_ne (fun e' => e e'.symm)] at h1
      exact h.alone i _ h1
theorem ownsRR_made {w : World} {B g N : Nat} {T E : TypeId} (h : w.ownsRow B T 1 (.slice (some ⟨g, 0, none⟩) N N) N (madeCells (Value.slice none 0 0).cells (N * 1)).toList) :
    OwnsRR w B T E (.slice (some ⟨g, 0, none⟩) N N) (List.replicate N (.slice none 0 0)) (List.replicate N []) := by
  have e : (madeCells (Value.slice none 0 0).cells (N * 1)).toList = List.replicate N (.slice none 0 0) := by
    rw [Nat.mul_one]; exact toList_madeCells_one _ _
  rw [e] at h
  have nil : ∀ (i : Nat) (u : Value), (List.replicate N (Value.slice none 0 0))[i]? = some u → u = .slice none 0 0 := by
    intro i u hu
    rw [List.getElem?_replicate] at hu
    split at hu <;> simp_all
  refine ⟨by rw [List.length_replicate]; exact h, by simp, ?_, ?_, ?_⟩
  · intro i u xs h1 h2
    rw [nil i u h1]
    rw [List.getElem?_replicate] at h2
    split at h2
    · cases h2; exact World.ownsRow_nil _ _ _ _
    · cases h2
  · intro i j u u' _ h1 _
    rw [nil i u h1]
    intro g hg; cases hg
  · intro i u h1
    rw [nil i u h1]
    intro g hg; cases hg

/-- All lengths are small. -/
def SmallR (nss : List (List Int)) : Prop := nss.length ≤ 1048576 ∧ ∀ r (hr : r < nss.length), nss[r].length ≤ 1048576
end Go.Proofs.Ytmlghonidheidaa
