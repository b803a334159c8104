/- An argument that is a row of numbers; the law TellList. -/
import Derived.Test.YtkdoghopbefjfaaU3
import Derived.Carry
import Derived.Deep.Matrix
namespace Go.Proofs.Ytkdoghopbefjfaa
open Go.RowKit Go.BigFrame
set_option linter.unusedSimpArgs false
set_option linter.unusedVariables false
set_option maxRecDepth 4000

/-- An argument's row of numbers. -/
def ArgL (w : World) (u : Value) (ns : List Int) : Prop :=
  ∃ A C, u = .slice A ns.length C ∧ ns.length ≤ C ∧ C ≤ 9223372036854775807 ∧
    ∀ c (hc : c < ns.length), ∃ b o, A = some ⟨b, o, none⟩ ∧ b < w.heap.size ∧ w.cell? ⟨b, o + c, none⟩ = some (.int .i64 ns[c])
theorem argL_below {w w' : World} {u : Value} {ns : List Int} (h : ArgL w u ns) (hb : Below w.heap.size w w') : ArgL w' u ns := by
  obtain ⟨A, C, h1, h2, h3, h4⟩ := h
  refine ⟨A, C, h1, h2, h3, fun c hc => ?_⟩
  obtain ⟨b, o, e1, e2, e3⟩ := h4 c hc
  exact ⟨b, o, e1, Nat.lt_of_lt_of_le e2 hb.size, (hb.cell (p := ⟨b, o + c, none⟩) e2).trans e3⟩
/-- The first k of a list, the others at rest. -/
def fillL {α : Type} (z : α) (l : List α) (k : Nat) : List α := (List.range l.length).map fun i => if i < k then l.getD i z else z
theorem fillL_len {α : Type} (z : α) (l : List α) (k : Nat) : (fillL z l k).length = l.length := by simp [fillL]
theorem fillL_zero {α : Type} (z : α) (l : List α) : fillL z l 0 = List.replicate l.length z := by
  refine List.ext_getElem (by simp [fillL]) fun i h1 h2 => ?_
  simp [fillL]
theorem fillL_all {α : Type} (z : α) (l : List α) : fillL z l l.length = l := by
  refine List.ext_getElem (by simp [fillL]) fun i h1 h2 => ?_
  simp [fillL, List.getD, h2]
theorem fillL_set {α : Type} (z : α) (l : List α) (k : Nat) (hk : k < l.length) : (fillL z l k).set k l[k] = fillL z l (k + 1) := by
  refine List.ext_getElem (by simp [fillL]) fun i h1 h2 => ?_
  have hi : i < l.length := by simpa [fillL] using h2
  rw [List.getElem_set]
  by_cases e : k = i
  · subst e
    simp [fillL, List.getD, hi]
  · rw [if_neg e]
    by_cases hlt : i < k
    · simp [fillL, hlt, show i < k + 1 by omega]
    · simp [fillL, hlt, show ¬ i < k + 1 by omega]

section
open Go.ChangeShapes Go.WideShapes Go.Deep
theorem add_plainL (b o r : Nat) : (⟨b, o, none⟩ : Addr).add r = ⟨b, o + r, none⟩ := by
  unfold Addr.add
  split
  · subst_vars; rfl
  · rfl
/-- The argument, opened. -/
theorem argL_of_trod {H : Type} {enc : TypeId × Value → H} {W : World} {a0 : Option Addr} {len cap : Nat} {d0 : DataW H} {p0 : List MemPlace}
    (h0 : DataW.Trod enc Try.prog W 0 (fun _ => true) true 32 (.slice a0 len cap) d0 p0) : ∃ ns, ArgL W (.slice a0 len cap) ns := by
  obtain ⟨fuel0, hf⟩ := h0
  rcases open_ints Try.underlying32 Try.underlying3 (by kernel_rfl) hf with ⟨hcs0, hx⟩ | ⟨a, len', cap', zs, hcs0, _, hl, hm, hlen, hx, hcell, _⟩
  · simp [Value.cells] at hcs0
    obtain ⟨rfl, rfl, rfl⟩ := hcs0
    exact ⟨[], none, 0, rfl, Nat.le_refl _, by omega, fun r hr => by simp at hr⟩
  · simp [Value.cells] at hcs0
    obtain ⟨rfl, rfl, rfl⟩ := hcs0
    simp at hlen
    unfold maxLen at hm
    refine ⟨zs.take len, some a, cap, by simp; omega, by simp; omega, by omega, fun c hc => ?_⟩
    have hcl : c < len := by simp at hc; omega
    obtain ⟨b, o, spot⟩ := a
    have hs2 : spot = none := by simpa [Addr.add] using World.cell?_spot (hcell 0 (by omega))
    subst hs2
    have h7 : W.cell? ⟨b, o + c, none⟩ = some (.int .i64 (zs.getD c 0)) := by rw [← hcell c (by omega), add_plainL]
    refine ⟨b, o, rfl, World.block_lt_of_cell? _ _ h7, ?_⟩
    rw [h7]
    simp [List.getD, show c < zs.length by omega]
end

/-- A row is as it was where its block is. -/
theorem intsA_other {w w' : World} {B : Nat} {v : Value} {xs : List Int} (h : IntsA w B v xs) (hk : ∀ k, B ≤ k → k < w.heap.size → w'.heap[k]? = w.heap[k]?) : IntsA w' B v xs := by
  rcases h with h | ⟨g, cap, E, rest, h1, h2, h3, h4⟩
  · exact .inl h
  · exact .inr ⟨g, cap, E, rest, h1, h2, (hk g h2 (Array.getElem?_eq_some_iff.1 h3).1).trans h3, h4⟩
end Go.Proofs.Ytkdoghopbefjfaa
