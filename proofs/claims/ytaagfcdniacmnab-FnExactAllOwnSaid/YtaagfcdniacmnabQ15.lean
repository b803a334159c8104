/- AllOwn: the program's list of texts in a box, over its tallies: what the loop keeps. -/
import Derived.Test.YtaagfcdniacmnabQ6
import Derived.Test.YtaagfcdniacmnabQ14
namespace Go.Proofs.Ytaagfcdniacmnab
open Go.RowKit Go.BigFrame Go.Shelf
set_option linter.unusedSimpArgs false
set_option linter.unusedVariables false
set_option maxRecDepth 4000

structure RunS (w W0 : World) (a0 bx : Nat) (R : List (List UInt8)) (W : World) (v : Value) : Prop where
  box : Boxed W bx 32 v
  row : W.ownsRow w.heap.size 9 1 v R.length (strVs R)
  bel : Below w.heap.size w W
  size : W0.heap.size ≤ W.heap.size
  far : ∀ k, v.ownBlock = some k → k = a0 ∨ W0.heap.size + 3 ≤ k
theorem runS_other {w W0 W C : World} {a0 bx : Nat} {R : List (List UInt8)} {v : Value} {row : Option Nat} (h : RunS w W0 a0 bx R W v) (hw : w.heap.size ≤ W0.heap.size) (ha : a0 < W0.heap.size) (hx : bx < W0.heap.size)
    (hg : W.grownBy C row) (hr : ∀ r, row = some r → W0.heap.size ≤ r ∧ r ≤ W0.heap.size + 2) : RunS w W0 a0 bx R C v := by
  have hs := h.size
  have hk : ∀ k, k < W.heap.size → (k < W0.heap.size ∨ W0.heap.size + 3 ≤ k) → C.heap[k]? = W.heap[k]? := fun k h1 h2 => hg.block k h1 (fun e => by have := hr k e.symm; omega)
  refine ⟨(hk bx h.box.lt (.inl hx)).trans h.box, ?_, h.bel.grown hg h.bel.size (fun r e => by have := hr r e; omega), Nat.le_trans hs hg.size, h.far⟩
  refine own_block h.row (fun k e => hk k (h.row.lt k e).2 ?_)
  rcases h.far k e with rfl | h3
  · exact .inl ha
  · exact .inr h3
theorem runS_app {w W0 W w4 w5 : World} {a0 bx B1 B2 B3 : Nat} {R : List (List UInt8)} {v v5 : Value} {l : List UInt8} (h : RunS w W0 a0 bx R W v) (hb4 : Below W.heap.size W w4)
    (hown : w5.ownsRow w.heap.size 9 1 v5 (R.length + 1) (strVs R ++ [.string (bs l)])) (hgr : w4.grownBy w5 v.ownBlock) (hwh : v5.ownBlock = v.ownBlock ∨ v5.ownBlock = some w4.heap.size)
    (hs3 : W0.heap.size + 3 ≤ W.heap.size) (hx : bx < W0.heap.size) (hwx : w.heap.size ≤ bx) (hax : a0 ≠ bx)
    (hB : ∀ k, (k = B1 ∨ k = B2 ∨ k = B3) → k < W0.heap.size ∧ k ≠ a0 ∧ k ≠ bx) (ha : a0 < W0.heap.size) :
    Boxed w5 bx 32 v ∧ RunS w W0 a0 bx (R ++ [l]) (w5.setCell ⟨bx, 0, none⟩ v5) v5 ∧ KeepsFrom W0.heap.size W (w5.setCell ⟨bx, 0, none⟩ v5) ∧ KeepsFour B1 B2 B3 (W0.heap.size + 2) W (w5.setCell ⟨bx, 0, none⟩ v5) := by
  have hs4 := hb4.size
  have hs5 := hgr.size
  have hvx : v.ownBlock ≠ some bx := fun e => by have := h.far bx e; omega
  have h45 : ∀ k, k < w4.heap.size → v.ownBlock ≠ some k → w5.heap[k]? = w4.heap[k]? := fun k h1 h2 => hgr.block k h1 (fun e => h2 e.symm)
  have hset : ∀ k, k ≠ bx → (w5.setCell ⟨bx, 0, none⟩ v5).heap[k]? = w5.heap[k]? := fun k hk => Below.heap_setCell _ _ _ _ hk
  have hk5 : ∀ k, k < W.heap.size → k ≠ bx → v.ownBlock ≠ some k → (w5.setCell ⟨bx, 0, none⟩ v5).heap[k]? = W.heap[k]? := fun k h1 h2 h3 => (hset k h2).trans ((h45 k (by omega) h3).trans (hb4.block k h1))
  have hbx5 : Boxed w5 bx 32 v := (h45 bx (by omega) hvx).trans ((hb4.block bx (by omega)).trans h.box)
  have hv5 : ∀ k, v5.ownBlock = some k → k = a0 ∨ W0.heap.size + 3 ≤ k := by
    intro k e
    rcases hwh with e' | e'
    · exact h.far k (by rw [← e']; exact e)
    · rw [e'] at e
      have : w4.heap.size = k := Option.some.inj e
      omega
  refine ⟨hbx5, ⟨Boxed.set v5 hbx5, ?_, ?_, by simp [World.setCell]; omega, hv5⟩, ?_, ?_⟩
  · have h0 := own_block hown (w' := w5.setCell ⟨bx, 0, none⟩ v5) (fun k e => hset k (fun e' => by have := hv5 k e; omega))
    simpa [strVs] using h0
  · have hb0 : Below w.heap.size w w5 := (h.bel.trans (hb4.mono h.bel.size)).grown hgr (by have := h.bel.size; omega) (fun r e => (h.row.lt r e).1)
    exact hb0.setCell hwx _
  · refine ⟨by simp [World.setCell]; omega, fun k o hk ho hc => ?_⟩
    have hkl : k < W.heap.size := (Array.getElem?_eq_some_iff.1 ho).1
    refine (hk5 k hkl (by omega) (fun e => ?_)).trans ho
    rcases h.row.2 with ⟨rfl, _⟩ | ⟨g, cap, cur, rfl, _, hgb, _⟩
    · cases e
    · have e' : g = k := by simpa [Value.ownBlock] using e
      subst e'
      rw [ho] at hgb
      cases hgb
      cases hc
  · intro k hk
    have hkk : k < W.heap.size ∧ k ≠ bx ∧ v.ownBlock ≠ some k := by
      rcases hk with hk | hk | hk | hk
      · have := hB k (.inl hk); exact ⟨by omega, this.2.2, fun e => by have := h.far k e; omega⟩
      · have := hB k (.inr (.inl hk)); exact ⟨by omega, this.2.2, fun e => by have := h.far k e; omega⟩
      · have := hB k (.inr (.inr hk)); exact ⟨by omega, this.2.2, fun e => by have := h.far k e; omega⟩
      · exact ⟨by omega, by omega, fun e => by have := h.far k e; omega⟩
    exact hk5 k hkk.1 hkk.2.1 hkk.2.2
end Go.Proofs.Ytaagfcdniacmnab
