/- AllSelfTold: the program's list in a box, over its tallies: what the loop keeps. -/
import Derived.Test.YtkdoghopbefjfaaQ6
import Derived.Test.YtkdoghopbefjfaaQ3
import Derived.Test.YtkdoghopbefjfaaU2
namespace Go.Proofs.Ytkdoghopbefjfaa
open Go.RowKit Go.BigFrame Go.Shelf
set_option linter.unusedSimpArgs false
set_option linter.unusedVariables false
set_option maxRecDepth 4000
attribute [local go_sem] Oper.semAt_some

structure RunL (w W0 : World) (a0 bx bn n : Nat) (R : List (List Nat)) (W : World) (v : Value) (vs : List Value) : Prop where
  box : Boxed W bx 51 v
  nb : W.cell? ⟨bn, 0, none⟩ = some (.int .i64 (n : Int))
  rr : IntsRA W w.heap.size v vs (R.map ti)
  bel : Below w.heap.size w W
  size : W0.heap.size ≤ W.heap.size
  far : ∀ k, v.ownBlock = some k → k = a0 ∨ W0.heap.size + 3 ≤ k
  far2 : ∀ (i : Nat) (x : Value) (k : Nat), vs[i]? = some x → x.ownBlock = some k → W0.heap.size + 3 ≤ k
theorem intsRA_keep {w w' : World} {B : Nat} {v : Value} {vs : List Value} {nss : List (List Int)} (h : IntsRA w B v vs nss) (h1 : ∀ k, v.ownBlock = some k → w'.heap[k]? = w.heap[k]?)
    (h2 : ∀ (i : Nat) (x : Value) (k : Nat), vs[i]? = some x → x.ownBlock = some k → w'.heap[k]? = w.heap[k]?) : IntsRA w' B v vs nss :=
  ⟨own_block h.outer h1, h.len, fun i u xs e1 e2 => intsA_far (h.inner i u xs e1 e2) (fun k e => h2 i u k e1 e), h.apart, h.alone⟩
theorem intsRA_in {w : World} {B : Nat} {v : Value} {vs : List Value} {nss : List (List Int)} (h : IntsRA w B v vs nss) {i : Nat} {x : Value} {k : Nat} (h1 : vs[i]? = some x) (h2 : x.ownBlock = some k) : B ≤ k ∧ k < w.heap.size :=
  intsA_lt (h.inner i x _ h1 (List.getElem?_eq_getElem (by rw [h.len]; exact get_lt h1))) k h2
theorem runL_other {w W0 W C : World} {a0 bx bn n : Nat} {R : List (List Nat)} {v : Value} {vs : List Value} {row : Option Nat} (h : RunL w W0 a0 bx bn n R W v vs) (hw : w.heap.size ≤ W0.heap.size) (ha : a0 < W0.heap.size) (hx : bx < W0.heap.size) (hn : bn < W0.heap.size)
    (hg : W.grownBy C row) (hr : ∀ r, row = some r → W0.heap.size ≤ r ∧ r ≤ W0.heap.size + 2) : RunL w W0 a0 bx bn n R C v vs := by
  have hs := h.size
  have hk : ∀ k, k < W.heap.size → (k < W0.heap.size ∨ W0.heap.size + 3 ≤ k) → C.heap[k]? = W.heap[k]? := fun k h1 h2 => hg.block k h1 (fun e => by have := hr k e.symm; omega)
  refine ⟨(hk bx h.box.lt (.inl hx)).trans h.box, (World.cell?_of_block (hk bn (by omega) (.inl hn))).trans h.nb, ?_, h.bel.grown hg h.bel.size (fun r e => by have := hr r e; omega), Nat.le_trans hs hg.size, h.far, h.far2⟩
  refine intsRA_keep h.rr (fun k e => hk k (h.rr.outer.lt k e).2 ?_) (fun i x k e1 e2 => hk k (intsRA_in h.rr e1 e2).2 (.inr (h.far2 i x k e1 e2)))
  rcases h.far k e with rfl | h3
  · exact .inl ha
  · exact .inr h3
theorem runL_app {w W0 W w4 w5 : World} {a0 bx bn n B' B1 B2 B3 : Nat} {R : List (List Nat)} {v v5 u : Value} {vs : List Value} {x : List Nat} (h : RunL w W0 a0 bx bn n R W v vs) (hb4 : Below W.heap.size W w4) (hu : IntsA w4 B' u (ti x)) (hB' : w.heap.size ≤ B')
    (hub : ∀ k, u.ownBlock = some k → W.heap.size ≤ k) (hown : w5.ownsRow w.heap.size 32 1 v5 (vs.length + 1) (vs ++ [u])) (hgr : w4.grownBy w5 v.ownBlock) (hwh : v5.ownBlock = v.ownBlock ∨ v5.ownBlock = some w4.heap.size)
    (hs3 : W0.heap.size + 3 ≤ W.heap.size) (hx : bx < W0.heap.size) (hn : bn < W0.heap.size) (hwx : w.heap.size ≤ bx) (hax : a0 ≠ bx) (han : a0 ≠ bn) (hxn : bx ≠ bn)
    (hB : ∀ k, (k = B1 ∨ k = B2 ∨ k = B3) → k < W0.heap.size ∧ k ≠ a0 ∧ k ≠ bx) (ha : a0 < W0.heap.size) :
    Boxed w5 bx 51 v ∧ RunL w W0 a0 bx bn n (R ++ [x]) (w5.setCell ⟨bx, 0, none⟩ v5) v5 (vs ++ [u]) ∧ KeepsFrom W0.heap.size W (w5.setCell ⟨bx, 0, none⟩ v5) ∧ KeepsFour B1 B2 B3 (W0.heap.size + 2) W (w5.setCell ⟨bx, 0, none⟩ v5) := by
  have hs4 := hb4.size
  have hs5 := hgr.size
  have hvx : v.ownBlock ≠ some bx := fun e => by have := h.far bx e; omega
  have hvn : v.ownBlock ≠ some bn := fun e => by have := h.far bn e; omega
  have h45 : ∀ k, k < w4.heap.size → v.ownBlock ≠ some k → w5.heap[k]? = w4.heap[k]? := fun k h1 h2 => hgr.block k h1 (fun e => h2 e.symm)
  have hset : ∀ k, k ≠ bx → (w5.setCell ⟨bx, 0, none⟩ v5).heap[k]? = w5.heap[k]? := fun k hk => Below.heap_setCell _ _ _ _ hk
  have hk5 : ∀ k, k < W.heap.size → k ≠ bx → v.ownBlock ≠ some k → (w5.setCell ⟨bx, 0, none⟩ v5).heap[k]? = W.heap[k]? := fun k h1 h2 h3 => (hset k h2).trans ((h45 k (by omega) h3).trans (hb4.block k h1))
  have hbx5 : Boxed w5 bx 51 v := (h45 bx (by omega) hvx).trans ((hb4.block bx (by omega)).trans h.box)
  have h4 : IntsRA w4 w.heap.size v vs (R.map ti) := intsRA_below h.rr hb4
  have hrr5 : IntsRA w5 w.heap.size v5 (vs ++ [u]) (R.map ti ++ [ti x]) := intsRA_snoc h4 (intsA_mono hu hB')
    (fun i u' hi k e1 e2 => by have := (intsRA_in h.rr hi e1).2; have := hub k e2; omega)
    (fun k e1 e2 => by have := (h.rr.outer.lt k e2).2; have := hub k e1; omega) hown hgr hwh
  have hv5 : ∀ k, v5.ownBlock = some k → k = a0 ∨ W0.heap.size + 3 ≤ k := by
    intro k e
    rcases hwh with e' | e'
    · exact h.far k (by rw [← e']; exact e)
    · rw [e'] at e
      have : w4.heap.size = k := Option.some.inj e
      omega
  have hvs5 : ∀ (i : Nat) (y : Value) (k : Nat), (vs ++ [u])[i]? = some y → y.ownBlock = some k → W0.heap.size + 3 ≤ k := by
    intro i y k h1 h2
    rcases snoc_get h1 with h1 | ⟨_, rfl⟩
    · exact h.far2 i y k h1 h2
    · have := hub k h2; omega
  refine ⟨hbx5, ⟨Boxed.set v5 hbx5, (World.cell?_of_block (hk5 bn (by omega) (by omega) hvn)).trans h.nb, ?_, ?_, by simp [World.setCell]; omega, hv5, hvs5⟩, ?_, ?_⟩
  · rw [List.map_append]
    exact intsRA_keep hrr5 (fun k e => hset k (fun e' => by have := hv5 k e; omega)) (fun i y k e1 e2 => hset k (fun e' => by have := hvs5 i y k e1 e2; omega))
  · have hb0 : Below w.heap.size w w5 := (h.bel.trans (hb4.mono h.bel.size)).grown hgr (by have := h.bel.size; omega) (fun r e => (h.rr.outer.lt r e).1)
    exact hb0.setCell hwx _
  · refine ⟨by simp [World.setCell]; omega, fun k o hk ho hc => ?_⟩
    have hkl : k < W.heap.size := (Array.getElem?_eq_some_iff.1 ho).1
    refine (hk5 k hkl (by omega) (fun e => ?_)).trans ho
    rcases h.rr.outer.2 with ⟨rfl, _⟩ | ⟨g, cap, cur, rfl, _, hgb, _⟩
    · cases e
    · have e' : g = k := by simpa [Value.ownBlock] using e
      subst e'
      rw [ho] at hgb
      cases hgb
      cases hc
  · intro k hk
    have hkk : k < W.heap.size ∧ k ≠ bx ∧ v.ownBlock ≠ some k := by
      rcases hk with hk | hk | hk | hk
      · have := hB k (.inl hk); exact ⟨by omega, this.2.2, fun e => by have := h.far k e; omega⟩
      · have := hB k (.inr (.inl hk)); exact ⟨by omega, this.2.2, fun e => by have := h.far k e; omega⟩
      · have := hB k (.inr (.inr hk)); exact ⟨by omega, this.2.2, fun e => by have := h.far k e; omega⟩
      · exact ⟨by omega, by omega, fun e => by have := h.far k e; omega⟩
    exact hk5 k hkk.1 hkk.2.1 hkk.2.2
end Go.Proofs.Ytkdoghopbefjfaa
