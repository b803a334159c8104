/- Chapter 6: all forms by the model: a recursion that hands on the address of the list. -/
import Derived.Test.YtpglkgpaaflikaaZ5
namespace Go.Proofs.Ytpglkgpaaflikaa
open Go.RowKit Go.BigFrame Go.Maps
set_option linter.unusedSimpArgs false
set_option linter.unusedVariables false
set_option maxRecDepth 4000

theorem info_rowT : (Try.prog.info? 22).map (fun i => (i.zero, i.size, i.bytes)) = some (some (.slice none 0 0), 1, 24) := by kernel_rfl
/-- Blocks of numbers are as they were. -/
def KeepInt (w w' : World) : Prop := ∀ (g : Nat) (cs : Array Value) (fr : Nat × Nat), w.heap[g]? = some (Obj.cells cs 3 fr) → w'.heap[g]? = w.heap[g]?
theorem keepInt_refl (w : World) : KeepInt w w := fun _ _ _ _ => rfl
theorem KeepInt.trans {a b c : World} (h : KeepInt a b) (k : KeepInt b c) : KeepInt a c := fun g cs fr hg => by
  have h1 := h g cs fr hg
  exact (k g cs fr (h1.trans hg)).trans h1
theorem keepInt_below {w w' : World} (hb : Below w.heap.size w w') : KeepInt w w' := fun g cs fr hg => hb.block g (Array.getElem?_eq_some_iff.1 hg).1
theorem KeepInt.ints {w w' : World} (h : KeepInt w w') {B : Nat} {u : Value} {xs : List Int} (hu : Ints w B u xs) : Ints w' B u xs := by
  refine ⟨hu.1, ?_⟩
  rcases hu.2 with e | ⟨g, cap, cur, e, h1, h2, rest⟩
  · exact .inl e
  · exact .inr ⟨g, cap, cur, e, h1, (h g _ _ h2).trans h2, rest⟩
theorem rr_snoc {w w' : World} {B : Nat} {v v' u : Value} {vs : List Value} {R : List (List Int)} {xs : List Int} (h : IntsRR w B v vs R) (hu : Ints w B u xs)
    (hnew : ∀ (i : Nat) (u' : Value), vs[i]? = some u' → Apart u' u) (hown : w'.ownsRow B 22 1 v' (vs.length + 1) (vs ++ [u])) (hg : w.grownBy w' v.ownBlock) : IntsRR w' B v' (vs ++ [u]) (R ++ [xs]) := by
  unfold IntsRR
  rw [List.map_append]
  refine ownsRR_snoc h (by unfold Ints at hu; simpa using hu) hnew ?_ hown hg (by decide)
  exact apart_types hu h.outer (by decide)
theorem rr_new {w : World} {B B2 : Nat} {v u : Value} {vs : List Value} {R : List (List Int)} (h : IntsRR w B v vs R) (hB : ∀ g, u.ownBlock = some g → B2 ≤ g) (hlt : ∀ (i : Nat) (u' : Value) (g : Nat), vs[i]? = some u' → u'.ownBlock = some g → g < B2) : ∀ (i : Nat) (u' : Value), vs[i]? = some u' → Apart u' u := fun i u' hi g h1 h2 => by
  have := hlt i u' g hi h1
  have := hB g h2
  omega
/-- The list behind its address. -/
structure OutAt (w : World) (B ob : Nat) (v : Value) (vs : List Value) (R : List (List Int)) : Prop where
  box : w.heap[ob]? = some (.cells #[v] 37 (0, 0))
  le : B ≤ ob
  rr : IntsRR w B v vs R
  len : R.length ≤ 1000
theorem OutAt.below {w w' : World} {B ob : Nat} {v : Value} {vs : List Value} {R : List (List Int)} (h : OutAt w B ob v vs R) (hb : Below w.heap.size w w') : OutAt w' B ob v vs R :=
  ⟨(hb.block ob (Array.getElem?_eq_some_iff.1 h.box).1).trans h.box, h.le, ownsRR_below h.rr hb, h.len⟩
theorem rr_lt {w : World} {B : Nat} {v : Value} {vs : List Value} {R : List (List Int)} (h : IntsRR w B v vs R) (i : Nat) (u : Value) (g : Nat) (hi : vs[i]? = some u) (hg : u.ownBlock = some g) : g < w.heap.size := by
  obtain ⟨u', xs, e1, e2, e3⟩ := ownsRR_row h i (get_lt hi)
  rw [hi] at e1; cases e1
  exact (e3.lt g hg).2
/-- What a row, appended to the list, leaves: for the walk. -/
theorem out_app {w0 w : World} {B ob : Nat} {v u : Value} {vs : List Value} {R : List (List Int)} {b : List Int} (h : OutAt w0 B ob v vs R) (hb : Below w0.heap.size w0 w) (hu : Ints w w0.heap.size u b) (hBw : B ≤ w0.heap.size) (hR : R.length + 1 ≤ 1000) :
    ∃ v' w', (Builtin.append_ #[37, 37] 37 #[v, .slice (some ⟨w.heap.size, 0, none⟩) 1 1]).run Try.prog (w.alloc (.cells #[u] 22)) = .ok v' w' ∧
      w'.cell? ⟨ob, 0, none⟩ = some v ∧ w'.frozen? ⟨ob, 0, none⟩ = false ∧ OutAt (w'.setCell ⟨ob, 0, none⟩ v') B ob v' (vs ++ [u]) (R ++ [b]) ∧ Below B w0 (w'.setCell ⟨ob, 0, none⟩ v') ∧ KeepInt w0 (w'.setCell ⟨ob, 0, none⟩ v') := by
  obtain ⟨i0, hi, hz0, hz1, hz2⟩ := info_parts info_rowT
  have h1 := h.below hb
  have hsz := hb.size
  have hlen : vs.length ≤ 999 := by have := h.rr.len; simp at this; omega
  have hB2 : B ≤ (w.alloc (.cells #[u] 22)).heap.size := by simp; omega
  obtain ⟨v', w', hr, ho, hg, _⟩ := run_append_own (P := Try.prog) (w.alloc (.cells #[u] 22)) B 37 37 22 i0 (.slice none 0 0) 1 24 Try.underlying37 hi hz0 hz1 hz2 rfl (by decide) v vs.length vs (own_below h1.rr.outer (below_alloc w _)) ⟨w.heap.size, 0, none⟩ 1 1 [u] rfl (cell_one_new _ _ _) (by
    intro x hx; simp at hx; subst hx
    rcases own_slice hu with ⟨a, c, rfl⟩; rfl) (by unfold maxLen; omega) (by omega) hB2
  have hbx : (w.alloc (.cells #[u] 22)).heap[ob]? = some (.cells #[v] 37 (0, 0)) := ((below_alloc w _).block ob (Array.getElem?_eq_some_iff.1 h1.box).1).trans h1.box
  have hvo : some ob ≠ v.ownBlock := fun e => by
    rcases own_open h1.rr.outer with ⟨e1, _⟩ | ⟨g, c, e1, _⟩
    · rw [e1] at e; cases e
    · have hg' : g = ob := by rw [e1] at e; exact (Option.some.inj e).symm
      rcases h1.rr.outer.2 with ⟨e2, _⟩ | ⟨g2, c2, cur, e2, _, hcur, _⟩
      · rw [e1] at e2; cases e2
      · rw [e1] at e2; cases e2
        rw [hg', h1.box] at hcur
        cases hcur
  have hbw : w'.heap[ob]? = some (.cells #[v] 37 (0, 0)) := (hg.block ob (Array.getElem?_eq_some_iff.1 hbx).1 hvo).trans hbx
  have hset : ∀ g, g ≠ ob → (w'.setCell ⟨ob, 0, none⟩ v').heap[g]? = w'.heap[g]? := fun g hg => Below.heap_setCell _ _ _ _ (by simpa using hg)
  have hrr : IntsRR w' B v' (vs ++ [u]) (R ++ [b]) := by
    refine rr_snoc (ownsRR_below h1.rr (below_alloc w _)) (own_mono (own_below hu (below_alloc w _)) hBw) (rr_new (B2 := w0.heap.size) h1.rr (fun g e => (hu.lt g e).1) (fun i u' g e1 e2 => rr_lt h.rr i u' g e1 e2)) ho hg
  have hkeep : ∀ g, (∃ cs fr T, w'.heap[g]? = some (.cells cs T fr) ∧ T ≠ 37) → g ≠ ob := fun g ⟨cs, fr, T, e, hT⟩ e2 => by
    subst e2; rw [hbw] at e; cases e; exact hT rfl
  have hrows : ∀ {E : TypeId} {x : Value} {n : Nat} {ys : List Value}, E ≠ 37 → w'.ownsRow B E 1 x n ys → (w'.setCell ⟨ob, 0, none⟩ v').ownsRow B E 1 x n ys := fun hE hx => by
    refine own_block hx (fun g e => hset g (hkeep g ?_))
    rcases hx.2 with ⟨e1, _⟩ | ⟨g2, c2, cur, e1, _, hcur, _⟩
    · rw [e1] at e; cases e
    · rw [e1] at e; cases e; exact ⟨_, _, _, hcur, hE⟩
  refine ⟨v', w', hr, by simp only [World.cell?, hbw]; rfl, by simp only [World.frozen?, hbw]; simp, ⟨?_, h.le, ⟨hrows (by decide) hrr.outer, hrr.len, fun i u' xs e1 e2 => hrows (by decide) (hrr.inner i u' xs e1 e2), hrr.apart, hrr.alone⟩, by simp; omega⟩, ?_, ?_⟩
  · rw [heap_setCell_same w' ob 0 _ _ _ hbw]; rfl
  · refine (((hb.mono hBw).alloc (by omega) (.cells #[u] 22)).grown hg hB2 (fun g e => (h.rr.outer.lt g e).1)).setCell h.le _
  · intro g cs fr e
    have hgw : g < w0.heap.size := (Array.getElem?_eq_some_iff.1 e).1
    have e1 : w.heap[g]? = w0.heap[g]? := hb.block g hgw
    have e2 : (w.alloc (.cells #[u] 22)).heap[g]? = w.heap[g]? := heap_alloc_old _ _ (by omega)
    have e3 : w'.heap[g]? = (w.alloc (.cells #[u] 22)).heap[g]? := hg.block g (by simp; omega) (fun e' => by
      rcases h1.rr.outer.2 with ⟨e4, _⟩ | ⟨g2, c2, cur, e4, _, hcur, _⟩
      · rw [e4] at e'; cases e'
      · rw [e4] at e'; cases e'
        rw [e1, e] at hcur; cases hcur)
    have e5 : w'.heap[g]? = w0.heap[g]? := e3.trans (e2.trans e1)
    rw [hset g (hkeep g ⟨cs, fr, _, e5.trans e, by decide⟩)]
    exact e5
end Go.Proofs.Ytpglkgpaaflikaa
