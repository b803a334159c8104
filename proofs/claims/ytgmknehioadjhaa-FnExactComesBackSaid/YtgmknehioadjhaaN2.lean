/- The model's table of elements: its search in one law; the table's own words. -/
import Derived.Test.YtgmknehioadjhaaN1
import Derived.Test.YtgmknehioadjhaaE2
import Derived.Deep.RegionLaw
namespace Go.Proofs.Ytgmknehioadjhaa
open Go.RowKit Go.BigFrame Go.Shelf
set_option linter.unusedSimpArgs false
set_option linter.unusedVariables false
set_option maxRecDepth 4000

theorem strs_row {w : World} {B : Nat} {v : Value} {ls : List (List UInt8)} : Strs w B v ls ↔ w.ownsRow B 9 1 v (ls.map bs).length ((ls.map bs).map .string) := by
  unfold Strs
  simp [List.map_map, Function.comp_def]
/-- What find leaves. -/
structure FindPost (W W' : World) (n₀ tp : Nat) (v0 v1 v2 v0' : Value) (ns : List (List UInt8)) : Prop where
  obj : W'.heap[tp]? = some (.cells #[v0', v1, v2] 50 (0, 0))
  row : Strs W' n₀ v0' ns
  place : v0'.ownBlock = v0.ownBlock ∨ ∃ g, v0'.ownBlock = some g ∧ W.heap.size ≤ g
  but : GrewBut W W' tp v0.ownBlock
theorem elFind_any (W : World) (n₀ tp : Nat) (v0 v1 v2 : Value) (ns : List (List UInt8)) (s : ByteArray) (p : List UInt8) (hp : s = bs p) (hobj : W.heap[tp]? = some (.cells #[v0, v1, v2] 50 (0, 0)))
    (hrow : Strs W n₀ v0 ns) (hn₀ : n₀ ≤ W.heap.size) (hn : ns.length ≤ 100000) :
    Calls Try.prog 69 #[.pointer (some ⟨tp, 0, none⟩), .string s] W fun e W' => e = .returned (.int .i64 (posN p ns : Nat)) ∧ ∃ v0', FindPost W W' n₀ tp v0 v1 v2 v0' (addN ns p) := by
  subst hp
  by_cases hm : posN p ns < ns.length
  · refine (elFind_look W n₀ tp v0 v1 v2 (ns.map bs) (bs p) hobj (strs_row.1 hrow) (by simpa using hn) (by have h := hm; unfold posN at h; simpa using h)).mono ?_
    rintro e W' ⟨rfl, rfl⟩
    refine ⟨rfl, v0, hobj, ?_, .inl rfl, ⟨rfl, rfl, rfl, Nat.le_refl _, fun _ _ _ _ => rfl⟩⟩
    unfold addN
    rw [if_pos hm]; exact hrow
  · refine (elFind_new W n₀ tp v0 v1 v2 (ns.map bs) (bs p) hobj (strs_row.1 hrow) hn₀ (by simpa using hn) (by have h := hm; unfold posN at h; simpa using h)).mono ?_
    rintro e W' ⟨rfl, v0', h1, h2, h3, h4⟩
    refine ⟨by rw [posN_new hm]; simp, v0', h1, ?_, h3, h4⟩
    unfold addN
    rw [if_neg hm]
    refine strs_row.2 ?_
    simpa using h2

/-- The model's table: its block, the names, so many rows, and the indices of the word's own parts. -/
structure TabM (W : World) (n₀ tp : Nat) (ns : List (List UInt8)) (nd : Nat) (xb : List Nat) (v0 v1 v2 : Value) : Prop where
  base : n₀ ≤ W.heap.size
  low : n₀ ≤ tp
  obj : W.heap[tp]? = some (.cells #[v0, v1, v2] 50 (0, 0))
  names : Strs W n₀ v0 ns
  rows : ∃ xd, W.ownsRow n₀ 30 1 v1 nd xd
  begin_ : Ints W n₀ v2 (natsI xb)
section
variable {W W' : World} {n₀ tp nd : Nat} {ns ns0 : List (List UInt8)} {xb : List Nat} {v0 v1 v2 v0' : Value}
theorem TabM.lt (h : TabM W n₀ tp ns nd xb v0 v1 v2) : tp < W.heap.size := (Array.getElem?_eq_some_iff.1 h.obj).1
theorem TabM.drew (h : TabM W n₀ tp ns nd xb v0 v1 v2) : TabM W.drew n₀ tp ns nd xb v0 v1 v2 := by
  obtain ⟨xd, h4⟩ := h.rows
  exact ⟨h.base, h.low, h.obj, own_block h.names (fun _ _ => rfl), ⟨xd, own_block h4 (fun _ _ => rfl)⟩, own_block h.begin_ (fun _ _ => rfl)⟩
theorem TabM.cell2 (h : TabM W n₀ tp ns nd xb v0 v1 v2) : W.cell? ⟨tp, 2, none⟩ = some v2 := by simp [World.cell?, h.obj]
theorem TabM.below (h : TabM W n₀ tp ns nd xb v0 v1 v2) (hb : Below W.heap.size W W') : TabM W' n₀ tp ns nd xb v0 v1 v2 := by
  obtain ⟨xd, h4⟩ := h.rows
  exact ⟨Nat.le_trans h.base hb.size, h.low, (hb.block tp h.lt).trans h.obj, own_below h.names hb, ⟨xd, own_below h4 hb⟩, own_below h.begin_ hb⟩
end
theorem ne_types {W : World} {B B' n m : Nat} {E E' : TypeId} {v v' : Value} {xs ys : List Value} (h : W.ownsRow B E 1 v n xs) (h' : W.ownsRow B' E' 1 v' m ys) (hE : E ≠ E') {k : Nat} (hk : v.ownBlock = some k) : v'.ownBlock ≠ some k := by
  intro hk'
  rcases h.2 with ⟨rfl, _⟩ | ⟨g, cap, cur, rfl, _, hg, _⟩
  · cases hk
  · rcases h'.2 with ⟨rfl, _⟩ | ⟨g', cap', cur', rfl, _, hg', _⟩
    · cases hk'
    · simp only [Value.ownBlock, Option.some.injEq] at hk hk'
      subst hk
      rw [hk', hg] at hg'
      simp at hg'
      exact hE hg'.2
/-- Behind find: a row of another type than the names' is as it was. -/
theorem FindPost.row_kept {W W' : World} {n₀ tp : Nat} {v0 v1 v2 v0' : Value} {ns ns0 : List (List UInt8)} (h : FindPost W W' n₀ tp v0 v1 v2 v0' ns) (hobj : W.heap[tp]? = some (.cells #[v0, v1, v2] 50 (0, 0))) (hrow : Strs W n₀ v0 ns0)
    {B n : Nat} {E : TypeId} {v : Value} {xs : List Value} (hr : W.ownsRow B E 1 v n xs) (hE : 9 ≠ E) (hT : 50 ≠ E) : W'.ownsRow B E 1 v n xs := by
  refine own_block hr (fun g hg => h.but.block g (hr.lt g hg).2 (fun e => ?_) (fun e => ?_))
  · subst e; exact not_row3 hobj hT hr hg
  · exact ne_types hrow hr hE e hg
theorem FindPost.tab {W W' : World} {n₀ tp nd : Nat} {xb : List Nat} {v0 v1 v2 v0' : Value} {ns ns0 : List (List UInt8)} (h : FindPost W W' n₀ tp v0 v1 v2 v0' ns) (ht : TabM W n₀ tp ns0 nd xb v0 v1 v2) : TabM W' n₀ tp ns nd xb v0' v1 v2 := by
  obtain ⟨xd, h4⟩ := ht.rows
  exact ⟨Nat.le_trans ht.base h.but.size, ht.low, h.obj, h.row, ⟨xd, h.row_kept ht.obj ht.names h4 (by decide) (by decide)⟩, h.row_kept ht.obj ht.names ht.begin_ (by decide) (by decide)⟩
theorem FindPost.below {W W' : World} {n₀ tp : Nat} {v0 v1 v2 v0' : Value} {ns ns0 : List (List UInt8)} (h : FindPost W W' n₀ tp v0 v1 v2 v0' ns) (hrow : Strs W n₀ v0 ns0) (ht : n₀ ≤ tp) (hn : n₀ ≤ W.heap.size) : Below n₀ W W' :=
  ⟨h.but.os, h.but.tape, h.but.output, h.but.size, fun k hk => h.but.block k (by omega) (by omega) (fun e => by have := (hrow.lt k e).1; omega)⟩
/-! ### a field of the table is laid anew -/
theorem set_obj {W : World} {tp i : Nat} {cs : Array Value} {T : TypeId} {v : Value} (h : W.heap[tp]? = some (.cells cs T (0, 0))) : (W.setCell ⟨tp, i, none⟩ v).heap[tp]? = some (.cells (cs.setIfInBounds i v) T (0, 0)) := by
  obtain ⟨hlt, hk⟩ := Array.getElem?_eq_some_iff.1 h
  show (W.heap.modify tp _)[tp]? = _
  rw [Array.getElem?_eq_getElem (by rw [Array.size_modify]; exact hlt), Array.getElem_modify_self, hk]
  rfl
theorem row_set {W : World} {tp i : Nat} {cs : Array Value} {T : TypeId} {v : Value} (h : W.heap[tp]? = some (.cells cs T (0, 0))) {B n : Nat} {E : TypeId} {u : Value} {xs : List Value} (hr : W.ownsRow B E 1 u n xs) (hT : T ≠ E) : (W.setCell ⟨tp, i, none⟩ v).ownsRow B E 1 u n xs := by
  refine own_block hr (fun g hg => Below.heap_setCell _ _ _ _ (fun e => ?_))
  subst e
  exact not_row3 h hT hr hg
/-- An index is laid behind the word's own ones: what is behind the store. -/
theorem begin_step {W2 w4 : World} {n₀ tp nd : Nat} {ns : List (List UInt8)} {xb : List Nat} {v0 v1 v2 v3 : Value} {x : Nat} (ht : TabM W2 n₀ tp ns nd xb v0 v1 v2)
    (hown : w4.ownsRow n₀ 3 1 v3 ((natsI xb).length + 1) ((natsI xb).map (.int .i64) ++ [.int .i64 (x : Nat)])) (hg : (W2.alloc (.cells #[.int .i64 (x : Nat)] 3)).grownBy w4 v2.ownBlock) :
    TabM (w4.setCell ⟨tp, 2, none⟩ v3) n₀ tp ns nd (xb ++ [x]) v0 v1 v3 ∧ w4.heap[tp]? = some (.cells #[v0, v1, v2] 50 (0, 0)) ∧
      (∀ g, g < W2.heap.size → g ≠ tp → v2.ownBlock ≠ some g → (w4.setCell ⟨tp, 2, none⟩ v3).heap[g]? = W2.heap[g]?) ∧ Below n₀ W2 (w4.setCell ⟨tp, 2, none⟩ v3) := by
  obtain ⟨xd, h4⟩ := ht.rows
  have hk : ∀ g, g < W2.heap.size → v2.ownBlock ≠ some g → w4.heap[g]? = W2.heap[g]? := fun g h1 h2 => (hg.block g (by simp; omega) (fun e => h2 e.symm)).trans (heap_alloc_old _ _ h1)
  have hne2 : v2.ownBlock ≠ some tp := not_row3 ht.obj (by decide) ht.begin_
  have ho : w4.heap[tp]? = some (.cells #[v0, v1, v2] 50 (0, 0)) := (hk tp ht.lt hne2).trans ht.obj
  have hsz := hg.size
  rw [World.size_alloc] at hsz
  have hn : Strs w4 n₀ v0 ns := own_block ht.names (fun g hg' => hk g (ht.names.lt g hg').2 (fun e => ne_types ht.begin_ ht.names (by decide) e hg'))
  have hr : w4.ownsRow n₀ 30 1 v1 nd xd := own_block h4 (fun g hg' => hk g (h4.lt g hg').2 (fun e => ne_types ht.begin_ h4 (by decide) e hg'))
  refine ⟨⟨by simp; have := ht.base; omega, ht.low, set_obj ho, row_set ho hn (by decide), ⟨xd, row_set ho hr (by decide)⟩, ?_⟩, ho, fun g h1 h2 h3 => (Below.heap_setCell _ _ _ _ h2).trans (hk g h1 h3), ?_⟩
  · have h5 := row_set (i := 2) (v := v3) ho hown (by decide)
    unfold Ints
    rw [show natsI (xb ++ [x]) = natsI xb ++ [(x : Int)] by simp [natsI]]
    simpa using h5
  · refine Below.setCell ?_ ht.low _
    exact ⟨hg.os, hg.tape, hg.output, by omega, fun g h1 => hk g (by have := ht.base; omega) (fun e => by have := (ht.begin_.lt g e).1; omega)⟩
/-- A row of numbers beside the table grows. -/
theorem TabM.beside {W W' : World} {n₀ tp nd B m : Nat} {ns : List (List UInt8)} {xb : List Nat} {v0 v1 v2 rv : Value} {xs : List Value} {o : Obj} (ht : TabM W n₀ tp ns nd xb v0 v1 v2)
    (hr : W.ownsRow B 3 1 rv m xs) (hB : n₀ ≤ B) (h2 : ∀ g, v2.ownBlock = some g → g < B) (hg : (W.alloc o).grownBy W' rv.ownBlock) :
    TabM W' n₀ tp ns nd xb v0 v1 v2 ∧ (∀ g, g < W.heap.size → rv.ownBlock ≠ some g → W'.heap[g]? = W.heap[g]?) ∧ Below n₀ W W' := by
  obtain ⟨xd, h4⟩ := ht.rows
  have hk : ∀ g, g < W.heap.size → rv.ownBlock ≠ some g → W'.heap[g]? = W.heap[g]? := fun g h1 h2 => (hg.block g (by simp; omega) (fun e => h2 e.symm)).trans (heap_alloc_old _ _ h1)
  have hsz := hg.size
  rw [World.size_alloc] at hsz
  refine ⟨⟨by have := ht.base; omega, ht.low, (hk tp ht.lt (not_row3 ht.obj (by decide) hr)).trans ht.obj, own_block ht.names (fun g hg' => hk g (ht.names.lt g hg').2 (fun e => ne_types hr ht.names (by decide) e hg')),
    ⟨xd, own_block h4 (fun g hg' => hk g (h4.lt g hg').2 (fun e => ne_types hr h4 (by decide) e hg'))⟩, own_block ht.begin_ (fun g hg' => hk g (ht.begin_.lt g hg').2 (fun e => ?_))⟩, hk, ?_⟩
  · have := h2 g hg'; have := (hr.lt g e).1; omega
  · exact ⟨hg.os, hg.tape, hg.output, by omega, fun g h1 => hk g (by have := ht.base; omega) (fun e => by have := (hr.lt g e).1; omega)⟩
/-- A row is laid behind the others: what is behind the store. -/
theorem rows_step {W2 w4 : World} {n₀ tp nd : Nat} {ns : List (List UInt8)} {xb : List Nat} {v0 v1 v2 v3 x : Value} {xd : List Value} {o : Obj} (ht : TabM W2 n₀ tp ns nd xb v0 v1 v2) (h4 : W2.ownsRow n₀ 30 1 v1 nd xd)
    (hown : w4.ownsRow n₀ 30 1 v3 (nd + 1) (xd ++ [x])) (hg : (W2.alloc o).grownBy w4 v1.ownBlock) :
    TabM (w4.setCell ⟨tp, 1, none⟩ v3) n₀ tp ns (nd + 1) xb v0 v3 v2 ∧ w4.heap[tp]? = some (.cells #[v0, v1, v2] 50 (0, 0)) ∧ Below n₀ W2 (w4.setCell ⟨tp, 1, none⟩ v3) := by
  have hk : ∀ g, g < W2.heap.size → v1.ownBlock ≠ some g → w4.heap[g]? = W2.heap[g]? := fun g h1 h2 => (hg.block g (by simp; omega) (fun e => h2 e.symm)).trans (heap_alloc_old _ _ h1)
  have ho : w4.heap[tp]? = some (.cells #[v0, v1, v2] 50 (0, 0)) := (hk tp ht.lt (not_row3 ht.obj (by decide) h4)).trans ht.obj
  have hsz := hg.size
  rw [World.size_alloc] at hsz
  have hn : Strs w4 n₀ v0 ns := own_block ht.names (fun g hg' => hk g (ht.names.lt g hg').2 (fun e => ne_types h4 ht.names (by decide) e hg'))
  have hb : Ints w4 n₀ v2 (natsI xb) := own_block ht.begin_ (fun g hg' => hk g (ht.begin_.lt g hg').2 (fun e => ne_types h4 ht.begin_ (by decide) e hg'))
  refine ⟨⟨by simp; have := ht.base; omega, ht.low, set_obj ho, row_set ho hn (by decide), ⟨_, row_set ho hown (by decide)⟩, row_set ho hb (by decide)⟩, ho, ?_⟩
  refine Below.setCell ?_ ht.low _
  exact ⟨hg.os, hg.tape, hg.output, by omega, fun g h1 => hk g (by have := ht.base; omega) (fun e => by have := (h4.lt g e).1; omega)⟩
theorem TabM.cell0 {W : World} {n₀ tp nd : Nat} {ns : List (List UInt8)} {xb : List Nat} {v0 v1 v2 : Value} (h : TabM W n₀ tp ns nd xb v0 v1 v2) : W.cell? ⟨tp, 0, none⟩ = some v0 := by simp [World.cell?, h.obj]
theorem TabM.cell1 {W : World} {n₀ tp nd : Nat} {ns : List (List UInt8)} {xb : List Nat} {v0 v1 v2 : Value} (h : TabM W n₀ tp ns nd xb v0 v1 v2) : W.cell? ⟨tp, 1, none⟩ = some v1 := by simp [World.cell?, h.obj]
end Go.Proofs.Ytgmknehioadjhaa
