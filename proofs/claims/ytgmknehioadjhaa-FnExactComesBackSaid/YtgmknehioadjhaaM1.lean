/- The table's rows: what each element decays into, as places in the final list of names; rows of cells that lie still. -/
import Derived.Test.YtgmknehioadjhaaN2
namespace Go.Proofs.Ytgmknehioadjhaa
open Go.RowKit Go.BigFrame
set_option linter.unusedSimpArgs false
set_option linter.unusedVariables false
set_option maxRecDepth 4000

theorem posN_addN {p : List UInt8} {ns : List (List UInt8)} (q : List UInt8) (h : p ∈ ns) : posN p (addN ns q) = posN p ns := by
  unfold addN; split
  · rfl
  · exact posN_old q h
theorem mem_addN_old {p : List UInt8} {ns : List (List UInt8)} (q : List UInt8) (h : p ∈ ns) : p ∈ addN ns q := by
  unfold addN; split
  · exact h
  · simp [h]
theorem mem_addN_new (p : List UInt8) (ns : List (List UInt8)) : p ∈ addN ns p := by
  unfold addN; split
  · rename_i h; exact posN_mem.1 h
  · simp
theorem posN_nmT {p : List UInt8} : ∀ (P ns : List (List UInt8)), p ∈ ns → posN p (nmT ns P) = posN p ns
  | [], _, _ => rfl
  | q :: P, ns, h => by rw [nmT, posN_nmT P _ (mem_addN_old q h), posN_addN q h]
theorem mem_nmT_old {p : List UInt8} : ∀ (P ns : List (List UInt8)), p ∈ ns → p ∈ nmT ns P
  | [], _, h => h
  | q :: P, ns, h => mem_nmT_old P _ (mem_addN_old q h)
theorem mem_nmT_new {p : List UInt8} : ∀ (P ns : List (List UInt8)), p ∈ P → p ∈ nmT ns P
  | [], _, h => by simp at h
  | q :: P, ns, h => by
    rcases List.mem_cons.1 h with rfl | h1
    · exact mem_nmT_old P _ (mem_addN_new _ _)
    · exact mem_nmT_new P _ h1
theorem posN_addN_self (p : List UInt8) (ns : List (List UInt8)) : posN p (addN ns p) = posN p ns := by
  unfold addN; split
  · rfl
  · rename_i h; rw [posN_last h, posN_new h]
theorem ixT_map : ∀ (P ns : List (List UInt8)), ixT ns P = P.map fun p => posN p (nmT ns P)
  | [], _ => rfl
  | q :: P, ns => by
    rw [ixT, List.map_cons, ixT_map P (addN ns q)]
    show posN q ns :: _ = posN q (nmT (addN ns q) P) :: _
    rw [posN_nmT P _ (mem_addN_new q ns), posN_addN_self]
    rfl
theorem addN_get {ns : List (List UInt8)} {k : Nat} {p : List UInt8} (q : List UInt8) (h : ns[k]? = some p) : (addN ns q)[k]? = some p := by
  unfold addN; split
  · exact h
  · have hk := (List.getElem?_eq_some_iff.1 h).1
    rw [List.getElem?_append_left hk]; exact h
theorem nmT_get {k : Nat} {p : List UInt8} : ∀ (P ns : List (List UInt8)), ns[k]? = some p → (nmT ns P)[k]? = some p
  | [], _, h => h
  | q :: P, ns, h => nmT_get P _ (addN_get q h)
/-- What an element decays into, as places among the names. -/
def linkL (ns : List (List UInt8)) (p : List UInt8) : List Nat := (sdP p).map fun q => posN q ns
theorem linkL_nmT {ns : List (List UInt8)} {p : List UInt8} (P : List (List UInt8)) (h : ∀ q ∈ sdP p, q ∈ ns) : linkL (nmT ns P) p = linkL ns p := by
  unfold linkL
  exact List.map_congr_left (fun q hq => posN_nmT P ns (h q hq))
theorem linkL_ix (ns : List (List UInt8)) (p : List UInt8) : linkL (nmT ns (sdP p)) p = ixT ns (sdP p) := by rw [ixT_map]; rfl
theorem linkL_len (ns : List (List UInt8)) (p : List UInt8) : (linkL ns p).length = (sdP p).length := by unfold linkL; simp
/-- Along the rounds the places stay. -/
theorem runF_pos : ∀ (f k : Nat) (ns r : List (List UInt8)), runF f k ns = some r → ∀ p ∈ ns, p ∈ r ∧ posN p r = posN p ns
  | 0, _, _, _, h => by cases h
  | f + 1, k, ns, r, h => fun p hp => by
    rw [runF] at h
    split at h
    · split at h
      · cases h
      · split at h
        · cases h
        · obtain ⟨h1, h2⟩ := runF_pos f _ _ _ h p (mem_nmT_old _ _ hp)
          exact ⟨h1, by rw [h2, posN_nmT _ _ hp]⟩
    · cases h; exact ⟨hp, rfl⟩

/-! ### rows that lie still -/
/-- A row's block: its cells. -/
def RowX (T : TypeId) (W : World) (n₀ top : Nat) (v : Value) (n : Nat) (cells : List Value) : Prop :=
  ∃ g c cur, v = .slice (some ⟨g, 0, none⟩) n c ∧ n₀ ≤ g ∧ g < top ∧ W.heap[g]? = some (.cells cur T (0, 0)) ∧ ∀ i (h : i < cells.length), cur[i]? = some cells[i]
theorem RowX.keep {T : TypeId} {W W' : World} {n₀ top top' n : Nat} {v : Value} {cells : List Value} (h : RowX T W n₀ top v n cells) (hk : ∀ g cur, g < top → W.heap[g]? = some (.cells cur T (0, 0)) → W'.heap[g]? = W.heap[g]?) (ht : top ≤ top') : RowX T W' n₀ top' v n cells := by
  obtain ⟨g, c, cur, rfl, h1, h2, h3, h4⟩ := h
  exact ⟨g, c, cur, rfl, h1, by omega, (hk g cur h2 h3).trans h3, h4⟩
theorem RowX.cell {T : TypeId} {W : World} {n₀ top n : Nat} {v : Value} {cells : List Value} (h : RowX T W n₀ top v n cells) : ∃ g c, v = .slice (some ⟨g, 0, none⟩) n c ∧ n₀ ≤ g ∧ g < W.heap.size ∧ (∀ i (h : i < cells.length), W.cell? ⟨g, i, none⟩ = some cells[i]) := by
  obtain ⟨g, c, cur, rfl, h1, h2, h3, h4⟩ := h
  refine ⟨g, c, rfl, h1, (Array.getElem?_eq_some_iff.1 h3).1, fun i hi => ?_⟩
  simp only [World.cell?, h3]
  simpa using h4 i hi
theorem RowX.of_own {T : TypeId} {W : World} {B n₀ s n : Nat} {v : Value} {xs : List Value} (h : W.ownsRow B T s v n xs) (h0 : 0 < n) (hs : 0 < s) (hB : n₀ ≤ B) : RowX T W n₀ W.heap.size v n xs := by
  obtain ⟨hl, h2⟩ := h
  rcases h2 with ⟨rfl, rfl⟩ | ⟨g, cap, cur, rfl, hb, hg, hn, hm, hsz, ht⟩
  · omega
  · refine ⟨g, cap, cur, rfl, by omega, (Array.getElem?_eq_some_iff.1 hg).1, hg, fun i hi => ?_⟩
    have hlen : xs.length = n * s := by simpa using hl
    have e1 : (cur.toList.take (n * s))[i]? = xs[i]? := by rw [ht]
    rw [List.getElem?_take, if_pos (by omega), Array.getElem?_toList] at e1
    rw [e1, List.getElem?_eq_getElem hi]

/-- Rows by the names: row k tells what name k decays into. -/
def RowsX (T E : TypeId) (enc : Nat → List Nat → List Value) (W : World) (n₀ top : Nat) (v : Value) (K : Nat) (ns : List (List UInt8)) : Prop :=
  ∃ xd, W.ownsRow n₀ E 1 v K xd ∧ ∀ k, k < K → ∃ p u, ns[k]? = some p ∧ xd[k]? = some u ∧ RowX T W n₀ top u (sdP p).length (enc k (linkL ns p)) ∧ ∀ q ∈ sdP p, q ∈ ns
section
variable {T E : TypeId} {enc : Nat → List Nat → List Value} {W W' : World} {n₀ top top' K : Nat} {v v' u : Value} {ns : List (List UInt8)} {xd : List Value} {p : List UInt8}
theorem RowsX.nil0 : RowsX T E enc W n₀ top (.slice none 0 0) 0 ns := ⟨[], World.ownsRow_nil _ _ _ _, fun k h => by omega⟩
theorem RowsX.keep (h : RowsX T E enc W n₀ top v K ns) (hk : ∀ g cur, g < top → W.heap[g]? = some (.cells cur T (0, 0)) → W'.heap[g]? = W.heap[g]?) (hv : ∀ g, v.ownBlock = some g → W'.heap[g]? = W.heap[g]?) (ht : top ≤ top') : RowsX T E enc W' n₀ top' v K ns := by
  obtain ⟨xd, h1, h2⟩ := h
  refine ⟨xd, own_block h1 hv, fun k hk' => ?_⟩
  obtain ⟨p, u, e1, e2, e3, e4⟩ := h2 k hk'
  exact ⟨p, u, e1, e2, e3.keep hk ht, e4⟩
theorem RowsX.below (h : RowsX T E enc W n₀ top v K ns) (hb : Below W.heap.size W W') : RowsX T E enc W' n₀ top v K ns := by
  obtain ⟨xd, h1, h2⟩ := id h
  exact h.keep (fun g cur _ hg => hb.block g (Array.getElem?_eq_some_iff.1 hg).1) (fun g e => hb.block g (h1.lt g e).2) (Nat.le_refl _)
theorem RowsX.names (h : RowsX T E enc W n₀ top v K ns) (P : List (List UInt8)) : RowsX T E enc W n₀ top v K (nmT ns P) := by
  obtain ⟨xd, h1, h2⟩ := h
  refine ⟨xd, h1, fun k hk => ?_⟩
  obtain ⟨p, u, e1, e2, e3, e4⟩ := h2 k hk
  exact ⟨p, u, nmT_get P ns e1, e2, by rw [linkL_nmT P e4]; exact e3, fun q hq => mem_nmT_old P ns (e4 q hq)⟩
theorem RowsX.name (h : RowsX T E enc W n₀ top v K ns) (q : List UInt8) : RowsX T E enc W n₀ top v K (addN ns q) := h.names [q]
theorem RowsX.le (h : RowsX T E enc W n₀ top v K ns) : K ≤ ns.length := by
  obtain ⟨xd, _, h2⟩ := h
  rcases Nat.lt_or_ge ns.length K with hk | hk
  · obtain ⟨p, u, e1, _⟩ := h2 ns.length hk
    exact absurd (List.getElem?_eq_some_iff.1 e1).1 (Nat.lt_irrefl _)
  · exact hk
theorem RowsX.mono (h : RowsX T E enc W n₀ top v K ns) {B : Nat} (hB : B ≤ n₀) : RowsX T E enc W B top v K ns := by
  obtain ⟨xd, h1, h2⟩ := h
  refine ⟨xd, own_mono h1 hB, fun k hk => ?_⟩
  obtain ⟨p, u, e1, e2, ⟨g, c, cur, e5, e6, e7⟩, e4⟩ := h2 k hk
  exact ⟨p, u, e1, e2, ⟨g, c, cur, e5, by omega, e7⟩, e4⟩
theorem RowsX.snoc (h1 : W.ownsRow n₀ E 1 v K xd) (h2 : ∀ k, k < K → ∃ p u, ns[k]? = some p ∧ xd[k]? = some u ∧ RowX T W n₀ top u (sdP p).length (enc k (linkL ns p)) ∧ ∀ q ∈ sdP p, q ∈ ns)
    (hk : ∀ g cur, g < top → W.heap[g]? = some (.cells cur T (0, 0)) → W'.heap[g]? = W.heap[g]?) (ht : top ≤ top') (hown : W'.ownsRow n₀ E 1 v' (K + 1) (xd ++ [u])) (hp : ns[K]? = some p) (hu : RowX T W' n₀ top' u (sdP p).length (enc K (linkL ns p))) (hm : ∀ q ∈ sdP p, q ∈ ns) :
    RowsX T E enc W' n₀ top' v' (K + 1) ns := by
  have hl : xd.length = K := by have := h1.1; simpa using this
  refine ⟨_, hown, fun k hk' => ?_⟩
  by_cases e : k = K
  · subst e
    exact ⟨p, u, hp, by rw [List.getElem?_append_right (by omega)]; simp [hl], hu, hm⟩
  · obtain ⟨q, u', e1, e2, e3, e4⟩ := h2 k (by omega)
    exact ⟨q, u', e1, by rw [List.getElem?_append_left (by omega)]; exact e2, e3.keep hk ht, e4⟩
end
abbrev encM (_ : Nat) (l : List Nat) : List Value := (natsI l).map (.int .i64)
def encD (k : Nat) (l : List Nat) : List Value := l.flatMap fun x => [.int .i64 (k : Nat), .int .i64 (x : Nat)]
abbrev RowsM := RowsX 3 30 encM
abbrev RowsD := RowsX 78 76 encD

theorem other_obj {W : World} {g h : Nat} {cs ds : Array Value} {T U : TypeId} {fr fs : Nat × Nat} (h1 : W.heap[g]? = some (.cells cs T fr)) (h2 : W.heap[h]? = some (.cells ds U fs)) (hT : T ≠ U) : g ≠ h := by
  rintro rfl
  rw [h1] at h2; simp at h2; exact hT h2.2.1
section
variable {W W' w4 : World} {n₀ top K tp : Nat} {v0 v1 v2 v0' n1 : Value} {ns ns0 ns1 : List (List UInt8)}
theorem RowsX.find (h : RowsM W n₀ top n1 K ns1) (hf : FindPost W W' n₀ tp v0 v1 v2 v0' ns) (hobj : W.heap[tp]? = some (.cells #[v0, v1, v2] 50 (0, 0))) (hrow : Strs W n₀ v0 ns0) : RowsM W' n₀ top n1 K ns1 := by
  obtain ⟨xd, h4, _⟩ := id h
  refine RowsX.keep h (fun g cur _ hg => hf.but.block g (Array.getElem?_eq_some_iff.1 hg).1 (other_obj hg hobj (by decide)) (not_row3 hg (by decide) hrow)) (fun g e => hf.but.block g (h4.lt g e).2 (fun e2 => ?_) (fun e2 => ne_types hrow h4 (by decide) e2 e)) (Nat.le_refl _)
  subst e2; exact not_row3 hobj (by decide) h4 e
theorem RowsX.beside (h : RowsM W n₀ top n1 K ns1) {B m : Nat} {rv : Value} {xs : List Value} (hr : W.ownsRow B 3 1 rv m xs) (hB : top ≤ B) (hk : ∀ g, g < W.heap.size → rv.ownBlock ≠ some g → W'.heap[g]? = W.heap[g]?) : RowsM W' n₀ top n1 K ns1 := by
  obtain ⟨xd, h4, _⟩ := id h
  exact RowsX.keep h (fun g cur hg he => hk g (Array.getElem?_eq_some_iff.1 he).1 (fun e => by have := (hr.lt g e).1; omega)) (fun g e => hk g (h4.lt g e).2 (fun e2 => ne_types hr h4 (by decide) e2 e)) (Nat.le_refl _)
theorem RowsX.mrow {o : Obj} {v3 rv : Value} {xd : List Value} {p : List UInt8} {B : Nat} (h4 : W.ownsRow n₀ 30 1 n1 K xd) (h5 : ∀ k, k < K → ∃ p u, ns[k]? = some p ∧ xd[k]? = some u ∧ RowX 3 W n₀ top u (sdP p).length (encM k (linkL ns p)) ∧ ∀ q ∈ sdP p, q ∈ ns)
    (hobj : W.heap[tp]? = some (.cells #[v0, n1, v2] 50 (0, 0))) (hown : w4.ownsRow n₀ 30 1 v3 (K + 1) (xd ++ [rv])) (hg : (W.alloc o).grownBy w4 n1.ownBlock) (htop : top ≤ W.heap.size) (hp : ns[K]? = some p) (hr : W.ownsRow B 3 1 rv (sdP p).length ((natsI (linkL ns p)).map (.int .i64))) (hB : n₀ ≤ B) (hm : ∀ q ∈ sdP p, q ∈ ns) (h0 : 0 < (sdP p).length) :
    RowsM (w4.setCell ⟨tp, 1, none⟩ v3) n₀ (w4.setCell ⟨tp, 1, none⟩ v3).heap.size v3 (K + 1) ns := by
  have hk : ∀ g, g < W.heap.size → n1.ownBlock ≠ some g → w4.heap[g]? = W.heap[g]? := fun g h1 h2 => (hg.block g (by simp; omega) (fun e => h2 e.symm)).trans (heap_alloc_old _ _ h1)
  have hsz := hg.size
  rw [World.size_alloc] at hsz
  have ho : w4.heap[tp]? = some (.cells #[v0, n1, v2] 50 (0, 0)) := (hk tp (Array.getElem?_eq_some_iff.1 hobj).1 (not_row3 hobj (by decide) h4)).trans hobj
  have hint : ∀ (g : Nat) (cur : Array Value), W.heap[g]? = some (.cells cur 3 (0, 0)) → (w4.setCell ⟨tp, 1, none⟩ v3).heap[g]? = W.heap[g]? := fun g cur he =>
    (Below.heap_setCell _ _ _ _ (other_obj he hobj (by decide))).trans (hk g (Array.getElem?_eq_some_iff.1 he).1 (not_row3 he (by decide) h4))
  refine RowsX.snoc h4 h5 (fun g cur _ he => hint g cur he) (by simp; omega) (row_set ho hown (by decide)) hp ?_ hm
  refine RowX.of_own (B := B) (own_block hr (fun g e => ?_)) h0 (by decide) hB
  rcases hr.2 with ⟨rfl, _⟩ | ⟨g', cap, cur, rfl, _, hg', _⟩
  · cases e
  · simp only [Value.ownBlock, Option.some.injEq] at e
    subst e
    exact hint _ _ hg'
end
end Go.Proofs.Ytgmknehioadjhaa
