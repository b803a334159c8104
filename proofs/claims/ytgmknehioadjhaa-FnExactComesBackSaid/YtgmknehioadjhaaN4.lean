/- The program's table of elements: its words, and how each step leaves it. -/
import Derived.Test.YtgmknehioadjhaaN3
import Derived.Maps.OwnOps
import Derived.Maps.OwnSet
import Derived.Lib.Hide
import Derived.StringKeys
namespace Go.Proofs.Ytgmknehioadjhaa
open Go.RowKit Go.BigFrame Go.Maps
set_option linter.unusedSimpArgs false
set_option linter.unusedVariables false
set_option maxRecDepth 4000

theorem lawS : Keyed Try.prog 9 := string_keyed Try.underlying9
theorem zeroI (w : World) : (zeroValue 3).run Try.prog w = .ok (.int .i64 0) w := by kernel_rfl
abbrev kS (p : List UInt8) : Lit := .string p
theorem keyS (p : List UInt8) : WideAt.IsKeyLit (kS p) := trivial
theorem kS_ne {p q : List UInt8} (h : p ≠ q) : kS p ≠ kS q := fun e => h (by injection e)
abbrev zI : DataW Unit := .lit (.int .i64 0)
abbrev iL (n : Nat) : DataW Unit := .lit (.int .i64 (n : Int))
abbrev OwnS (w : World) (b n : Nat) (D : DataW Unit) : Prop := w.ownsMap Try.prog 9 (plainElem Try.prog 3) b n D
theorem keyOfS {p : List UInt8} (h : p.length ≤ 1000) : keyOf Try.prog 9 (.string (bs p)) = some (kS p) := by
  have := _root_.Go.WideMaps.keyOf_string_mk Try.underlying9 (s := bs p) (by rw [bs_size]; unfold maxLen; omega)
  rw [bs_list] at this
  exact this

/-- The map holds the place of each name. -/
structure NumD (D : DataW Unit) (ns : List (List UInt8)) : Prop where
  tidy : Tidy D
  keys : ∀ p, Maps.has D (kS p) = true ↔ p ∈ ns
  at_ : ∀ p, p ∈ ns → D.atKey (kS p) zI = iL (posN p ns)
theorem numD_empty : NumD (.map []) [] := ⟨tidy_empty, fun p => by rw [has_eq]; simp, fun p h => by simp at h⟩
theorem NumD.put {D : DataW Unit} {ns : List (List UInt8)} (h : NumD D ns) {p : List UInt8} (hp : ¬ posN p ns < ns.length) : NumD (D.put (kS p) (iL ns.length)) (ns ++ [p]) := by
  refine ⟨h.tidy.put (keyS _) _, fun q => ?_, fun q hq => ?_⟩
  · by_cases e : q = p
    · subst e
      rw [has_put_same h.tidy.isMap (keyS _)]; simp
    · rw [has_put_other (kS_ne e), h.keys]; simp [e]
  · by_cases e : q = p
    · subst e
      rw [posN_last hp]
      exact atKey_put_same h.tidy.isMap (keyS _) _ _
    · have hq2 : q ∈ ns := by simpa [e] using hq
      rw [atKey_put_other (kS_ne e), posN_old p hq2]
      exact h.at_ q hq2

structure TabP (W : World) (n₀ fb mb nd : Nat) (nsE nsM : List (List UInt8)) (ts : List Nat) (vE vT vP vD : Value) : Prop where
  base : n₀ ≤ W.heap.size
  low : n₀ ≤ fb ∧ n₀ ≤ mb
  obj : W.heap[fb]? = some (.cells #[vE, .map (some mb), vT, vP, vD] 54 (0, 0))
  names : Strs W n₀ vE nsE
  map : ∃ D, OwnS W mb nsM.length D ∧ NumD D nsM
  times : Ints W n₀ vT (natsI ts)
  decs : ∃ xd, W.ownsRow n₀ 76 1 vD nd xd
section
variable {W W' w4 : World} {n₀ fb mb nd : Nat} {nsE nsM : List (List UInt8)} {ts : List Nat} {vE vT vP vD : Value}
theorem TabP.lt (h : TabP W n₀ fb mb nd nsE nsM ts vE vT vP vD) : fb < W.heap.size := (Array.getElem?_eq_some_iff.1 h.obj).1
theorem map_row {w : World} {b m : Nat} {D : DataW Unit} (h : OwnS w b m D) {B n : Nat} {E : TypeId} {v : Value} {xs : List Value} (hr : w.ownsRow B E 1 v n xs) : v.ownBlock ≠ some b := by
  obtain ⟨es, clock, hb, _⟩ := h
  intro e
  rcases hr.2 with ⟨rfl, _⟩ | ⟨g, cap, cur, rfl, _, hg, _⟩
  · cases e
  · simp only [Value.ownBlock, Option.some.injEq] at e
    subst e
    rw [hb] at hg; simp at hg
theorem map_obj {w : World} {b m f : Nat} {D : DataW Unit} (h : OwnS w b m D) {cs : Array Value} {T : TypeId} {fr : Nat × Nat} (ho : w.heap[f]? = some (.cells cs T fr)) : f ≠ b := by
  obtain ⟨es, clock, hb, _⟩ := h
  rintro rfl
  rw [hb] at ho; simp at ho
theorem TabP.cell (h : TabP W n₀ fb mb nd nsE nsM ts vE vT vP vD) : W.cell? ⟨fb, 0, none⟩ = some vE ∧ W.cell? ⟨fb, 1, none⟩ = some (.map (some mb)) ∧ W.cell? ⟨fb, 2, none⟩ = some vT ∧ W.cell? ⟨fb, 4, none⟩ = some vD ∧ (∀ i, W.frozen? ⟨fb, i, none⟩ = false) := by
  have ho := h.obj
  exact ⟨by simp [World.cell?, ho], by simp [World.cell?, ho], by simp [World.cell?, ho], by simp [World.cell?, ho], fun i => by simp [World.frozen?, ho]⟩
/-- All but one block lie as they lay: what goes on. -/
theorem TabP.kept (h : TabP W n₀ fb mb nd nsE nsM ts vE vT vP vD) {ob : Option Nat} (hg : W.grownBy W' ob) (h1 : ob ≠ some fb) (h2 : ob ≠ some mb) (h3 : ∀ g, vE.ownBlock = some g → ob ≠ some g) (h4 : ∀ g, vT.ownBlock = some g → ob ≠ some g) (h5 : ∀ g, vD.ownBlock = some g → ob ≠ some g) :
    TabP W' n₀ fb mb nd nsE nsM ts vE vT vP vD := by
  obtain ⟨D, hD, hN⟩ := h.map
  obtain ⟨xd, hd⟩ := h.decs
  exact ⟨Nat.le_trans h.base hg.size, h.low, (hg.block fb h.lt (fun e => h1 e.symm)).trans h.obj, own_block h.names (fun g hg' => hg.block g (h.names.lt g hg').2 (fun e => h3 g hg' e.symm)), ⟨D, hD.kept hg (fun e => h2 e.symm), hN⟩,
    own_block h.times (fun g hg' => hg.block g (h.times.lt g hg').2 (fun e => h4 g hg' e.symm)), ⟨xd, own_block hd (fun g hg' => hg.block g (hd.lt g hg').2 (fun e => h5 g hg' e.symm))⟩⟩
theorem TabP.below (h : TabP W n₀ fb mb nd nsE nsM ts vE vT vP vD) (hb : Below W.heap.size W W') : TabP W' n₀ fb mb nd nsE nsM ts vE vT vP vD :=
  h.kept (ob := none) ⟨hb.os, hb.tape, hb.output, hb.size, fun g hg _ => hb.block g hg⟩ (by simp) (by simp) (by simp) (by simp) (by simp)
theorem TabP.drew (h : TabP W n₀ fb mb nd nsE nsM ts vE vT vP vD) : TabP W.drew n₀ fb mb nd nsE nsM ts vE vT vP vD := h.below (Below.refl _ _).drew
theorem below_grown {n : Nat} {ob : Option Nat} (hn : n ≤ W.heap.size) (hg : W.grownBy W' ob) (h : ∀ g, ob = some g → n ≤ g) : Below n W W' :=
  ⟨hg.os, hg.tape, hg.output, hg.size, fun g hg' => hg.block g (by omega) (fun e => by have := h g e.symm; omega)⟩

/-- A new name is laid into the map. -/
theorem TabP.st_map (h : TabP W n₀ fb mb nd nsE nsM ts vE vT vP vD) {p : List UInt8} {D : DataW Unit} (hN : NumD D nsM) (hm0 : OwnS W mb nsM.length D) (hp : ¬ posN p nsM < nsM.length) (hown : OwnS W' mb (nsM.length + 1) (D.put (kS p) (iL nsM.length))) (hg : W.grownBy W' (some mb)) :
    TabP W' n₀ fb mb nd nsE (nsM ++ [p]) ts vE vT vP vD ∧ Below n₀ W W' := by
  obtain ⟨xd, hd⟩ := h.decs
  refine ⟨⟨Nat.le_trans h.base hg.size, h.low, (hg.block fb h.lt (fun e => map_obj hm0 h.obj (Option.some.inj e))).trans h.obj, own_block h.names (fun g hg' => hg.block g (h.names.lt g hg').2 (fun e => map_row hm0 h.names (by rw [hg']; exact e))),
    ⟨_, by simpa using hown, hN.put hp⟩, own_block h.times (fun g hg' => hg.block g (h.times.lt g hg').2 (fun e => map_row hm0 h.times (by rw [hg']; exact e))), ⟨xd, own_block hd (fun g hg' => hg.block g (hd.lt g hg').2 (fun e => map_row hm0 hd (by rw [hg']; exact e)))⟩⟩, ?_⟩
  exact below_grown h.base hg (fun g e => by have := Option.some.inj e; have := h.low.2; omega)
/-- A field of the struct is laid anew. -/
theorem TabP.st_set {i : Nat} {v : Value} {cs : Array Value} (h : TabP W n₀ fb mb nd nsE nsM ts vE vT vP vD) : W.grownBy (W.setCell ⟨fb, i, none⟩ v) (some fb) ∧ Below n₀ W (W.setCell ⟨fb, i, none⟩ v) := by
  have hg : W.grownBy (W.setCell ⟨fb, i, none⟩ v) (some fb) := ⟨rfl, rfl, rfl, by simp, fun k _ hk => Below.heap_setCell _ _ _ k (fun e => hk (by rw [e]))⟩
  exact ⟨hg, below_grown h.base hg (fun g e => by have := Option.some.inj e; have := h.low.1; omega)⟩
/-- A new name is laid behind the names. -/
theorem TabP.st_names (h : TabP W n₀ fb mb nd nsE nsM ts vE vT vP vD) {p : List UInt8} {o : Obj} {v3 : Value} (hown : w4.ownsRow n₀ 9 1 v3 (nsE.length + 1) (nsE.map (fun l => .string (bs l)) ++ [.string (bs p)])) (hg : (W.alloc o).grownBy w4 vE.ownBlock) :
    TabP (w4.setCell ⟨fb, 0, none⟩ v3) n₀ fb mb nd (nsE ++ [p]) nsM ts v3 vT vP vD ∧ w4.heap[fb]? = some (.cells #[vE, .map (some mb), vT, vP, vD] 54 (0, 0)) ∧
      (∀ g, g < W.heap.size → g ≠ fb → vE.ownBlock ≠ some g → (w4.setCell ⟨fb, 0, none⟩ v3).heap[g]? = W.heap[g]?) ∧ Below n₀ W (w4.setCell ⟨fb, 0, none⟩ v3) := by
  obtain ⟨D, hD, hN⟩ := h.map
  obtain ⟨xd, hd⟩ := h.decs
  have hk : ∀ g, g < W.heap.size → vE.ownBlock ≠ some g → w4.heap[g]? = W.heap[g]? := fun g h1 h2 => (hg.block g (by simp; omega) (fun e => h2 e.symm)).trans (heap_alloc_old _ _ h1)
  have hg2 : W.grownBy w4 vE.ownBlock := (World.grownBy_alloc W o vE.ownBlock).trans hg
  have ho := (hk fb h.lt (not_row3 h.obj (by decide) h.names)).trans h.obj
  have hD4 : OwnS w4 mb nsM.length D := hD.kept hg2 (fun e => map_row hD h.names e.symm)
  have ht4 : Ints w4 n₀ vT (natsI ts) := own_block h.times (fun g hg' => hk g (h.times.lt g hg').2 (fun e => ne_types h.names h.times (by decide) e hg'))
  have hd4 : w4.ownsRow n₀ 76 1 vD nd xd := own_block hd (fun g hg' => hk g (hd.lt g hg').2 (fun e => ne_types h.names hd (by decide) e hg'))
  refine ⟨⟨by simp; have := h.base; have := hg2.size; omega, h.low, set_obj ho, ?_, ⟨D, hD4.setCell (fun e => map_obj hD4 ho e.symm) _, hN⟩, row_set ho ht4 (by decide), ⟨xd, row_set ho hd4 (by decide)⟩⟩, ho, fun g h1 h2 h3 => (Below.heap_setCell _ _ _ _ h2).trans (hk g h1 h3), ?_⟩
  · have := row_set (i := 0) (v := v3) ho hown (by decide)
    unfold Strs
    simpa using this
  · exact Below.setCell (below_grown h.base hg2 (fun g e => (h.names.lt g e).1)) h.low.1 _
/-- A time is laid behind the times. -/
theorem TabP.st_times (h : TabP W n₀ fb mb nd nsE nsM ts vE vT vP vD) {t : Nat} {o : Obj} {v3 : Value} (hown : w4.ownsRow n₀ 3 1 v3 ((natsI ts).length + 1) ((natsI ts).map (.int .i64) ++ [.int .i64 (t : Nat)])) (hg : (W.alloc o).grownBy w4 vT.ownBlock) :
    TabP (w4.setCell ⟨fb, 2, none⟩ v3) n₀ fb mb nd nsE nsM (ts ++ [t]) vE v3 vP vD ∧ w4.heap[fb]? = some (.cells #[vE, .map (some mb), vT, vP, vD] 54 (0, 0)) ∧
      (∀ g, g < W.heap.size → g ≠ fb → vT.ownBlock ≠ some g → (w4.setCell ⟨fb, 2, none⟩ v3).heap[g]? = W.heap[g]?) ∧ Below n₀ W (w4.setCell ⟨fb, 2, none⟩ v3) := by
  obtain ⟨D, hD, hN⟩ := h.map
  obtain ⟨xd, hd⟩ := h.decs
  have hk : ∀ g, g < W.heap.size → vT.ownBlock ≠ some g → w4.heap[g]? = W.heap[g]? := fun g h1 h2 => (hg.block g (by simp; omega) (fun e => h2 e.symm)).trans (heap_alloc_old _ _ h1)
  have hg2 : W.grownBy w4 vT.ownBlock := (World.grownBy_alloc W o vT.ownBlock).trans hg
  have ho := (hk fb h.lt (not_row3 h.obj (by decide) h.times)).trans h.obj
  have hD4 : OwnS w4 mb nsM.length D := hD.kept hg2 (fun e => map_row hD h.times e.symm)
  have hn4 : Strs w4 n₀ vE nsE := own_block h.names (fun g hg' => hk g (h.names.lt g hg').2 (fun e => ne_types h.times h.names (by decide) e hg'))
  have hd4 : w4.ownsRow n₀ 76 1 vD nd xd := own_block hd (fun g hg' => hk g (hd.lt g hg').2 (fun e => ne_types h.times hd (by decide) e hg'))
  refine ⟨⟨by simp; have := h.base; have := hg2.size; omega, h.low, set_obj ho, row_set ho hn4 (by decide), ⟨D, hD4.setCell (fun e => map_obj hD4 ho e.symm) _, hN⟩, ?_, ⟨xd, row_set ho hd4 (by decide)⟩⟩, ho, fun g h1 h2 h3 => (Below.heap_setCell _ _ _ _ h2).trans (hk g h1 h3), ?_⟩
  · have := row_set (i := 2) (v := v3) ho hown (by decide)
    unfold Ints
    rw [show natsI (ts ++ [t]) = natsI ts ++ [(t : Int)] by simp [natsI]]
    simpa using this
  · exact Below.setCell (below_grown h.base hg2 (fun g e => (h.times.lt g e).1)) h.low.1 _
/-- A row of numbers beside the table grows. -/
theorem TabP.beside (h : TabP W n₀ fb mb nd nsE nsM ts vE vT vP vD) {B m : Nat} {rv : Value} {xs : List Value} {o : Obj} (hr : W.ownsRow B 3 1 rv m xs) (hB : n₀ ≤ B) (h2 : ∀ g, rv.ownBlock = some g → vT.ownBlock ≠ some g) (hg : (W.alloc o).grownBy W' rv.ownBlock) :
    TabP W' n₀ fb mb nd nsE nsM ts vE vT vP vD ∧ (∀ g, g < W.heap.size → rv.ownBlock ≠ some g → W'.heap[g]? = W.heap[g]?) ∧ Below n₀ W W' := by
  obtain ⟨D, hD, hN⟩ := h.map
  obtain ⟨xd, hd⟩ := h.decs
  have hg2 : W.grownBy W' rv.ownBlock := (World.grownBy_alloc W o rv.ownBlock).trans hg
  refine ⟨h.kept hg2 (not_row3 h.obj (by decide) hr) (map_row hD hr) (fun g hg' e => ne_types hr h.names (by decide) e hg') (fun g hg' e => h2 g e hg') (fun g hg' e => ne_types hr hd (by decide) e hg'), fun g h1 h3 => hg2.block g h1 (fun e => h3 e.symm), ?_⟩
  exact below_grown h.base hg2 (fun g e => by have := (hr.lt g e).1; omega)
end
end Go.Proofs.Ytgmknehioadjhaa
