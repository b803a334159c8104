/- Chapter 8: what the two tables of names hold, as the rows list them; the facts that the walks take. -/
import Derived.Test.YtbggbdoanahlmaaDoorm1
import Derived.Lib.LaidU8
import Derived.Stop.Joined
import Derived.MakeChecks
import Derived.Shelf.Vars
namespace Go.Proofs.YtbggbdoanahlmaaDoor
open Go.RowKit Go.ChangeShapes
set_option linter.unusedSimpArgs false
set_option linter.unusedVariables false
set_option maxRecDepth 4000

/-- An array of texts that reads as told holds them. -/
theorem strs_laid {W : World} {name : String} {g : Nat} {t : TypeId} {n : Nat} {ls : List (List UInt8)} (hg : Tryd.prog.globalNamed name = some g) (hty : (Tryd.prog.globals[g]?).map (·.type) = some t) (ht : Tryd.prog.underlying t = some (.array n 9))
    (h : Go.Lib.VarReads Tryd.prog W name (.agg (ls.map fun l => .lit (.string l)))) (hn : ls.length = n) : ∀ i (hi : i < ls.length), W.cell? ⟨g, i, none⟩ = some (.string (bs ls[i])) := by
  have hc : Tryd.prog.cellsOf 9 = 1 := by kernel_rfl
  obtain ⟨g', t', cs, fuel, p, hg', hty', hv, hd⟩ := h
  obtain rfl := Option.some.inj (hg.symm.trans hg')
  obtain rfl := Option.some.inj (hty.symm.trans hty')
  intro i hi
  obtain ⟨f', d, q, e1, e2⟩ := Go.Lib.array_elem ht hd i (by omega)
  rw [hc, Nat.mul_one] at e2
  obtain ⟨s, e3, e4, _⟩ := DataW.trod_string Tryd.underlying9 e2
  have hd2 : d = .lit (.string s.data.toList) := congrArg Prod.fst e4
  rw [List.getElem?_map, List.getElem?_eq_getElem hi, Option.map_some, Option.some.injEq] at e1
  rw [hd2] at e1
  have hs : s = bs ls[i] := bs_eq (by injection e1 with e1; injection e1 with e1; exact e1.symm)
  have := World.var?_cell hg hv i
  rw [this]
  have h0 : cs.toList[i]? = some (.string s) := by
    have h1 := congrArg (·[0]?) e3
    simpa [List.getElem?_take, List.getElem?_drop] using h1
  rw [← Array.getElem?_toList, h0, hs]

/-- What the walks ask of the world: the two tables, and a number in internal/bytealg.MaxLen. -/
structure NamesAt (w : World) : Prop where
  small : ∀ i, i < 20 → w.cell? ⟨0, i, none⟩ = some (.string (bs (smN i)))
  tens : ∀ k, 2 ≤ k → k < 10 → w.cell? ⟨1, k - 2, none⟩ = some (.string (bs (tnN k)))
  maxl : ∃ m, w.cell? ⟨2, 0, none⟩ = some (.int .i64 m)
theorem NamesAt.lts {w : World} (h : NamesAt w) : 0 < w.heap.size := World.block_lt_of_cell? w _ (h.small 0 (by decide))
theorem NamesAt.ltt {w : World} (h : NamesAt w) : 1 < w.heap.size := World.block_lt_of_cell? w _ (h.tens 2 (by decide) (by decide))
theorem NamesAt.below {w w' : World} (h : NamesAt w) (hb : Below w.heap.size w w') : NamesAt w' :=
  let ⟨m, hm⟩ := h.maxl
  ⟨fun i hi => (hb.cell (p := ⟨0, i, none⟩) h.lts).trans (h.small i hi), fun k h2 h10 => (hb.cell (p := ⟨1, k - 2, none⟩) h.ltt).trans (h.tens k h2 h10), m, (hb.cell (p := ⟨2, 0, none⟩) (World.block_lt_of_cell? w _ hm)).trans hm⟩
theorem NamesAt.cells {w w' : World} (h : NamesAt w) (hc : ∀ a, w'.cell? a = w.cell? a) : NamesAt w' :=
  let ⟨m, hm⟩ := h.maxl
  ⟨fun i hi => (hc _).trans (h.small i hi), fun k h2 h10 => (hc _).trans (h.tens k h2 h10), m, (hc _).trans hm⟩
theorem g_small : Tryd.prog.globalNamed "loop.example/g01240/impl.smallNames" = some 0 := by kernel_rfl
theorem g_tens : Tryd.prog.globalNamed "loop.example/g01240/impl.tensNames" = some 1 := by kernel_rfl
theorem ty_small : (Tryd.prog.globals[(0 : Nat)]?).map (·.type) = some 60 := by kernel_rfl
theorem ty_tens : (Tryd.prog.globals[(1 : Nat)]?).map (·.type) = some 67 := by kernel_rfl
theorem d_small : (Rows.laid_loop_example_g01240_impl_smallNames : DataW Unit) = .agg (smT.map fun l => .lit (.string l)) := rfl
theorem d_tens : (Rows.laid_loop_example_g01240_impl_tensNames : DataW Unit) = .agg (tnT.map fun l => .lit (.string l)) := rfl
theorem names_of_reads {W : World} (h1 : Go.Lib.VarReads Tryd.prog W "loop.example/g01240/impl.smallNames" Rows.laid_loop_example_g01240_impl_smallNames) (h2 : Go.Lib.VarReads Tryd.prog W "loop.example/g01240/impl.tensNames" Rows.laid_loop_example_g01240_impl_tensNames) (hsh : W.ShapedOpen Tryd.prog) : NamesAt W := by
  rw [d_small] at h1
  rw [d_tens] at h2
  have a := strs_laid g_small ty_small Tryd.underlying60 h1 rfl
  have b := strs_laid g_tens ty_tens Tryd.underlying67 h2 rfl
  refine ⟨fun i hi => ?_, fun k hk h10 => ?_, cell_of_shapedOpen_int (P := Tryd.prog) (g := 2) (t := 3) (zero := #[.int .i64 0]) (k := .i64) hsh (of_decide_eq_true (by kernel_rfl)) (by kernel_rfl) rfl (by kernel_rfl) (by kernel_rfl) Tryd.underlying3⟩
  · have := a i hi
    rw [this]; unfold smN
    rw [show smT.getD i [] = smT[i]'hi from by rw [List.getD, List.getElem?_eq_getElem (show i < smT.length from hi)]; rfl]
  · have hk' : k - 2 < tnT.length := by show k - 2 < 8; omega
    have := b (k - 2) hk'
    rw [this]; unfold tnN
    rw [show tnT.getD (k - 2) [] = tnT[k - 2]'hk' from by simp [List.getD, hk']]
theorem names_of_laid {W : World} (h : laidMetH Tryd.prog [("loop.example/g01240/impl.smallNames", Rows.laid_loop_example_g01240_impl_smallNames), ("loop.example/g01240/impl.tensNames", Rows.laid_loop_example_g01240_impl_tensNames)] W) (hsh : W.ShapedOpen Tryd.prog) : NamesAt W := by
  rw [MakeChecks.laidMetH_plain _ _ _ (by kernel_rfl)] at h
  exact names_of_reads (Go.Lib.laidMet.reads h (by simp)) (Go.Lib.laidMet.reads h (by simp)) hsh
theorem names_of_laidP {W : World} (h : laidMetH Tryd.prog [("unicode/utf8.acceptRanges", Rows.laid_unicode_utf8_acceptRanges), ("loop.example/g01240/impl.smallNames", Rows.laid_loop_example_g01240_impl_smallNames), ("loop.example/g01240/impl.tensNames", Rows.laid_loop_example_g01240_impl_tensNames), ("unicode/utf8.first", Rows.laid_unicode_utf8_first)] W) (hsh : W.ShapedOpen Tryd.prog) : NamesAt W := by
  rw [MakeChecks.laidMetH_plain _ _ _ (by kernel_rfl)] at h
  exact names_of_reads (Go.Lib.laidMet.reads h (by simp)) (Go.Lib.laidMet.reads h (by simp)) hsh
end Go.Proofs.YtbggbdoanahlmaaDoor
