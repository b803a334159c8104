/- Chapter 7: numbers told, as an array of four: made, compared, found. -/
import Derived.Test.YtampjipbemmicaaDoor89
import Derived.Laws.Tables
import Derived.Deep.MidRow
import Derived.Deep.WholeRow
import Derived.Laws.CopyOwn
import Derived.Laws.Rows
import Derived.ChangeKeysEq
import Derived.Deep.RegionLaw
import Derived.Deep.AppendLies
import Derived.ScopeJumps
import Derived.WalkMore
namespace Go.Proofs.YtampjipbemmicaaDoor
open Go.RowKit Go.BigFrame Go.Deep
set_option linter.unusedSimpArgs false
set_option linter.unusedVariables false
set_option maxRecDepth 4000

theorem info_int4 : (Tryd.prog.info? 3).map (fun i => (i.zero, i.size, i.bytes)) = some (some (.int .i64 0), 1, 8) := by kernel_rfl
def fvA (xs : List Int) : Array Value := (ivs xs).toArray
def aggF (xs : List Int) : Value := .agg (fvA xs)
def zF : List Int := List.replicate 4 0
theorem fvA_size (xs : List Int) : (fvA xs).size = xs.length := by simp [fvA, ivs]
theorem fvA_one (xs : List Int) : (fvA xs).all (·.oneCell') = true := by
  refine all_oneCell_toArray (fun v hv => ?_)
  simp only [ivs, List.mem_map] at hv
  obtain ⟨n, _, rfl⟩ := hv
  rfl

def BlkF (w : World) (g : Nat) (xs : List Int) : Prop := w.heap[g]? = some (.cells (fvA xs) 73 (0, 0)) ∧ xs.length = 4
theorem blkF_lt {w : World} {g : Nat} {xs : List Int} (h : BlkF w g xs) : g < w.heap.size := (Array.getElem?_eq_some_iff.1 h.1).1
theorem blkF_cell {w : World} {g : Nat} {xs : List Int} (h : BlkF w g xs) {i : Nat} {n : Int} (hi : xs[i]? = some n) : w.cell? ⟨g, i, none⟩ = some (.int .i64 n) := by
  rw [cell_of_row w g i _ _ _ h.1]
  simp [fvA, ivs, hi]
theorem blkF_frozen {w : World} {g : Nat} {xs : List Int} (h : BlkF w g xs) (i : Nat) : w.frozen? ⟨g, i, none⟩ = false := frozen_of_row w g i _ _ h.1
theorem blkF_set {w : World} {g : Nat} {xs : List Int} (h : BlkF w g xs) (i : Nat) (n : Int) : BlkF (w.setCell ⟨g, i, none⟩ (.int .i64 n)) g (xs.set i n) := by
  refine ⟨?_, by simpa using h.2⟩
  rw [heap_setCell_same w g i _ _ _ h.1]
  congr 2
  apply Array.ext'
  simp [fvA, ivs, List.map_set]
theorem blkF_keep {w w' : World} {g : Nat} {xs : List Int} (h : BlkF w g xs) (e : w'.heap[g]? = w.heap[g]?) : BlkF w' g xs := ⟨e.trans h.1, h.2⟩
theorem blkF_below {w w' : World} {g : Nat} {xs : List Int} (h : BlkF w g xs) (hb : Below w.heap.size w w') : BlkF w' g xs := blkF_keep h (hb.block g (blkF_lt h))
theorem under_form : Tryd.prog.underlying 73 = some (.array 4 3) := by kernel_rfl
theorem info_form : (Tryd.prog.info? 73).map (·.size) = some 4 := by kernel_rfl
theorem info_formZ : (Tryd.prog.info? 73).map (fun i => (i.zero, i.size)) = some (some (.agg (Array.replicate 4 (.int .i64 0))), 4) := by kernel_rfl
theorem built_form : Tryd.prog.built 73 [] = some (Array.replicate 4 (.int .i64 0)) := by kernel_rfl
theorem fvA_zero : fvA zF = Array.replicate 4 (.int .i64 0) := by
  unfold fvA ivs zF
  rw [List.map_replicate]
  exact List.toArray_replicate _ _
theorem zero_form (W : World) : (zeroValue 73).run Tryd.prog W = .ok (.agg (fvA zF)) W := by
  obtain ⟨i4, hi4, hb4⟩ := Option.map_eq_some_iff.1 info_formZ
  simp only [Prod.mk.injEq] at hb4
  obtain ⟨hz4, hs4⟩ := hb4
  rw [← fvA_zero] at hz4
  simp [zeroValue, typeInfo, hi4, hz4]
theorem wpList_getF {w : World} {ops : Array Oper} {rest : List Oper} {o : Oper} {a : Act} {Q : Exit → Act → World → Prop} (hgd : o.guard = none) (x : Operand) (ho : o.op = .load 73 x)
    (g : Nat) (hx : a.eval x = .pointer (some ⟨g, 0, none⟩)) (xs : List Int) (h : BlkF w g xs) (hK : wpList Tryd.prog ops Q rest (a.put o.dst (aggF xs)) w) : wpList Tryd.prog ops Q (o :: rest) a w :=
  wpList_load_row hgd 73 x ho g hx _ _ _ _ h.1 under_form rfl (by rw [fvA_size, h.2]; exact info_form) hK
theorem run_putF {w : World} {g : Nat} {us ts : List Int} (h : BlkF w g us) (hl : ts.length = 4) :
    (storeVar 73 ⟨g, 0, none⟩ (aggF ts)).run Tryd.prog w = .ok () (w.setRow g (fvA ts)) :=
  run_storeVar_row w g 73 73 (fvA us) (fvA ts) h.1 (by rw [fvA_size, hl]; exact info_form) (by rw [fvA_size, fvA_size, h.2, hl]) (fvA_one ts)
theorem wpList_putF {w : World} {ops : Array Oper} {rest : List Oper} {o : Oper} {a : Act} {Q : Exit → Act → World → Prop} (hgd : o.guard = none) (x y : Operand) (ho : o.op = .store 73 x y)
    (g : Nat) (hx : a.eval x = .pointer (some ⟨g, 0, none⟩)) (us ts : List Int) (hy : a.eval y = aggF ts) (h : BlkF w g us) (hl : ts.length = 4)
    (hK : ∀ w', BlkF w' g ts → (∀ k, k ≠ g → w'.heap[k]? = w.heap[k]?) → (∀ B, B ≤ g → Below B w w') → w'.heap.size = w.heap.size → wpList Tryd.prog ops Q rest (a.put o.dst undef) w') : wpList Tryd.prog ops Q (o :: rest) a w :=
  wpList_plain hgd fun K hK' => by
    unfold Oper.wp execOp
    simp only [ho, hx, hy, Instr.storeAt, Instr.sureAddr, Sem.run_bind, Sem.run_pure, Result.andThen_ok, run_putF h hl]
    refine hK' _ _ (hK _ ⟨setRow_heap w g _ _ _ _ h.1, hl⟩ (fun k hk => setRow_other w g k _ hk) (fun B hB => ⟨rfl, rfl, rfl, by simp [World.setRow], fun k hk => setRow_other w g k _ (by omega)⟩) (by simp [World.setRow]))
theorem results_formT {fn : Func} {p t : Tmp} (h : fn.results = #[.cell p 73, .tmp t]) (tmps : Array Value) (w : World) (g : Nat) (ts : List Int)
    (hp : tmps.getD p undef = .pointer (some ⟨g, 0, none⟩)) (hg : BlkF w g ts) : (results fn tmps).run Tryd.prog w = .ok (.tuple #[aggF ts, tmps.getD t undef]) w := by
  have hp' : tmps[p]?.getD undef = .pointer (some ⟨g, 0, none⟩) := by simpa using hp
  have hl := run_loadVar_row (P := Tryd.prog) w g 73 73 (fvA ts) (0, 0) _ hg.1 under_form rfl (by rw [fvA_size, hg.2]; exact info_form)
  simp [results, h, hp', asAddr, hl, aggF]

/-- A list with zeros behind it. -/
def padF (xs : List Int) : List Int := xs ++ List.replicate (4 - xs.length) 0
theorem padF_len {xs : List Int} (h : xs.length ≤ 4) : (padF xs).length = 4 := by simp [padF]; omega
theorem padF_nil : padF [] = zF := rfl
theorem all_range4 (ts us : List Int) (h : ts.length = 4) (h' : us.length = 4) : ((List.range 4).all fun i => ts.getD i 0 == us.getD i 0) = decide (ts = us) := by
  rw [Bool.eq_iff_iff, decide_eq_true_iff, List.all_eq_true]
  constructor
  · intro hh
    apply List.ext_getElem (by omega)
    intro i h1 h2
    have := hh i (by simp; omega)
    simpa [List.getD_eq_getElem?_getD, h1, h2] using this
  · rintro rfl i _
    simp
theorem cellsOf_intF : Tryd.prog.cellsOf 3 = 1 := by kernel_rfl
theorem run_eqItemsF (d : Nat) (w : World) (ts us : List Int) (h : ts.length = 4) (h' : us.length = 4) : ∀ l : List Nat, (∀ i ∈ l, i < 4) →
    (Op.eqItems (d + 1) 3 1 (fvA ts) (fvA us) l).run Tryd.prog w = .ok (l.all fun i => ts.getD i 0 == us.getD i 0) w
  | [], _ => by simp [Op.eqItems]
  | i :: l, hl => by
    have hi : i < 4 := hl i List.mem_cons_self
    have ih := run_eqItemsF d w ts us h h' l (fun j hj => hl j (List.mem_cons_of_mem _ hj))
    have px : (part 3 (fvA ts) (i * 1)).run Tryd.prog w = .ok (.int .i64 (ts.getD i 0)) w := by
      simp [part, isAgg, run_underlying Tryd.underlying3, fvA, ivs, List.getD, List.getElem?_eq_getElem (show i < ts.length by omega)]
    have py : (part 3 (fvA us) (i * 1)).run Tryd.prog w = .ok (.int .i64 (us.getD i 0)) w := by
      simp [part, isAgg, run_underlying Tryd.underlying3, fvA, ivs, List.getD, List.getElem?_eq_getElem (show i < us.length by omega)]
    have pe : (Op.equalIn (d + 1) 3 (.int .i64 (ts.getD i 0)) (.int .i64 (us.getD i 0))).run Tryd.prog w = .ok (ts.getD i 0 == us.getD i 0) w := by
      rw [run_equalIn_int w d 3 .i64 .i64 _ _ Tryd.underlying3]
    simp only [Op.eqItems, Sem.run_bind, px, py, pe, Result.andThen_ok, List.all_cons]
    cases hb : (ts.getD i 0 == us.getD i 0)
    · simp
    · simp only [Bool.not_true, Bool.false_eq_true, if_false, Bool.true_and]
      exact ih
theorem run_eqlF (w : World) (ts us : List Int) (h : ts.length = 4) (h' : us.length = 4) : (binOp .eql 73 (aggF ts) (aggF us)).run Tryd.prog w = .ok (.bool (decide (ts = us))) w := by
  obtain ⟨i0, hi, hz0, hz1, hz2⟩ := info_parts info_int4
  unfold aggF
  rw [run_eql_struct, run_equalIn_array w 9999 _ _ under_form hi, cellsOf_intF, run_eqItemsF 9998 w ts us h h' _ (fun i hi => by simpa using hi), all_range4 ts us h h']
  rfl
theorem run_eqGuardF (w : World) (x y : Operand) (ts us : List Int) : (eqGuard .eql 73 x y (aggF ts) (aggF us)).run Tryd.prog w = .ok () w := by
  unfold aggF
  first | rfl | (simp [go_sem, eqGuard]; done)
theorem run_sliceW (w : World) (b : Nat) : (Instr.sliceAt 73 (.pointer (some ⟨b, 0, none⟩)) none none none).run Tryd.prog w = .ok (.slice (some ⟨b, 0, none⟩) 4 4) w := by
  obtain ⟨i0, hi, hz0, hz1, hz2⟩ := info_parts info_int4
  have hsz : (sizeOf 3).run Tryd.prog w = .ok 1 w := by simp [sizeOf, typeInfo, hi, hz1]
  have ha : (⟨b, 0, none⟩ : Addr).add 0 = ⟨b, 0, none⟩ := by simp [Addr.add]
  simp [Instr.sliceAt, Instr.sureAddr, run_underlying under_form, Instr.sliceBounds, run_sliceBound, hsz, ha]
theorem splice_pad (xs : List Int) (h : xs.length ≤ 4) : splice (ivs zF) 0 (ivs xs) = ivs (padF xs) := by
  unfold splice padF zF ivs
  rw [List.take_zero, List.nil_append, Nat.zero_add, List.map_append, List.map_replicate, List.map_replicate, List.length_map, List.drop_replicate]


theorem results_form1 {fn : Func} {p : Tmp} (h : fn.results = #[.cell p 73]) (tmps : Array Value) (w : World) (g : Nat) (ts : List Int)
    (hp : tmps.getD p undef = .pointer (some ⟨g, 0, none⟩)) (hg : BlkF w g ts) : (results fn tmps).run Tryd.prog w = .ok (aggF ts) w :=
  results_cell_row h tmps w g _ _ _ _ hp hg.1 under_form rfl (by rw [fvA_size, hg.2]; exact info_form)
theorem padF_take (xs : List Int) : (padF xs).take xs.length = xs := by simp [padF]
theorem padF_inj {ps qs : List Int} (h : ps.length = qs.length) : padF ps = padF qs ↔ ps = qs := by
  constructor
  · intro e
    have := congrArg (List.take ps.length) e
    rw [padF_take] at this
    rw [this, h, padF_take]
  · rintro rfl; rfl
theorem run_sliceN (w : World) (b n : Nat) (hn : n ≤ 4) : (Instr.sliceAt 73 (.pointer (some ⟨b, 0, none⟩)) none (some (.int .i64 (n : Int))) none).run Tryd.prog w = .ok (.slice (some ⟨b, 0, none⟩) n 4) w := by
  obtain ⟨i0, hi, hz0, hz1, hz2⟩ := info_parts info_int4
  have hsz : (sizeOf 3).run Tryd.prog w = .ok 1 w := by simp [sizeOf, typeInfo, hi, hz1]
  have ha : (⟨b, 0, none⟩ : Addr).add 0 = ⟨b, 0, none⟩ := by simp [Addr.add]
  simp [Instr.sliceAt, Instr.sureAddr, run_underlying under_form, Instr.sliceBounds, run_sliceBound, hsz, ha, (by omega : n ≤ 4), (by omega : (n : Int) ≤ 4), (by omega : (0 : Int) ≤ n)]

set_option maxHeartbeats 2000000 in
theorem tellingOf_any (w : World) (v : Value) (xs : List Int) (ha : ArgL w v xs) (h4 : xs.length ≤ 4) :
    Calls Tryd.prog 72 #[v] w fun e w' => e = .returned (aggF (padF xs)) ∧ Below w.heap.size w w' := by
  obtain ⟨A, cap, rfl, hC, hC9, hce⟩ := ha
  have hsw := fun (W : World) (b : Nat) => run_sliceW W b
  have hsp := splice_pad xs h4
  obtain ⟨us, hus⟩ : ∃ us, us = padF xs := ⟨_, rfl⟩
  have hx4 : us.length = 4 := by rw [hus]; exact padF_len h4
  rw [← hus] at hsp ⊢
  obtain ⟨N, hN⟩ : ∃ N, N = xs.length := ⟨_, rfl⟩
  obtain ⟨CS, hCS⟩ : ∃ CS, CS = ivs xs := ⟨_, rfl⟩
  have hcl : CS.length = N := by rw [hCS, hN]; simp [ivs]
  have hc1v : ∀ q ∈ CS, q.oneCell' = true := fun q hq => by
    rw [hCS] at hq; simp only [ivs, List.mem_map] at hq; obtain ⟨n, _, rfl⟩ := hq; rfl
  have hcc : ∀ W, Below w.heap.size w W → 0 < CS.length → ∃ ad, A = some ad ∧ ∀ j q, CS[j]? = some q → W.cell? (ad.add j) = some q := fun W hb h0 => by
    obtain ⟨b, o, rfl, _, _⟩ := hce 0 (by omega)
    refine ⟨_, rfl, fun j q hq => ?_⟩
    have hj : j < xs.length := by have := get_lt hq; omega
    rw [hCS] at hq
    simp only [ivs, List.getElem?_map, List.getElem?_eq_getElem hj, Option.map_some, Option.some.injEq] at hq
    obtain ⟨b', o', e, hb1, hb2⟩ := hce j hj
    cases e
    rw [add_plainL, ← hq]
    exact (hb.cell (p := ⟨b, o + j, none⟩) hb1).trans hb2
  rw [← hCS] at hsp
  rw [← hN] at hC h4 ⊢
  have hblk : ∀ W : World, W = (w.alloc (.cells #[.int .i64 0, .int .i64 0, .int .i64 0, .int .i64 0] 73)).alloc (.cells #[.int .i64 0, .int .i64 0, .int .i64 0, .int .i64 0] 73) → BlkF W w.heap.size zF ∧ BlkF W (w.heap.size + 1) zF := fun W h => by
    rw [h]; exact ⟨⟨heap_alloc2_old _ _ _, rfl⟩, ⟨heap_alloc2_new _ _ _, rfl⟩⟩
  have HSP := Lib.hid hsp; have HCL := Lib.hid hcl; have HC1 := Lib.hid hc1v; have HCC := Lib.hid hcc; have HX4 := Lib.hid hx4; have HBLK := Lib.hid hblk
  clear hsp hcl hc1v hcc hx4 hus hCS hN hce hblk
  go_enter Tryd.func72, Tryd.ntmps72
  go_wp2_with (first
    | (refine wpList_copy_splice rfl _ _ 31 31 rfl 3 Tryd.underlying31 (by kernel_rfl) _ _ 4 4 N cap rfl rfl (w.heap.size + 1) 0 (ivs zF) 73 (HBLK.out _ rfl).2.1 CS (by rw [HCL.out]; exact (Nat.min_eq_left h4).symm) (fun h0 => ⟨rfl, HCC.out _ (below_trans (below_alloc _ _) (below_alloc _ _)) h0⟩) (by rw [HCL.out]; simp [zF]; exact h4) HC1.out (w.heap.size + 1) _ (Below.refl _ _) (Nat.le_refl _) ?_; intro w2 hg2 hb2; rw [HSP.out] at hg2; have HT2 := Lib.hid (show BlkF w2 (w.heap.size + 1) us from ⟨hg2.out, HX4.out⟩); have HU2 := Lib.hid (blkF_keep (HBLK.out _ rfl).1 (hb2.block _ (by omega))); have HB2 := Lib.hid ((below_trans (below_alloc w _) (below_alloc _ _)).trans (hb2.mono (Nat.le_succ _))); clear hg2 hb2)
    | refine wpList_getF rfl _ rfl (w.heap.size + 1) rfl us HT2.out ?_
    | (refine wpList_putF rfl _ _ rfl w.heap.size rfl zF us rfl HU2.out HX4.out ?_; intro w5 hB5 hk5 hbb _; have HB5 := Lib.hid (HB2.out.trans (hbb _ (Nat.le_refl _)))))
  refine bodyPost_ret (results_form1 rfl _ _ _ _ rfl hB5) rfl ?_
  exact ⟨rfl, HB5.out⟩
end Go.Proofs.YtampjipbemmicaaDoor
