/- Chapter 8: numbersBy: the numbers in the order of their letters. -/
import Derived.Test.YtlcbdmmmafpchaaDoorsh
import Derived.Deep.RegionLaw
namespace Go.Proofs.YtlcbdmmmafpchaaDoor
open Go.RowKit Go.BigFrame Go.Deep
set_option linter.unusedSimpArgs false
set_option linter.unusedVariables false
set_option maxRecDepth 4000

/-- What the walk's relation says of the rows, the keys being told by a function. -/
structure NbS (T : TypeId) (key : Nat → Value) (w : World) (nb kk kb C k : Nat) (W : World) : Prop where
  rowN : ∀ i, i < k → W.cell? ⟨nb, i, none⟩ = some (.int .i64 (i : Int))
  okN : ∀ i, i < C → (W.cell? ⟨nb, i, none⟩).isSome = true ∧ W.frozen? ⟨nb, i, none⟩ = false
  rowK : ∀ i, i < k → W.cell? ⟨kk, i, none⟩ = some (key i)
  okK : ∀ i, i < C → (W.cell? ⟨kk, i, none⟩).isSome = true ∧ W.frozen? ⟨kk, i, none⟩ = false
  var : W.heap[kb]? = some (.cells #[.slice (some ⟨kk, 0, none⟩) k C] T (0, 0))
  below : Below w.heap.size w W
  hn : w.heap.size ≤ nb
  hk : w.heap.size ≤ kk
  hv : w.heap.size ≤ kb
  nk : nb ≠ kk
  nv : nb ≠ kb
  kv : kk ≠ kb
  ln : nb < W.heap.size
  lk : kk < W.heap.size
theorem NbS.lv {T : TypeId} {key : Nat → Value} {w W : World} {nb kk kb C k : Nat} (h : NbS T key w nb kk kb C k W) : kb < W.heap.size := (Array.getElem?_eq_some_iff.1 h.var).1
theorem NbS.cell {T : TypeId} {key : Nat → Value} {w W : World} {nb kk kb C k : Nat} (h : NbS T key w nb kk kb C k W) : W.cell? ⟨kb, 0, none⟩ = some (.slice (some ⟨kk, 0, none⟩) k C) ∧ W.frozen? ⟨kb, 0, none⟩ = false :=
  ⟨by rw [cell_of_row W kb 0 _ _ _ h.var]; rfl, frozen_of_row W kb 0 _ _ h.var⟩
theorem NbS.next {T : TypeId} {key : Nat → Value} {w wr X : World} {nb kk kb C k : Nat} (h : NbS T key w nb kk kb C k wr) (r : RR nb kk k (.int .i64 (k : Int)) (key k) wr true true X) :
    NbS T key w nb kk kb C (k + 1) (X.setCell ⟨kb, 0, none⟩ (.slice (some ⟨kk, 0, none⟩) (k + 1) C)) := by
  have hvar := (r.block kb h.lv (fun e => h.nv e.symm) (fun e => h.kv e.symm)).trans h.var
  have cN : ∀ i, (X.setCell ⟨kb, 0, none⟩ (.slice (some ⟨kk, 0, none⟩) (k + 1) C)).cell? ⟨nb, i, none⟩ = if i = k then some (.int .i64 (k : Int)) else wr.cell? ⟨nb, i, none⟩ := fun i => by
    rw [World.cell?_setCell_other _ _ _ _ (fun e => h.nv (by cases e; rfl)), r.cn i]; simp
  have cK : ∀ i, (X.setCell ⟨kb, 0, none⟩ (.slice (some ⟨kk, 0, none⟩) (k + 1) C)).cell? ⟨kk, i, none⟩ = if i = k then some (key k) else wr.cell? ⟨kk, i, none⟩ := fun i => by
    rw [World.cell?_setCell_other _ _ _ _ (fun e => h.kv (by cases e; rfl)), r.ck i]; simp
  refine ⟨fun i hi => ?_, fun i hi => ⟨?_, ?_⟩, fun i hi => ?_, fun i hi => ⟨?_, ?_⟩, ?_, ?_, h.hn, h.hk, h.hv, h.nk, h.nv, h.kv, ?_, ?_⟩
  · rw [cN i]
    by_cases e : i = k
    · rw [if_pos e, e]
    · rw [if_neg e]; exact h.rowN i (by omega)
  · rw [cN i]; split
    · rfl
    · exact (h.okN i hi).1
  · rw [World.frozen?_setCell, r.fn i]; exact (h.okN i hi).2
  · rw [cK i]
    by_cases e : i = k
    · rw [if_pos e, e]
    · rw [if_neg e]; exact h.rowK i (by omega)
  · rw [cK i]; split
    · rfl
    · exact (h.okK i hi).1
  · rw [World.frozen?_setCell, r.fk i]; exact (h.okK i hi).2
  · rw [heap_setCell_same X kb 0 _ _ _ hvar]; rfl
  · have hlv := h.lv
    have hb : Below w.heap.size w X := ⟨r.os.trans h.below.os, r.tape.trans h.below.tape, r.output.trans h.below.output, Nat.le_trans h.below.size r.size, fun b hB => by
      have hn := h.hn; have hk := h.hk
      exact (r.block b (Nat.lt_of_lt_of_le hB h.below.size) (by omega) (by omega)).trans (h.below.block b hB)⟩
    exact hb.setCell h.hv _
  · have := Nat.lt_of_lt_of_le h.ln r.size; simpa [World.setCell] using this
  · have := Nat.lt_of_lt_of_le h.lk r.size; simpa [World.setCell] using this
theorem made_cell {W : World} {g C : Nat} {T : TypeId} {v : Value} (h1 : v.cells.size = 1) (h : W.heap[g]? = some (.cells (madeCells v.cells (C * 1)) T (0, 0))) (i : Nat) (hi : i < C) : (W.cell? ⟨g, i, none⟩).isSome = true ∧ W.frozen? ⟨g, i, none⟩ = false := by
  refine ⟨?_, frozen_of_row W g i _ _ h⟩
  rw [cell_of_row W g i _ _ _ h]
  have hs : (madeCells v.cells (C * 1)).size = C := by
    rw [size_madeCells, Nat.mul_one]
  rw [Array.getElem?_eq_getElem (by omega)]
  rfl
theorem nbS_start {T : TypeId} {key : Nat → Value} {w wx : World} {C : Nat} {v1 v2 : Value} {E1 E2 : TypeId} {nb kk kb : Nat} (h1 : v1.cells.size = 1) (h2 : v2.cells.size = 1)
    (rn : wx.heap[nb]? = some (.cells (madeCells v1.cells (C * 1)) E1 (0, 0))) (rk : wx.heap[kk]? = some (.cells (madeCells v2.cells (C * 1)) E2 (0, 0)))
    (rv : wx.heap[kb]? = some (.cells #[.slice (some ⟨kk, 0, none⟩) 0 C] T (0, 0))) (hb : Below w.heap.size w wx) (hn : w.heap.size ≤ nb) (hk : w.heap.size ≤ kk) (hv : w.heap.size ≤ kb) (nk : nb ≠ kk) (nv : nb ≠ kb) (kv : kk ≠ kb) : NbS T key w nb kk kb C 0 wx :=
  ⟨fun i hi => by omega, fun i hi => made_cell h1 rn i hi, fun i hi => by omega, fun i hi => made_cell h2 rk i hi, rv, hb, hn, hk, hv, nk, nv, kv, (Array.getElem?_eq_some_iff.1 rn).1, (Array.getElem?_eq_some_iff.1 rk).1⟩
theorem RR.low {nb kk k : Nat} {x y : Value} {w0 w W : World} {fN fK : Bool} (r : RR nb kk k x y w fN fK W) (hb : Below w0.heap.size w0 w) (hn : w0.heap.size ≤ nb) (hk : w0.heap.size ≤ kk) : Below w0.heap.size w0 W :=
  ⟨r.os.trans hb.os, r.tape.trans hb.tape, r.output.trans hb.output, Nat.le_trans hb.size r.size, fun b hB => (r.block b (Nat.lt_of_lt_of_le hB hb.size) (by omega) (by omega)).trans (hb.block b hB)⟩
theorem RR.okN {nb kk k : Nat} {x y : Value} {w W : World} {fN fK : Bool} (r : RR nb kk k x y w fN fK W) (h : (w.cell? ⟨nb, k, none⟩).isSome = true ∧ w.frozen? ⟨nb, k, none⟩ = false) : (W.cell? ⟨nb, k, none⟩).isSome = true ∧ W.frozen? ⟨nb, k, none⟩ = false := by
  refine ⟨?_, by rw [r.fn]; exact h.2⟩
  rw [r.cn]; split
  · rfl
  · exact h.1
theorem RR.okK {nb kk k : Nat} {x y : Value} {w W : World} {fN fK : Bool} (r : RR nb kk k x y w fN fK W) (h : (w.cell? ⟨kk, k, none⟩).isSome = true ∧ w.frozen? ⟨kk, k, none⟩ = false) : (W.cell? ⟨kk, k, none⟩).isSome = true ∧ W.frozen? ⟨kk, k, none⟩ = false := by
  refine ⟨?_, by rw [r.fk]; exact h.2⟩
  rw [r.ck]; split
  · rfl
  · exact h.1
theorem RR.var {nb kk k : Nat} {x y : Value} {w W : World} {fN fK : Bool} (r : RR nb kk k x y w fN fK W) {kb : Nat} {o : Obj} (h : w.heap[kb]? = some o) (h1 : nb ≠ kb) (h2 : kk ≠ kb) : W.heap[kb]? = some o :=
  (r.block kb (Array.getElem?_eq_some_iff.1 h).1 (fun e => h1 e.symm) (fun e => h2 e.symm)).trans h
theorem RR.sv {nb kk k : Nat} {x y v : Value} {w W : World} {fN fK : Bool} (r : RR nb kk k x y w fN fK W) {kb : Nat} {T : TypeId} (h : w.heap[kb]? = some (.cells #[v] T (0, 0))) (h1 : nb ≠ kb) (h2 : kk ≠ kb) : W.cell? ⟨kb, 0, none⟩ = some v ∧ W.frozen? ⟨kb, 0, none⟩ = false :=
  ⟨by rw [cell_of_row W kb 0 _ _ _ (r.var h h1 h2)]; rfl, frozen_of_row W kb 0 _ _ (r.var h h1 h2)⟩
theorem cell_of_var {W : World} {kb : Nat} {v : Value} {T : TypeId} (h : W.heap[kb]? = some (.cells #[v] T (0, 0))) : W.cell? ⟨kb, 0, none⟩ = some v := by rw [cell_of_row W kb 0 _ _ _ h]; rfl
/-- RR, with cells of the call's own that hold what was laid into them. -/
structure RL (nb kk k : Nat) (x y : Value) (w : World) (fN fK : Bool) (L : List (Nat × Value)) (W : World) : Prop where
  rr : RR nb kk k x y w fN fK W
  src : ∀ e ∈ L, w.heap.size ≤ e.1 ∧ e.1 < W.heap.size ∧ W.cell? ⟨e.1, 0, none⟩ = some e.2
theorem RL.below {nb kk k : Nat} {x y : Value} {w W W' : World} {fN fK : Bool} {L : List (Nat × Value)} (h : RL nb kk k x y w fN fK L W) (hb : Below W.heap.size W W') : RL nb kk k x y w fN fK L W' :=
  ⟨h.rr.below hb, fun e he => by
    obtain ⟨h1, h2, h3⟩ := h.src e he
    exact ⟨h1, Nat.lt_of_lt_of_le h2 hb.size, (hb.cell (p := ⟨e.1, 0, none⟩) h2).trans h3⟩⟩
theorem RL.drew {nb kk k : Nat} {x y : Value} {w W : World} {fN fK : Bool} {L : List (Nat × Value)} (h : RL nb kk k x y w fN fK L W) : RL nb kk k x y w fN fK L W.drew := h.below (below_drew W)
theorem RL.new {nb kk k : Nat} {x y : Value} {w W : World} {fN fK : Bool} {L : List (Nat × Value)} (h : RL nb kk k x y w fN fK L W) (v : Value) (T : TypeId) : RL nb kk k x y w fN fK ((W.heap.size, v) :: L) (W.alloc (.cells #[v] T)) := by
  refine ⟨h.rr.alloc _, fun e he => ?_⟩
  rcases List.mem_cons.1 he with rfl | he
  · exact ⟨h.rr.size, by simp, cell_new _ _ _⟩
  · exact (h.below (below_alloc W (.cells #[v] T))).src e he
theorem RL.setN {nb kk k : Nat} {x y : Value} {w W : World} {fN fK : Bool} {L : List (Nat × Value)} (h : RL nb kk k x y w fN fK L W) (hs : (w.cell? ⟨nb, k, none⟩).isSome = true) : RL nb kk k x y w true fK L (W.setCell ⟨nb, k, none⟩ x) :=
  ⟨h.rr.setN hs, fun e he => by
    obtain ⟨h1, h2, h3⟩ := h.src e he
    have := h.rr.hn
    exact ⟨h1, by simpa [World.setCell] using h2, (World.cell?_setCell_far _ _ _ _ (show nb ≠ e.1 by omega)).trans h3⟩⟩
theorem RL.setK {nb kk k : Nat} {x y : Value} {w W : World} {fN fK : Bool} {L : List (Nat × Value)} (h : RL nb kk k x y w fN fK L W) (hs : (w.cell? ⟨kk, k, none⟩).isSome = true) : RL nb kk k x y w fN true L (W.setCell ⟨kk, k, none⟩ y) :=
  ⟨h.rr.setK hs, fun e he => by
    obtain ⟨h1, h2, h3⟩ := h.src e he
    have := h.rr.hk
    exact ⟨h1, by simpa [World.setCell] using h2, (World.cell?_setCell_far _ _ _ _ (show kk ≠ e.1 by omega)).trans h3⟩⟩
theorem step_appN {nb kk k C bx c1 : Nat} {x y : Value} {w W : World} {fN fK : Bool} {L : List (Nat × Value)} {ops : Array Oper} {o : Oper} {a : Act} {K : Act → World → Prop} {Q : Exit → Act → World → Prop} {E : Prop} {t e : TypeId} {i : TypeInfo}
    (hgd : o.guard = none) (s q : Operand) (ho : o.op = .call { callee := .builtin .append, args := #[s, q], argTypes := #[t, t] })
    (ht : Tryd.prog.underlying t = some (.slice e)) (hi : Tryd.prog.info? e = some i) (hsz : i.size = 1) (hv : x.oneCell' = true) (r : RL nb kk k x y w fN fK L W)
    (on : (w.cell? ⟨nb, k, none⟩).isSome = true ∧ w.frozen? ⟨nb, k, none⟩ = false) (hk : k + 1 ≤ C) (hs : a.eval s = .slice (some ⟨nb, 0, none⟩) k C) (hx : a.eval q = .slice (some ⟨bx, 0, none⟩) 1 c1) (hm : (bx, x) ∈ L)
    (h : ∀ w7, RL nb kk k x y w true fK L w7 → K (a.put o.dst (.slice (some ⟨nb, 0, none⟩) (k + 1) C)) w7) : if Region.wanted o (yielded ops a.tmps) = true then Oper.wp Tryd.prog o a W K Q else E :=
  step_append_run hgd s q t ho (appS_run ht hi hsz hv (r.rr.okN on).1 (r.rr.okN on).2 (r.src _ hm).2.2 hk) hs hx (h _ (r.setN on.1))
theorem step_appK {nb kk k C bx c1 : Nat} {x y : Value} {w W : World} {fN fK : Bool} {L : List (Nat × Value)} {ops : Array Oper} {o : Oper} {a : Act} {K : Act → World → Prop} {Q : Exit → Act → World → Prop} {E : Prop} {t e : TypeId} {i : TypeInfo}
    (hgd : o.guard = none) (s q : Operand) (ho : o.op = .call { callee := .builtin .append, args := #[s, q], argTypes := #[t, t] })
    (ht : Tryd.prog.underlying t = some (.slice e)) (hi : Tryd.prog.info? e = some i) (hsz : i.size = 1) (hv : y.oneCell' = true) (r : RL nb kk k x y w fN fK L W)
    (on : (w.cell? ⟨kk, k, none⟩).isSome = true ∧ w.frozen? ⟨kk, k, none⟩ = false) (hk : k + 1 ≤ C) (hs : a.eval s = .slice (some ⟨kk, 0, none⟩) k C) (hx : a.eval q = .slice (some ⟨bx, 0, none⟩) 1 c1) (hm : (bx, y) ∈ L)
    (h : ∀ w7, RL nb kk k x y w fN true L w7 → K (a.put o.dst (.slice (some ⟨kk, 0, none⟩) (k + 1) C)) w7) : if Region.wanted o (yielded ops a.tmps) = true then Oper.wp Tryd.prog o a W K Q else E :=
  step_append_run hgd s q t ho (appS_run ht hi hsz hv (r.rr.okK on).1 (r.rr.okK on).2 (r.src _ hm).2.2 hk) hs hx (h _ (r.setK on.1))
theorem RR.lv {nb kk k kb : Nat} {x y : Value} {w W : World} {fN fK : Bool} {o : Obj} (r : RR nb kk k x y w fN fK W) (hv : w.heap[kb]? = some o) : kb < W.heap.size := Nat.lt_of_lt_of_le (Array.getElem?_eq_some_iff.1 hv).1 r.size
theorem step_know {nb kk k kb : Nat} {x y v : Value} {w W : World} {fN fK : Bool} {L : List (Nat × Value)} {T : TypeId} {ops : Array Oper} {o : Oper} {a : Act} {K : Act → World → Prop} {Q : Exit → Act → World → Prop} {E : Prop}
    (r : RL nb kk k x y w fN fK L W) (hv : w.heap[kb]? = some (.cells #[v] T (0, 0))) (h1 : nb ≠ kb) (h2 : kk ≠ kb)
    (h : W.cell? ⟨kb, 0, none⟩ = some v → W.frozen? ⟨kb, 0, none⟩ = false → if Region.wanted o (yielded ops a.tmps) = true then Oper.wp Tryd.prog o a W K Q else E) : if Region.wanted o (yielded ops a.tmps) = true then Oper.wp Tryd.prog o a W K Q else E :=
  h (RR.sv r.rr hv h1 h2).1 (RR.sv r.rr hv h1 h2).2
/-- The first n numbers. -/
def numsI (n : Nat) : List Int := (List.range n).map fun (i : Nat) => (i : Int)
theorem numsI_len (n : Nat) : (numsI n).length = n := by simp [numsI]
theorem numsI_get (n i : Nat) (h : i < n) : (numsI n).getD i 0 = (i : Int) := by simp [numsI, List.getD, h]
theorem numsI_inc (n : Nat) : (numsI n).Pairwise (fun x y => x < y) := by
  unfold numsI
  rw [List.pairwise_map]
  exact List.pairwise_lt_range.imp (fun h => by omega)
theorem numsI_mem {n : Nat} {x : Int} (h : x ∈ numsI n) : 0 ≤ x ∧ x < n := by
  simp only [numsI, List.mem_map, List.mem_range] at h
  obtain ⟨i, hi, rfl⟩ := h
  omega
theorem NbS.row {T : TypeId} {key : Nat → Value} {w W : World} {nb kk kb C : Nat} (h : NbS T key w nb kk kb C C W) : RowB W nb (numsI C) :=
  ⟨fun i hi => by rw [numsI_len] at hi; rw [h.rowN i hi, numsI_get C i hi], fun i hi => by rw [numsI_len] at hi; exact (h.okN i hi).2⟩

def keysS (C : Nat) : List (List UInt8) := (List.range C).map fun i => ltN i
theorem keysS_get (C i : Nat) (h : i < C) : (keysS C).getD i [] = ltN i := by simp [keysS, List.getD, h]
theorem NbS.keys_string {w W : World} {nb kk kb C : Nat} (h : NbS 32 (fun i => .string (bs (ltN i))) w nb kk kb C C W) : KeysS W kb kk C C (keysS C) :=
  ⟨h.cell.1, fun i hi => by rw [h.rowK i hi, keysS_get C i hi]⟩
set_option maxHeartbeats 8000000 in
theorem numbersByS_any (N C : Nat) (hC : C = N + 1) (hN : N ≤ 2000) (w : World) (NA : NamesAt w)
    (HT : ∀ (k : Nat) (W : World), k ≤ 2000 → NamesAt W → Calls Tryd.prog 80 #[.int .i64 (k : Int)] W fun e w' => e = .returned (.string (bs (ltN k))) ∧ Below W.heap.size W w') :
    Calls Tryd.prog 79 #[.int .i64 (N : Int), .func (.func 80) #[] #[]] w fun e w' => ∃ nb S, e = .returned (.slice (some ⟨nb, 0, none⟩) C C) ∧ Srt (ltLex blB (fun x => (keysS C).getD x.toNat [])) S ∧ S.Perm (numsI C) ∧ RowB w' nb S ∧ Below w.heap.size w w' := by
  have hCz : (N : Int) + 1 = (C : Int) := by omega
  have hC2 : C ≤ 2001 := by omega
  have hC1 : 1 ≤ C := by omega
  have HC := Lib.hid hC
  clear hC hN
  have HNA := Lib.hid NA
  obtain ⟨i1, hi1, hz1, hs1, hb1⟩ := info_parts (show (Tryd.prog.info? 3).map (fun i => (i.zero, i.size, i.bytes)) = some (some (.int .i64 0), 1, 8) by kernel_rfl)
  obtain ⟨i2, hi2, hz2, hs2, hb2⟩ := info_parts (show (Tryd.prog.info? 9).map (fun i => (i.zero, i.size, i.bytes)) = some (some (.string ⟨#[]⟩), 1, 16) by kernel_rfl)
  have h1 : ∀ W : World, (Instr.makeSlice 29 (.int .i64 0) (.int .i64 (C : Int))).run Tryd.prog W = .ok (.slice (some ⟨W.heap.size, 0, none⟩) 0 C) (W.alloc (.cells (madeCells (Value.int .i64 0).cells (C * 1)) 3)) := fun W => by
    have := make_run Tryd.underlying29 hi1 hz1 (by omega) C (by omega) W
    rwa [hs1] at this
  have h2 : ∀ W : World, (Instr.makeSlice 32 (.int .i64 0) (.int .i64 (C : Int))).run Tryd.prog W = .ok (.slice (some ⟨W.heap.size, 0, none⟩) 0 C) (W.alloc (.cells (madeCells (Value.string ⟨#[]⟩).cells (C * 1)) 9)) := fun W => by
    have := make_run Tryd.underlying32 hi2 hz2 (by omega) C (by omega) W
    rwa [hs2] at this
  obtain ⟨Z1, hZ1⟩ : ∃ Z : Obj, Z = .cells (madeCells (Value.int .i64 0).cells (C * 1)) 3 := ⟨_, rfl⟩
  obtain ⟨Z2, hZ2⟩ : ∃ Z : Obj, Z = .cells (madeCells (Value.string ⟨#[]⟩).cells (C * 1)) 9 := ⟨_, rfl⟩
  simp only [← hZ1] at h1
  simp only [← hZ2] at h2
  have HZ1 := Lib.hid hZ1; have HZ2 := Lib.hid hZ2
  clear hZ1 hZ2
  go_enter Tryd.func79, Tryd.ntmps79
  go_upto_region 1 with fail
  go_cut [5, 6] from 8 to 13 (fun nv kv wx => ∃ nb kk kb : Nat, nv = .slice (some ⟨nb, 0, none⟩) 0 C ∧ kv = .pointer (some ⟨kb, 0, none⟩) ∧ Hid (Made3 32 w wx C Z1 Z2 nb kk kb))
  case first =>
    go_region
    all_goals
      go_wp2_with fail
      go_meet
      (first
        | (obtain ⟨a1, a2, a3, a4⟩ := alloc3r w Z1 Z2 (.cells #[.slice (some ⟨w.heap.size + 1, 0, none⟩) 0 C] 32 (0, 0)) _ rfl
           exact ⟨_, w.heap.size + 1, _, rfl, rfl, by omega, by omega, by omega, by omega, by omega, by omega, a1, a2, a3, a4.drew⟩)
        | (obtain ⟨a1, a2, a3, a4⟩ := alloc3r w Z1 (.cells #[.slice (some ⟨w.heap.size + 1 + 1, 0, none⟩) 0 C] 32 (0, 0)) Z2 _ rfl
           exact ⟨_, w.heap.size + 1 + 1, _, rfl, rfl, by omega, by omega, by omega, by omega, by omega, by omega, a1, a3, a2, a4.drew⟩)
        | (obtain ⟨a1, a2, a3, a4⟩ := alloc3r w Z2 Z1 (.cells #[.slice (some ⟨w.heap.size, 0, none⟩) 0 C] 32 (0, 0)) _ rfl
           exact ⟨_, w.heap.size, _, rfl, rfl, by omega, by omega, by omega, by omega, by omega, by omega, a2, a1, a3, a4.drew⟩)
        | (obtain ⟨a1, a2, a3, a4⟩ := alloc3r w Z2 (.cells #[.slice (some ⟨w.heap.size, 0, none⟩) 0 C] 32 (0, 0)) Z1 _ rfl
           exact ⟨_, w.heap.size, _, rfl, rfl, by omega, by omega, by omega, by omega, by omega, by omega, a3, a1, a2, a4.drew⟩)
        | (obtain ⟨a1, a2, a3, a4⟩ := alloc3r w (.cells #[.slice (some ⟨w.heap.size + 1 + 1, 0, none⟩) 0 C] 32 (0, 0)) Z1 Z2 _ rfl
           exact ⟨_, w.heap.size + 1 + 1, _, rfl, rfl, by omega, by omega, by omega, by omega, by omega, by omega, a2, a3, a1, a4.drew⟩)
        | (obtain ⟨a1, a2, a3, a4⟩ := alloc3r w (.cells #[.slice (some ⟨w.heap.size + 1, 0, none⟩) 0 C] 32 (0, 0)) Z2 Z1 _ rfl
           exact ⟨_, w.heap.size + 1, _, rfl, rfl, by omega, by omega, by omega, by omega, by omega, by omega, a3, a2, a1, a4.drew⟩))
  case rest =>
    obtain ⟨nb, kk, kb, rfl, rfl, HM⟩ := hcut
    go_wp2_with fail
    go_loopw [5, 16] (fun nv iv wr => ∃ k : Nat, k ≤ C ∧ iv = .int .i64 (k : Int) ∧ nv = .slice (some ⟨nb, 0, none⟩) k C ∧ Hid (NbS 32 (fun i => .string (bs (ltN i))) w nb kk kb C k wr)) (fun _ iv _ => C - (intOf iv).toNat)
    case atStart => exact ⟨0, Nat.zero_le _, rfl, rfl, nbS_start rfl rfl (by rw [← HZ1.out]; exact HM.out.rn) (by rw [← HZ2.out]; exact HM.out.rk) HM.out.rv HM.out.below HM.out.hn HM.out.hk HM.out.hv HM.out.nk HM.out.nv HM.out.kv⟩
    case round =>
      obtain ⟨k, hk, rfl, rfl, HX⟩ := hrel
      by_cases hlt : k < C
      · have hx := HX.out
        have hvc := hx.cell.1
        have hvf := hx.cell.2
        have oN := hx.okN k hlt
        have oK := hx.okK k hlt
        have hR0 : RR nb kk k (.int .i64 (k : Int)) (.string (bs (ltN k))) wr false false wr.drew := (RR.start hx.ln hx.lk hx.nk).drew
        have hNAw : NamesAt wr := HNA.out.below hx.below
        have hkb1 : nb ≠ kb := hx.nv
        have hkb2 : kk ≠ kb := hx.kv
        have hlv := hx.lv
        have HTK := Lib.hid (fun (W : World) (h : NamesAt W) => HT k W (by omega) h)
        have HNAW := Lib.hid hNAw; have HON := Lib.hid oN; have HOK := Lib.hid oK
        have hk9 : k ≤ 2001 := by omega
        have HVAR := Lib.hid hx.var; have HBEL := Lib.hid hx.below
        have hgn := hx.hn; have hgk := hx.hk
        have hlnw := hx.ln; have hlkw := hx.lk
        have hRw : RL nb kk k (.int .i64 (k : Int)) (.string (bs (ltN k))) wr false false [] wr := ⟨RR.start hx.ln hx.lk hx.nk, fun e he => by cases he⟩
        have hRd := hRw.drew
        clear hx oN oK hNAw hR0
        go_wp2_with fail
        go_region_law (first
          | (go_simp; go_at_call 80; refine (HTK.out _ (HNA.out.below (RR.low (RL.rr (by first | assumption | exact RL.new (by assumption) _ _ | exact RL.new (RL.new (by assumption) _ _) _ _ | exact RL.drew (RL.new (by assumption) _ _) | exact RL.drew (RL.new (RL.new (by assumption) _ _) _ _))) HBEL.out hgn hgk))).mono ?_; rintro e w5 ⟨rfl, hb5⟩; have hR5 := RL.below (by first | assumption | exact RL.new (by assumption) _ _ | exact RL.new (RL.new (by assumption) _ _) _ _ | exact RL.drew (RL.new (by assumption) _ _) | exact RL.drew (RL.new (RL.new (by assumption) _ _) _ _)) hb5; obtain ⟨hcv5, hfv5⟩ := RR.sv hR5.rr HVAR.out hkb1 hkb2; have hlt5 := RR.lv hR5.rr HVAR.out; clear hb5)
          | (refine step_appN rfl (.tmp 19) (.tmp 21) rfl Tryd.underlying29 hi1 hs1 rfl (by first | assumption | exact RL.new (by assumption) _ _ | exact RL.new (RL.new (by assumption) _ _) _ _ | exact RL.drew (RL.new (by assumption) _ _) | exact RL.drew (RL.new (RL.new (by assumption) _ _) _ _)) HON.out (by omega) rfl rfl (by simp) ?_; intro w7 hR7; obtain ⟨hcv7, hfv7⟩ := RR.sv hR7.rr HVAR.out hkb1 hkb2; have hlt7 := RR.lv hR7.rr HVAR.out)
          | (refine step_appK rfl (.tmp 23) (.tmp 27) rfl Tryd.underlying32 hi2 hs2 rfl (by first | assumption | exact RL.new (by assumption) _ _ | exact RL.new (RL.new (by assumption) _ _) _ _ | exact RL.drew (RL.new (by assumption) _ _) | exact RL.drew (RL.new (RL.new (by assumption) _ _) _ _)) HOK.out (by omega) rfl rfl (by simp) ?_; intro w8 hR8; obtain ⟨hcv8, hfv8⟩ := RR.sv hR8.rr HVAR.out hkb1 hkb2; have hlt8 := RR.lv hR8.rr HVAR.out))
        all_goals
          go_wp2_with fail
          go_roundw
          case rel => exact ⟨k + 1, by omega, by go_num, rfl, NbS.next HX.out (RL.rr (by assumption))⟩
          case measure => simp [intOf] <;> omega
      · have hkC : C = k := by omega
        subst hkC
        have hx := HX.out
        have HS := Lib.hid (sortStable_any 101 #[.pointer (some ⟨kb, 0, none⟩)] (fun x => 0 ≤ x ∧ x < (C : Int)) (ltLex blB (fun x => (keysS C).getD x.toNat [])) (fun x y => cmpS ((keysS C).getD x.toNat []) ((keysS C).getD y.toNat [])) (ordS (fun x => (keysS C).getD x.toNat [])) wr nb C C (numsI C) (numsI_len C).symm (by omega) (by omega) (Nat.le_refl _) (by unfold maxLen; omega) hx.row (numsI_inc C) (fun x hm => numsI_mem hm) (cmpAt_str hx.keys_string (by omega) hx.nv.symm hx.nk.symm))
        have hmf : ∀ (fn : Fn) (first cap : Array Value) (W : World), (Instr.makeFunc fn first cap).run Tryd.prog W = .ok (.func fn first cap) W := fun _ _ _ _ => rfl
        have HB0 := Lib.hid hx.below; have HN0 := Lib.hid hx.hn
        clear hx HX
        go_wp2_with fail
        refine HS.out.mono ?_
        rintro z w2 ⟨rfl, ⟨S, g1, g2, g3⟩, g4⟩
        have G1 := Lib.hid g1; have G2 := Lib.hid g2; have G3 := Lib.hid g3
        have HB2 := Lib.hid (HB0.out.trans (only_below g4 HN0.out))
        clear g1 g2 g3 g4
        go_wp2_with fail
        go_ret
        exact ⟨nb, S, rfl, G1.out, G2.out, G3.out, HB2.out⟩
theorem numsI_has {n : Nat} {x : Nat} (h : x < n) : (x : Int) ∈ numsI n := by
  simp only [numsI, List.mem_map, List.mem_range]
  exact ⟨x, h, rfl⟩
theorem keysAlph (C : Nat) (x y : Nat) (hx : x < C) (hy : y < C) : ltLex blB (fun x => (keysS C).getD x.toNat []) (x : Int) (y : Int) = ltAlph (x : Int) (y : Int) := by
  unfold ltAlph ltLex
  simp only [Int.toNat_natCast, keysS_get C x hx, keysS_get C y hy]
end Go.Proofs.YtlcbdmmmafpchaaDoor
