/- Chapter 8: numbersBy. -/
import Derived.Test.YtlcbdmmmafpchaaDoorsg
import Derived.Test.YtlcbdmmmafpchaaDoormg
import Derived.Deep.CutRange
import Derived.Laws.MakeOwn
import Derived.Deep.RegionHeld3
import Derived.Deep.AppendSrc
namespace Go.Proofs.YtlcbdmmmafpchaaDoor
open Go.RowKit Go.BigFrame Go.Deep
set_option linter.unusedSimpArgs false
set_option linter.unusedVariables false
set_option maxRecDepth 4000

theorem make_run {t e : TypeId} {i : TypeInfo} {z : Value} (ht : Tryd.prog.underlying t = some (.slice e)) (hi : Tryd.prog.info? e = some i) (hz : i.zero = some z) (h8 : i.bytes ≤ 16) (C : Nat) (hC : C ≤ 4000) (W : World) :
    (Instr.makeSlice t (.int .i64 0) (.int .i64 (C : Int))).run Tryd.prog W = .ok (.slice (some ⟨W.heap.size, 0, none⟩) 0 C) (W.alloc (.cells (madeCells z.cells (C * i.size)) e)) := by
  have hb : (i.bytes : Int) * (C : Int) ≤ 281474976710656 := by
    have : i.bytes * C ≤ 16 * 4000 := Nat.mul_le_mul h8 hC
    have h2 : ((i.bytes * C : Nat) : Int) ≤ 281474976710656 := by omega
    rwa [Int.natCast_mul] at h2
  have := run_make (P := Tryd.prog) W t e i z ht hi hz .i64 .i64 0 (C : Int) (by omega) (by omega) hb (by omega)
  simpa using this

theorem alloc3r (w : World) (o1 o2 o3 : Obj) (W : World) (hW : W = ((w.alloc o1).alloc o2).alloc o3) :
    W.heap[w.heap.size]? = some o1 ∧ W.heap[w.heap.size + 1]? = some o2 ∧ W.heap[w.heap.size + 1 + 1]? = some o3 ∧ Below w.heap.size w W := by
  obtain ⟨w1, h1⟩ : ∃ w1, w1 = w.alloc o1 := ⟨_, rfl⟩
  obtain ⟨w2, h2⟩ : ∃ w2, w2 = w1.alloc o2 := ⟨_, rfl⟩
  rw [← h1, ← h2] at hW
  have z1 : w1.heap.size = w.heap.size + 1 := by rw [h1, World.size_alloc]
  have z2 : w2.heap.size = w.heap.size + 1 + 1 := by rw [h2, World.size_alloc, z1]
  have n1 : w1.heap[w.heap.size]? = some o1 := by rw [h1]; exact heap_alloc_new _ _
  have n2 : w2.heap[w.heap.size + 1]? = some o2 := by rw [h2, ← z1]; exact heap_alloc_new _ _
  have n3 : W.heap[w.heap.size + 1 + 1]? = some o3 := by rw [hW, ← z2]; exact heap_alloc_new _ _
  have b1 : Below w.heap.size w w1 := by rw [h1]; exact below_alloc _ _
  have b2 : Below w1.heap.size w1 w2 := by rw [h2]; exact below_alloc _ _
  have b3 : Below w2.heap.size w2 W := by rw [hW]; exact below_alloc _ _
  refine ⟨?_, ?_, n3, below_trans (below_trans b1 b2) b3⟩
  · rw [b3.block _ (by omega), b2.block _ (by omega)]; exact n1
  · rw [b3.block _ (by omega)]; exact n2
/-- The three blocks behind the two makes and the variable, in whatever order they were laid. -/
structure Made3 (T : TypeId) (w wx : World) (C : Nat) (Z1 Z2 : Obj) (nb kk kb : Nat) : Prop where
  nk : nb ≠ kk
  nv : nb ≠ kb
  kv : kk ≠ kb
  hn : w.heap.size ≤ nb
  hk : w.heap.size ≤ kk
  hv : w.heap.size ≤ kb
  rn : wx.heap[nb]? = some Z1
  rk : wx.heap[kk]? = some Z2
  rv : wx.heap[kb]? = some (.cells #[.slice (some ⟨kk, 0, none⟩) 0 C] T (0, 0))
  below : Below w.heap.size w wx
/-- The state of the loop's region: what has become of the two rows since w (fN, fK: has the number, the key, come to its place?). -/
structure RR (nb kk k : Nat) (x y : Value) (w : World) (fN fK : Bool) (W : World) : Prop where
  os : W.os = w.os
  tape : W.tape = w.tape
  output : W.output = w.output
  size : w.heap.size ≤ W.heap.size
  block : ∀ b, b < w.heap.size → b ≠ nb → b ≠ kk → W.heap[b]? = w.heap[b]?
  cn : ∀ i, W.cell? ⟨nb, i, none⟩ = if fN = true ∧ i = k then some x else w.cell? ⟨nb, i, none⟩
  fn : ∀ i, W.frozen? ⟨nb, i, none⟩ = w.frozen? ⟨nb, i, none⟩
  ck : ∀ i, W.cell? ⟨kk, i, none⟩ = if fK = true ∧ i = k then some y else w.cell? ⟨kk, i, none⟩
  fk : ∀ i, W.frozen? ⟨kk, i, none⟩ = w.frozen? ⟨kk, i, none⟩
  hn : nb < w.heap.size
  hk : kk < w.heap.size
  ne : nb ≠ kk
theorem RR.start {nb kk k : Nat} {x y : Value} {w : World} (hn : nb < w.heap.size) (hk : kk < w.heap.size) (ne : nb ≠ kk) : RR nb kk k x y w false false w :=
  ⟨rfl, rfl, rfl, Nat.le_refl _, fun _ _ _ _ => rfl, fun i => by simp, fun _ => rfl, fun i => by simp, fun _ => rfl, hn, hk, ne⟩
theorem RR.below {nb kk k : Nat} {x y : Value} {w W W' : World} {fN fK : Bool} (h : RR nb kk k x y w fN fK W) (hb : Below W.heap.size W W') : RR nb kk k x y w fN fK W' :=
  have h1 := Nat.lt_of_lt_of_le h.hn h.size
  have h2 := Nat.lt_of_lt_of_le h.hk h.size
  ⟨hb.os.trans h.os, hb.tape.trans h.tape, hb.output.trans h.output, Nat.le_trans h.size hb.size, fun b hB p q => (hb.block b (Nat.lt_of_lt_of_le hB h.size)).trans (h.block b hB p q),
   fun i => (hb.cell (p := ⟨nb, i, none⟩) h1).trans (h.cn i), fun i => (hb.frozen (p := ⟨nb, i, none⟩) h1).trans (h.fn i), fun i => (hb.cell (p := ⟨kk, i, none⟩) h2).trans (h.ck i), fun i => (hb.frozen (p := ⟨kk, i, none⟩) h2).trans (h.fk i), h.hn, h.hk, h.ne⟩
theorem RR.alloc {nb kk k : Nat} {x y : Value} {w W : World} {fN fK : Bool} (h : RR nb kk k x y w fN fK W) (o : Obj) : RR nb kk k x y w fN fK (W.alloc o) := h.below (below_alloc W o)
theorem RR.drew {nb kk k : Nat} {x y : Value} {w W : World} {fN fK : Bool} (h : RR nb kk k x y w fN fK W) : RR nb kk k x y w fN fK W.drew := h.below (below_drew W)
theorem RR.setN {nb kk k : Nat} {x y : Value} {w W : World} {fN fK : Bool} (h : RR nb kk k x y w fN fK W) (hs : (w.cell? ⟨nb, k, none⟩).isSome = true) : RR nb kk k x y w true fK (W.setCell ⟨nb, k, none⟩ x) := by
  obtain ⟨u, hu⟩ : ∃ u, W.cell? ⟨nb, k, none⟩ = some u := by
    rw [h.cn k]
    split
    · exact ⟨_, rfl⟩
    · exact Option.isSome_iff_exists.1 hs
  refine ⟨h.os, h.tape, h.output, by simpa [World.setCell] using h.size, fun b hB p q => (Below.heap_setCell _ _ _ _ p).trans (h.block b hB p q), fun i => ?_, fun i => by rw [World.frozen?_setCell]; exact h.fn i, fun i => ?_, fun i => by rw [World.frozen?_setCell]; exact h.fk i, h.hn, h.hk, h.ne⟩
  · by_cases e : i = k
    · subst e
      rw [World.cell?_setCell_same _ _ _ hu, if_pos ⟨rfl, rfl⟩]
    · rw [World.cell?_setCell_other _ _ _ _ (addr_ne (fun f => e f.symm)), h.cn i, if_neg (fun f => e f.2), if_neg (fun f => e f.2)]
  · rw [World.cell?_setCell_other _ _ _ _ (fun f => h.ne (by cases f; rfl))]
    exact h.ck i
theorem RR.setK {nb kk k : Nat} {x y : Value} {w W : World} {fN fK : Bool} (h : RR nb kk k x y w fN fK W) (hs : (w.cell? ⟨kk, k, none⟩).isSome = true) : RR nb kk k x y w fN true (W.setCell ⟨kk, k, none⟩ y) := by
  obtain ⟨u, hu⟩ : ∃ u, W.cell? ⟨kk, k, none⟩ = some u := by
    rw [h.ck k]
    split
    · exact ⟨_, rfl⟩
    · exact Option.isSome_iff_exists.1 hs
  refine ⟨h.os, h.tape, h.output, by simpa [World.setCell] using h.size, fun b hB p q => (Below.heap_setCell _ _ _ _ q).trans (h.block b hB p q), fun i => ?_, fun i => by rw [World.frozen?_setCell]; exact h.fn i, fun i => ?_, fun i => by rw [World.frozen?_setCell]; exact h.fk i, h.hn, h.hk, h.ne⟩
  · rw [World.cell?_setCell_other _ _ _ _ (fun f => h.ne (by cases f; rfl))]
    exact h.cn i
  · by_cases e : i = k
    · subst e
      rw [World.cell?_setCell_same _ _ _ hu, if_pos ⟨rfl, rfl⟩]
    · rw [World.cell?_setCell_other _ _ _ _ (addr_ne (fun f => e f.symm)), h.ck i, if_neg (fun f => e f.2), if_neg (fun f => e f.2)]
/-- append of one element where there is room, as a run. -/
theorem appS_run {t e ty : TypeId} {i : TypeInfo} (ht : Tryd.prog.underlying t = some (.slice e)) (hi : Tryd.prog.info? e = some i) (hsz : i.size = 1) {W : World} {b k C bx c1 : Nat} {v : Value} (hv : v.oneCell' = true)
    (hc : (W.cell? ⟨b, k, none⟩).isSome = true) (hf : W.frozen? ⟨b, k, none⟩ = false) (hs : W.cell? ⟨bx, 0, none⟩ = some v) (hk : k + 1 ≤ C) :
    (Builtin.append_ #[t, t] ty #[.slice (some ⟨b, 0, none⟩) k C, .slice (some ⟨bx, 0, none⟩) 1 c1]).run Tryd.prog W = .ok (.slice (some ⟨b, 0, none⟩) (k + 1) C) (W.setCell ⟨b, k, none⟩ v) := by
  have hsrc : Src Tryd.prog i.size t (.slice (some ⟨bx, 0, none⟩) 1 c1) 1 [v] W := by
    rw [hsz]
    exact Src.ofSlice W ht ⟨bx, 0, none⟩ 1 c1 [v] rfl (fun j u hu => by
      match j, hu with
      | 0, hu => simp at hu; subst hu; exact hs
      | j + 1, hu => simp at hu) (fun u hu => by simp at hu; subst hu; exact hv)
  have := run_append_room_src W t t ty e i ht hi b 0 k C _ 1 [v] hsrc hk (fun j hj => by
      have : j = 0 := by simpa using hj
      subst this; rw [hsz]; simpa using hc) (fun j hj => by
      have : j = 0 := by simpa using hj
      subst this; rw [hsz]; simpa using hf)
  rw [this, hsz]
  simp [World.setCells]
theorem step_append_run {P : Program} {w : World} {ops : Array Oper} {o : Oper} {a : Act} {K : Act → World → Prop} {Q : Exit → Act → World → Prop} {E : Prop} (hgd : o.guard = none) (s x : Operand) (t : TypeId)
    (ho : o.op = .call { callee := .builtin .append, args := #[s, x], argTypes := #[t, t] }) {vs vx v' : Value} {w' : World} (hr : (Builtin.append_ #[t, t] o.type #[vs, vx]).run P w = .ok v' w') (hs : a.eval s = vs) (hx : a.eval x = vx)
    (h : K (a.put o.dst v') w') : if Region.wanted o (yielded ops a.tmps) = true then Oper.wp P o a w K Q else E := by
  have hwt : Region.wanted o (yielded ops a.tmps) = true := by simp [Region.wanted, hgd]
  rw [if_pos hwt]
  unfold Oper.wp execOp
  simp only [ho, resolve, invoke, builtin, Sem.run_bind, Sem.run_pure, Result.andThen_ok, List.map_toArray, List.map_cons, List.map_nil, hs, hx, hr]
  exact h
end Go.Proofs.YtlcbdmmmafpchaaDoor
