/- Chapter 6: append of one number to a row of the call's own; all distances back, on both sides. -/
import Derived.Test.YtbjhalhahipjdabY2
namespace Go.Proofs.Ytbjhalhahipjdab
open Go.RowKit Go.BigFrame Go.Maps
set_option linter.unusedSimpArgs false
set_option linter.unusedVariables false
set_option maxRecDepth 4000

/-- A row and whether it is one. -/
def IntsAOk (o : Option (List Int)) (w w' : World) (e : Ending) : Prop :=
  ∃ v, e = .returned (.tuple #[v, .bool o.isSome]) ∧ IntsA w' w.heap.size v (o.getD []) ∧ Below w.heap.size w w' ∧ (o = none → v = .slice none 0 0)
theorem slice_ne {g k n c : Nat} (h : g ≠ k) : (Value.slice (some ⟨g, 0, none⟩) n c).ownBlock ≠ some k := by
  intro e; exact h (Option.some.inj e)

/-- append(out, y), out a row of the call's own that may grow. -/
theorem wpI_app {ops : Array Oper} {rest : List Oper} {o : Oper} {a : Act} {Q : Exit → Act → World → Prop} (W : World) (hgd : o.guard = none) (s x : Operand)
    (ho : o.op = .call { callee := .builtin .append, args := #[s, x], argTypes := #[22, 22] })
    (n0 : World) {v : Value} {xs : List Int} (y : Int) (h : Ints W n0.heap.size v xs) (hs : a.eval s = v) (hx : a.eval x = .slice (some ⟨W.heap.size, 0, none⟩) 1 1) (hb : Below n0.heap.size n0 W) (hl : xs.length ≤ 1000000)
    (hK : ∀ v' w', Ints w' n0.heap.size v' (xs ++ [y]) → Below n0.heap.size n0 w' → (∀ g, g < W.heap.size → v.ownBlock ≠ some g → w'.heap[g]? = W.heap[g]?) → W.heap.size ≤ w'.heap.size → (v'.ownBlock = v.ownBlock ∨ ∃ g, v'.ownBlock = some g ∧ W.heap.size ≤ g) → wpList Try.prog ops Q rest (a.put o.dst v') w') :
    wpList Try.prog ops Q (o :: rest) a (W.alloc (.cells #[.int .i64 y] 3)) := by
  obtain ⟨i0, hi, hz0, hz1, hz2⟩ := info_parts info_intT
  have hsz := hb.size
  refine wpList_app _ hgd s x 22 ho n0.heap.size 3 i0 (.int .i64 0) 8 Try.underlying22 hi hz0 hz1 hz2 rfl v xs.length _ hs (World.ownsRow.alloc h _) ⟨W.heap.size, 0, none⟩ 1 1 [.int .i64 y] hx rfl (cell_one_new _ _ _) (by simp [Value.oneCell']) (by unfold maxLen; omega) (by omega) (by simp; omega) ?_
  intro v' w' ho' hgr hwh
  refine hK v' w' ?_ ((hb.alloc hb.size _).grown hgr (by simp; omega) (fun g hg => (h.lt g hg).1)) (fun g hg hne => (hgr.block g (by simp; omega) hne.symm).trans (heap_alloc_old _ _ hg)) ?_ ?_
  · unfold Ints; simpa using ho'
  · have := hgr.size; simp at this; omega
  · rcases hwh with e | e
    · exact .inl e
    · exact .inr ⟨_, e, by simp⟩
/-- append(out, y) within the capacity. -/
theorem wpI_fits {ops : Array Oper} {rest : List Oper} {o : Oper} {a : Act} {Q : Exit → Act → World → Prop} (W : World) (hgd : o.guard = none) (s x : Operand)
    (ho : o.op = .call { callee := .builtin .append, args := #[s, x], argTypes := #[22, 22] })
    (n0 : World) {g k cap : Nat} {xs : List Int} (y : Int) (h : Ints W n0.heap.size (.slice (some ⟨g, 0, none⟩) k cap) xs) (hs : a.eval s = .slice (some ⟨g, 0, none⟩) k cap) (hx : a.eval x = .slice (some ⟨W.heap.size, 0, none⟩) 1 1) (hk : xs.length = k) (hb : Below n0.heap.size n0 W) (hl : k + 1 ≤ cap)
    (hK : ∀ w', Ints w' n0.heap.size (.slice (some ⟨g, 0, none⟩) (k + 1) cap) (xs ++ [y]) → Below n0.heap.size n0 w' → (∀ j, j < W.heap.size → j ≠ g → w'.heap[j]? = W.heap[j]?) → W.heap.size ≤ w'.heap.size → wpList Try.prog ops Q rest (a.put o.dst (.slice (some ⟨g, 0, none⟩) (k + 1) cap)) w') :
    wpList Try.prog ops Q (o :: rest) a (W.alloc (.cells #[.int .i64 y] 3)) := by
  obtain ⟨i0, hi, hz0, hz1, hz2⟩ := info_parts info_intT
  have hsz := hb.size
  subst hk
  refine wpList_append_fits _ hgd s x 22 ho n0.heap.size 3 i0 1 Try.underlying22 hi hz1 g xs.length cap _ hs (World.ownsRow.alloc h _) ⟨W.heap.size, 0, none⟩ 1 1 [.int .i64 y] hx rfl (cell_one_new _ _ _) (by simp [Value.oneCell']) hl ?_
  intro w' ho' hgr
  refine hK w' ?_ ((hb.alloc hb.size _).grown hgr (by simp; omega) (fun j hj => by cases hj; exact (h.lt g rfl).1)) (fun j hj hne => (hgr.block j (by simp; omega) (fun e => hne (Option.some.inj e))).trans (heap_alloc_old _ _ hj)) ?_
  · unfold Ints; simpa using ho'
  · have := hgr.size; simp at this; omega

end Go.Proofs.Ytbjhalhahipjdab
