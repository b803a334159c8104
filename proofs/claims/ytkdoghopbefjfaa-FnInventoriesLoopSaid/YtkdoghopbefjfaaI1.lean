/- Runs of a word: the program's LongestRun, IsSpeakable. -/
import Derived.Test.YtkdoghopbefjfaaK2
namespace Go.Proofs.Ytkdoghopbefjfaa
open Go.RowKit Go.BigFrame Go.Shelf
set_option linter.unusedSimpArgs false
set_option linter.unusedVariables false
set_option maxRecDepth 4000
attribute [local go_sem] Oper.semAt_some

/-! ### Runs, spread out again -/
def flatR (rs : List (UInt8 × Nat)) : List UInt8 := rs.flatMap (fun p => List.replicate p.2 p.1)
theorem flatR_append (a b : List (UInt8 × Nat)) : flatR (a ++ b) = flatR a ++ flatR b := by simp [flatR]
theorem flatR_len (rs : List (UInt8 × Nat)) : (flatR rs).length = cntR rs := by
  induction rs with
  | nil => rfl
  | cons p r ih => simp only [flatR, cntR, List.flatMap_cons, List.length_append, List.length_replicate, List.map_cons, List.sum_cons] at *; omega
theorem flatR_step (acc : List (UInt8 × Nat)) (c : UInt8) : flatR (stepRun acc c) = flatR acc ++ [c] := by
  unfold stepRun
  split
  · rename_i d n h
    have hne : acc ≠ [] := by intro e; simp [e] at h
    have h2 : acc.getLast hne = (d, n) := by
      have := List.getLast?_eq_some_getLast hne
      rw [h] at this; exact (Option.some.inj this).symm
    split
    · rename_i hd
      subst hd
      conv => rhs; rw [← List.dropLast_concat_getLast hne, h2]
      rw [flatR_append, flatR_append]
      simp only [flatR, List.flatMap_cons, List.flatMap_nil, List.append_nil, List.append_assoc]
      rw [List.replicate_succ']
    · rw [flatR_append]; simp [flatR]
  · rename_i h
    have : acc = [] := by simpa using h
    subst this; simp [flatR]
theorem flatR_runs (l : List UInt8) : flatR (runsL l) = l := by
  induction h : l.length generalizing l with
  | zero => have : l = [] := List.eq_nil_of_length_eq_zero h; subst this; rfl
  | succ n ih =>
    have hne : l ≠ [] := by intro e; simp [e] at h
    have hd := List.dropLast_concat_getLast hne
    conv => lhs; rw [← hd, runsL_snoc, flatR_step, ih _ (by simp [h])]
    exact hd
theorem stepRun_pos (acc : List (UInt8 × Nat)) (c : UInt8) (h : ∀ p ∈ acc, 1 ≤ p.2) : ∀ p ∈ stepRun acc c, 1 ≤ p.2 := by
  unfold stepRun
  split
  · split
    · intro p hp
      rw [List.mem_append] at hp
      rcases hp with hp | hp
      · exact h p (List.dropLast_subset _ hp)
      · simp at hp; subst hp; simp
    · intro p hp
      rw [List.mem_append] at hp
      rcases hp with hp | hp
      · exact h p hp
      · simp at hp; subst hp; simp
  · intro p hp; simp at hp; subst hp; simp
theorem runs_pos (l : List UInt8) : ∀ p ∈ runsL l, 1 ≤ p.2 := by
  induction h : l.length generalizing l with
  | zero => intro p hp; have : l = [] := List.eq_nil_of_length_eq_zero h; subst this; simp [runsL] at hp
  | succ n ih =>
    have hne : l ≠ [] := by intro e; simp [e] at h
    have hd := List.dropLast_concat_getLast hne
    rw [← hd, runsL_snoc]
    exact stepRun_pos _ _ (ih l.dropLast (by simp [h]))
theorem flat_get (rs : List (UInt8 × Nat)) (k : Nat) (h : k < rs.length) (hp : 1 ≤ rs[k].2) : (flatR rs)[cntR (rs.take k)]? = some rs[k].1 := by
  have e : flatR rs = flatR (rs.take k) ++ flatR (rs.drop k) := by rw [← flatR_append, List.take_append_drop]
  rw [e, List.getElem?_append_right (by rw [flatR_len]; exact Nat.le_refl _), flatR_len, Nat.sub_self, List.drop_eq_getElem_cons h]
  obtain ⟨n, hn⟩ : ∃ n, rs[k].2 = n + 1 := ⟨rs[k].2 - 1, by omega⟩
  simp only [flatR, List.flatMap_cons, hn, List.replicate_succ, List.cons_append, List.getElem?_cons_zero]
theorem runs_get (l : List UInt8) (k : Nat) (h : k < (runsL l).length) : l[cntR ((runsL l).take k)]? = some (runsL l)[k].1 := by
  have := flat_get (runsL l) k h (runs_pos l _ (List.getElem_mem h))
  rw [flatR_runs] at this
  exact this

theorem digitOf_is (c : Int) (w : World) (h0 : 48 ≤ c) (h1 : c ≤ 255) :
    Calls Try.prog 94 #[.int .u8 c] w fun e w' => e = .returned (.int .i64 (c - 48)) ∧ w = w' := by
  go_enter Try.func94, Try.ntmps94
  go_wp2
  go_ret
  exact ⟨rfl, rfl⟩

/-- The runs that have come. -/
def gotR (rs : List (UInt8 × Nat)) (pre : List (Fin rs.length)) : List (UInt8 × Nat) := pre.map (fun k => rs[k])
theorem gotR_snoc (rs : List (UInt8 × Nat)) (pre : List (Fin rs.length)) (x : Fin rs.length) : gotR rs (pre ++ [x]) = gotR rs pre ++ [rs[x]] := by simp [gotR]
theorem gotR_all (rs : List (UInt8 × Nat)) : gotR rs (upF rs.length rs.length) = rs := by
  unfold gotR upF
  rw [List.take_of_length_le (by simp)]
  apply List.ext_getElem
  · simp
  · intro i h1 h2
    simp
theorem gotR_mem {rs : List (UInt8 × Nat)} {pre : List (Fin rs.length)} {p : UInt8 × Nat} (h : p ∈ gotR rs pre) : p ∈ rs := by
  unfold gotR at h
  obtain ⟨k, _, rfl⟩ := List.mem_map.1 h
  exact List.getElem_mem _
theorem ownFrom_block {β : Type} {B p : Nat} (f : β → Obj) (hp : p < B) : OwnFrom B (fun (s : β) W => W.heap[p]? = some (f s)) :=
  fun s W W' row hs hg hr => (hg.block p (Array.getElem?_eq_some_iff.1 hs).1 (fun e => by have := (hr p e.symm).1; omega)).trans hs

/-- How a function that loops over an iterator is left: plainly, or with the loop's mark among its deferred calls. -/
structure Leaves (fn : Func) (R : Ending → World → Prop) (Q : Exit → Act → World → Prop) : Prop where
  plain : ∀ a W v, a.defers = [] → (results fn a.tmps).run Try.prog W = .ok v W → R (.returned v) W → Q .ret a W
  marked : ∀ a W D v, a.defers = [{ target := .collected D, args := #[] }] → W.heap[D]? = some (.deferred (some [])) → (results fn a.tmps).run Try.prog (W.putObj D (.deferred none)) = .ok v (W.putObj D (.deferred none)) →
    R (.returned v) (W.putObj D (.deferred none)) → Q .ret a W
theorem calls_marks {f : FuncId} {fn : Func} {c : Code} {args : Array Value} {w : World} {R : Ending → World → Prop} (hf : Try.prog.funcs[f]? = some fn) (hb : fn.body = some c)
    (h : ∀ Q, Leaves fn R Q → c.wp Try.prog Q { tmps := args ++ Array.replicate (fn.ntmps - args.size) undef, defers := [] } w) : Calls Try.prog f args w R := by
  refine (callsIn_wide (n := 9)).1 (callsIn_of_wp_marks hf hb trivial (wpIn_wide.2 (h _ ⟨?_, ?_⟩)) rfl)
  · rintro ⟨tmps, ds⟩ W v hd hr hR
    simp only at hd; subst hd
    exact ⟨v, hr, hR⟩
  · rintro ⟨tmps, ds⟩ W D v hd hk hr hR
    simp only at hd; subst hd
    exact ⟨by simp, .inl ⟨_, _, rfl, run_takeDeferred hk, v, hr, hR⟩⟩
theorem below_mark {w W : World} {D : Nat} (h : Below w.heap.size w W) (hD : w.heap.size ≤ D) (hk : W.heap[D]? = some (.deferred (some []))) : Below w.heap.size w (W.putObj D (.deferred none)) :=
  h.trans (belowK_b (w := w) (Nat.le_refl _) W D _ _ hD hk rfl rfl)

/-- A bool and a row of rows, or nil and false. -/
def RowsOk (l : List UInt8) (w w' : World) (e : Ending) : Prop :=
  ∃ v vs, e = .returned (.tuple #[v, .bool (goodL l)]) ∧ OwnsRR w' w.heap.size 32 3 v vs (if goodL l = true then rowsL l else []) ∧ Below w.heap.size w w'

end Go.Proofs.Ytkdoghopbefjfaa
