/- Chapter 6: slices.Grow from nil, slices.Concat of two rows. -/
import Derived.Test.YtpglkgpaaflikaaZ6
import Derived.Lib.AppendZeros
import Derived.Lib.AppendZerosOnto
namespace Go.Proofs.Ytpglkgpaaflikaa
open Go.RowKit Go.BigFrame Go.Maps
set_option linter.unusedSimpArgs false
set_option linter.unusedVariables false
set_option maxRecDepth 4000

/-- append(out, more...), both rows of numbers, out of the call's own. -/
theorem wpI_apps {ops : Array Oper} {rest : List Oper} {o : Oper} {a : Act} {Q : Exit → Act → World → Prop} (W : World) (hgd : o.guard = none) (s x : Operand)
    (ho : o.op = .call { callee := .builtin .append, args := #[s, x], argTypes := #[22, 22] })
    (n0 : World) {B : Nat} {v u : Value} {xs ys : List Int} (h : Ints W n0.heap.size v xs) (hu : Ints W B u ys) (hs : a.eval s = v) (hx : a.eval x = u) (hb : Below n0.heap.size n0 W) (hl : xs.length + ys.length ≤ 1000000)
    (hK : ∀ v' w', Ints w' n0.heap.size v' (xs ++ ys) → Below n0.heap.size n0 w' → wpList Try.prog ops Q rest (a.put o.dst v') w') :
    wpList Try.prog ops Q (o :: rest) a W := by
  obtain ⟨i0, hi, hz0, hz1, hz2⟩ := info_parts info_intT
  rcases ints_open hu with ⟨rfl, rfl⟩ | ⟨g, cap, rfl, _, hg, hn, hcp, hca, _⟩
  · obtain ⟨A, c, e, hc⟩ : ∃ A c, v = .slice A xs.length c ∧ xs.length ≤ c := by
      rcases own_open h with ⟨e, h0, _⟩ | ⟨g, c, e, _, _, hc, _⟩
      · exact ⟨none, 0, by rw [e, h0], by omega⟩
      · exact ⟨_, c, e, hc⟩
    subst e
    refine wpList_app0 W hgd s x 22 ho 3 i0 Try.underlying22 hi A xs.length c hs hx hc ?_
    exact hK _ _ (by rw [List.append_nil]; exact h) hb
  · have hsrc : ∀ j u, (ivs ys)[j]? = some u → W.cell? ((⟨g, 0, none⟩ : Addr).add j) = some u := fun j u hu => by
      have hj : j < ys.length := by have := get_lt hu; simpa [ivs] using this
      simp only [ivs, List.getElem?_map, List.getElem?_eq_getElem hj, Option.map_some, Option.some.injEq] at hu
      rw [add_plainL, Nat.zero_add, ← hu]
      exact hca j hj
    have hone : ∀ u ∈ ivs ys, u.oneCell' = true := fun u hu => by
      simp only [ivs, List.mem_map] at hu; obtain ⟨n, _, rfl⟩ := hu; rfl
    refine wpList_app _ hgd s x 22 ho n0.heap.size 3 i0 (.int .i64 0) 8 Try.underlying22 hi hz0 hz1 hz2 rfl v xs.length _ hs h ⟨g, 0, none⟩ ys.length cap (ivs ys) hx (by simp [ivs]) hsrc hone (by unfold maxLen; omega) (by omega) hb.size ?_
    intro v' w' ho' hgr _
    refine hK v' w' ?_ (hb.grown hgr hb.size (fun g hg => (h.lt g hg).1))
    unfold Ints; simpa using ho'

set_option maxHeartbeats 2000000 in
theorem growNil_any (w : World) (N : Nat) (h1 : 1 ≤ N) (h9 : N ≤ 1000) :
    Calls Try.prog 91 #[.slice none 0 0, .int .i64 N] w fun e w' => ∃ c, e = .returned (.slice (some ⟨w.heap.size, 0, none⟩) 0 c) ∧ Ints w' w.heap.size (.slice (some ⟨w.heap.size, 0, none⟩) 0 c) [] ∧ Below w.heap.size w w' := by
  obtain ⟨i0, hi, hz0, hz1, hz2⟩ := info_parts info_intT
  have hr := fun ty => Lib.run_append_grow_zeros w 22 3 ty 3 i0 (.int .i64 0) .i64 .i64 Try.underlying22 Try.underlying3 hi hz0 none 0 0 [] (run_firstCells_none w.drew i0.size 0 0 0) N (by omega) (by omega) (by omega) (by omega) (by rw [hz2]; omega) (growslice_fits (by omega) (by rw [hz2]; omega))
  have hG1 : 0 + N ≤ grownCap w (0 + N) 0 3 := grownCap_ge w _ _ _
  have hG2 := grownCap_le_maxLen w (0 + N) 0 3 (by unfold maxLen; omega)
  obtain ⟨G, hG⟩ : ∃ G, G = grownCap w (0 + N) 0 3 := ⟨_, rfl⟩
  rw [← hG] at hr hG1 hG2
  obtain ⟨cs, hcs⟩ : ∃ cs, cs = (([] : List Value).toArray ++ Builtin.zeroCells (Value.int .i64 0).cells N ++ Builtin.zeroCells (Value.int .i64 0).cells (G - (0 + N))) := ⟨_, rfl⟩
  rw [← hcs] at hr
  have hsz : cs.size = G := by rw [hcs]; simp [Builtin.zeroCells, Value.cells]; omega
  have hG63 : G ≤ 9223372036854775807 := by unfold maxLen at hG2; omega
  have h2 : ¬ ((N : Int) < 0) := by omega
  have h3 : (N : Int) > 0 := by omega
  rw [Nat.zero_add] at hr hG1
  have HR := Lib.hid hr; have HS := Lib.hid hsz; have HG2 := Lib.hid hG2
  clear hr hcs hsz hG hG2
  go_enter Try.func91, Try.ntmps91
  go_wp2_with (at_builtin; refine Lib.wpList_append_run _ rfl _ _ _ _ rfl _ _ rfl rfl _ _ (HR.out _) ?_)
  go_ret
  refine ⟨G, rfl, ⟨rfl, .inr ⟨w.heap.size, G, cs, rfl, Nat.le_refl _, ?_, Nat.zero_le _, HG2.out, by rw [HS.out, Nat.mul_one], by simp⟩⟩, (below_alloc w _).drew⟩
  exact heap_alloc_new _ _

set_option maxHeartbeats 4000000 in
theorem concat_any (w : World) (gA B1 B2 : Nat) (u1 u2 : Value) (b1 b2 : List Int) (h0 : w.cell? ⟨gA, 0, none⟩ = some u1) (h1 : w.cell? ⟨gA, 1, none⟩ = some u2) (hgA : gA < w.heap.size) (hu1 : Ints w B1 u1 b1) (hu2 : Ints w B2 u2 b2) (hl : 1 ≤ b2.length) (hl9 : b1.length + b2.length ≤ 1000) :
    Calls Try.prog 86 #[.slice (some ⟨gA, 0, none⟩) 2 2] w fun e w' => ∃ q c, e = .returned (.slice q (b1.length + b2.length) c) ∧ Ints w' w.heap.size (.slice q (b1.length + b2.length) c) (b1 ++ b2) ∧ Below w.heap.size w w' := by
  obtain ⟨A1, C1, e1⟩ := own_slice hu1
  obtain ⟨A2, C2, e2⟩ := own_slice hu2
  have HU1 := Lib.hid hu1; have HU2 := Lib.hid hu2
  obtain ⟨n1, hn1⟩ : ∃ n1, n1 = b1.length := ⟨_, rfl⟩
  obtain ⟨n2, hn2⟩ : ∃ n2, n2 = b2.length := ⟨_, rfl⟩
  have HL1 := Lib.hid hn1; have HL2 := Lib.hid hn2
  rw [← hn1] at e1 hl9 ⊢
  rw [← hn2] at e2 hl hl9 ⊢
  subst e1; subst e2
  have hs1 : ¬ ((n1 : Int) < 0) := by omega
  have hs2 : ¬ ((n1 : Int) + (n2 : Int) < 0) := by omega
  obtain ⟨S, hS⟩ : ∃ S, S = n1 + n2 := ⟨_, rfl⟩
  have eS : (n1 : Int) + (n2 : Int) = (S : Int) := by omega
  have hgrow := fun W => growNil_any W S (by omega) (by omega)
  have HG := Lib.hid hgrow; have HSS := Lib.hid hS
  clear hu1 hu2 hn1 hn2 hgrow hS
  go_enter Try.func86, Try.ntmps86
  have hs3 : ¬ ((S : Int) < 0) := by omega
  go_wp2_with fail
  refine wp_loop_rounds 3 ?_
  rw [rounds_succ]
  go_wp2_with fail
  rw [rounds_succ]
  go_wp2_with fail
  rw [rounds_succ]
  go_wp2_with fail
  refine (HG.out w).mono ?_
  rintro e w1 ⟨cg, rfl, ho, hb⟩
  have HO := Lib.hid ho; have HB := Lib.hid hb
  have k0 : w1.cell? ⟨gA, 0, none⟩ = some (.slice A1 n1 C1) := (hb.cell (p := ⟨gA, 0, none⟩) hgA).trans h0
  have k1 : w1.cell? ⟨gA, 1, none⟩ = some (.slice A2 n2 C2) := (hb.cell (p := ⟨gA, 1, none⟩) hgA).trans h1
  clear ho hb h0 h1
  go_wp2_with fail
  refine wp_loop_rounds 3 ?_
  rw [rounds_succ]
  go_wp2_with (at_builtin; refine wpI_apps w1 rfl _ _ rfl w HO.out (own_below HU1.out HB.out) rfl rfl HB.out (by have := HL1.out; simp; omega) ?_; intro v2 w2 ho2 hb2; rw [List.nil_append] at ho2; have HO2 := Lib.hid ho2; have HB2 := Lib.hid hb2; have k2 : w2.cell? ⟨gA, 1, none⟩ = some (.slice A2 n2 C2) := (by
    have q1 := hb2.cell (p := ⟨gA, 1, none⟩) hgA
    have q2 := HB.out.cell (p := ⟨gA, 1, none⟩) hgA
    exact q1.trans (q2.symm.trans k1)); clear ho2 hb2)
  rw [rounds_succ]
  go_wp2_with (at_builtin; refine wpI_apps w2 rfl _ _ rfl w HO2.out (own_below HU2.out HB2.out) rfl rfl HB2.out (by have := HL1.out; have := HL2.out; omega) ?_; intro v3 w3 ho3 hb3; have HO3 := Lib.hid ho3; have HB3 := Lib.hid hb3; clear ho3 hb3)
  rw [rounds_succ]
  go_wp2_with fail
  go_ret
  obtain ⟨q, c, e⟩ := own_slice HO3.out
  refine ⟨q, c, ?_, ?_, HB3.out⟩
  · rw [e, List.length_append, ← HL1.out, ← HL2.out]; rfl
  · have := HO3.out
    rw [e, List.length_append, ← HL1.out, ← HL2.out] at this
    exact this
end Go.Proofs.Ytpglkgpaaflikaa
