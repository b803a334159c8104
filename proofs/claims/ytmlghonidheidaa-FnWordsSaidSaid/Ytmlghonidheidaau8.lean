/- DrawWordOfRuns: rows that are drawn. (By tools/genu8.py.) -/
import Derived.Test.Ytmlghonidheidaau7
import Derived.Test.YtmlghonidheidaaI18
import Derived.Test.YtmlghonidheidaaI17
import Derived.Test.YtmlghonidheidaaW16
namespace Go.Proofs.Ytmlghonidheidaa
open Go.RowKit Go.BigFrame Go.Deep
set_option linter.unusedSimpArgs false
set_option linter.unusedVariables false
set_option maxRecDepth 4000

theorem argI_of_ints {w : World} {B : Nat} {u : Value} {xs : List Int} (h : Ints w B u xs) : ArgI w u xs := by
  rcases own_open h with ⟨rfl, h2, _⟩ | ⟨g, cap, rfl, h1, h2, h3, h4, _, h5, _⟩
  · exact ⟨none, 0, by rw [h2], by omega, by omega, fun c hc => by omega⟩
  · unfold maxLen at h4
    refine ⟨some ⟨g, 0, none⟩, cap, rfl, h3, by omega, fun c hc => ⟨g, 0, rfl, h2, ?_⟩⟩
    have := h5 c (by simpa using hc)
    rw [Nat.zero_add]
    simpa using this
theorem argR_of_rr {w : World} {B : Nat} {v : Value} {vs : List Value} {nss : List (List Int)} (h : IntsRR w B v vs nss) : ArgR w v nss := by
  rcases ownsRR_open h with ⟨h1, _, h3⟩ | ⟨g, cap, h1, h2, h3, _, h5, h6⟩
  · have : nss = [] := List.map_eq_nil_iff.1 h3
    subst this
    exact ⟨none, 0, h1, by simp, by omega, fun r hr => by simp at hr⟩
  · rw [List.length_map] at h1 h2 h6
    unfold maxLen at h3
    refine ⟨some ⟨g, 0, none⟩, cap, h1, h2, by omega, fun r hr => ?_⟩
    obtain ⟨u, e1, e2⟩ := intsRR_row h r hr
    exact ⟨g, 0, u, rfl, h5, by rw [Nat.zero_add]; exact h6 r hr u e1, argI_of_ints e2⟩
theorem own_grown {W W' : World} {B k g0 : Nat} {E : TypeId} {v : Value} {xs : List Value} (h : W.ownsRow B E 1 v k xs) (hg : W.grownBy W' (some g0)) (hlt : g0 < B) : W'.ownsRow B E 1 v k xs := by
  refine h.kept hg ?_
  cases hv : v.ownBlock with
  | none => exact .inl rfl
  | some g => exact .inr fun e => by have := (own_lt h g hv).1; cases e; omega
theorem rr_grown {W W' : World} {B g0 : Nat} {v : Value} {vs : List Value} {nss : List (List Int)} (h : IntsRR W B v vs nss) (hg : W.grownBy W' (some g0)) (hlt : g0 < B) : IntsRR W' B v vs nss :=
  ⟨own_grown h.outer hg hlt, h.len, fun i u xs h1 h2 => own_grown (h.inner i u xs h1 h2) hg hlt, h.apart, h.alone⟩
theorem rr_below {W W' : World} {B : Nat} {v : Value} {vs : List Value} {nss : List (List Int)} (h : IntsRR W B v vs nss) (hb : Below W.heap.size W W') : IntsRR W' B v vs nss := ownsRR_below h hb
/-- What is known of a row whose slice is known. -/
structure RowK (W : World) (gB x b c : Nat) (d n : Int) : Prop where
  out0 : W.cell? ⟨gB, x, none⟩ = some (.slice (some ⟨b, 0, none⟩) 2 c)
  out1 : W.frozen? ⟨gB, x, none⟩ = false
  lt0 : gB < W.heap.size
  c0 : W.cell? ⟨b, 0, none⟩ = some (.int .i64 d)
  c1 : W.cell? ⟨b, 1, none⟩ = some (.int .i64 n)
  f0 : W.frozen? ⟨b, 0, none⟩ = false
  f1 : W.frozen? ⟨b, 1, none⟩ = false
  lt1 : b < W.heap.size
theorem row_k {W : World} {B gB cap n0 x b c : Nat} {d n : Int} {vs : List Value} {R : List (List Int)} (h : IntsRR W B (.slice (some ⟨gB, 0, none⟩) n0 cap) vs R) (hx : R[x]? = some [d, n]) (hv : vs[x]? = some (.slice (some ⟨b, 0, none⟩) 2 c)) : RowK W gB x b c d n := by
  have hxl := get_lt hx
  have hvl := get_lt hv
  rcases own_open h.outer with ⟨e, _⟩ | ⟨g, cap', e, _, h2, h3, h4, _, h5, h6⟩
  · cases e
  cases e
  have hi := h.inner x _ ([d, n].map (.int .i64)) hv (by rw [List.getElem?_map, hx]; rfl)
  rcases own_open hi with ⟨e, _⟩ | ⟨g, cap', e, _, k2, k3, k4, _, k5, k6⟩
  · cases e
  cases e
  refine ⟨?_, h6 x, h2, k5 0 (by simp), k5 1 (by simp), k6 0, k6 1, k2⟩
  rw [h5 x hvl, List.getElem?_eq_getElem hvl] at *
  exact hv
def LitAt (W : World) (q : Nat) : Prop := (∀ i (h : i < [0, -1, 10, 400, 401, 4611686018427387904].length), W.cell? ⟨q, i, none⟩ = some (.int .i64 ([0, -1, 10, 400, 401, 4611686018427387904] : List Int)[i])) ∧ q < W.heap.size
abbrev litO (T : TypeId) : Obj := .cells #[.int .i64 0, .int .i64 (-1), .int .i64 10, .int .i64 400, .int .i64 401, .int .i64 4611686018427387904] T
theorem lit_newR (W : World) (T : TypeId) : LitAt (W.alloc (litO T)) W.heap.size := ⟨lit_cellsW W [0, -1, 10, 400, 401, 4611686018427387904] T, by simp⟩
theorem lit_grown {W w' : World} {q g0 : Nat} (h : LitAt W q) (hg : W.grownBy w' (some g0)) (hq : q ≠ g0) : LitAt w' q := by
  refine ⟨fun i hi => ?_, Nat.lt_of_lt_of_le h.2 hg.size⟩
  rw [← h.1 i hi]
  have := hg.block q h.2 (fun e => hq (by cases e; rfl))
  simp only [World.cell?, this]
theorem lit_call {W w' : World} {g0 : Nat} {T : TypeId} (hg : (W.alloc (litO T)).grownBy w' (some g0)) (h : g0 < W.heap.size) : LitAt w' W.heap.size := lit_grown (lit_newR W T) hg (by omega)
theorem rr_set {W : World} {B x b c y : Nat} {v : Value} {vs : List Value} {R : List (List Int)} {d n z : Int} (h : IntsRR W B v vs R) (he : R[x]? = some [d, n]) (hv : vs[x]? = some (.slice (some ⟨b, 0, none⟩) 2 c)) (hy : y < 2) :
    IntsRR (W.setCell ⟨b, y, none⟩ (.int .i64 z)) B v vs (R.set x ([d, n].set y z)) := by
  have := ownsRR_set h hv (xs := [d, n].map (.int .i64)) (by rw [List.getElem?_map, he]; rfl) y (by simpa using hy) (.int .i64 z)
  unfold IntsRR
  rw [List.map_set, List.map_set]
  exact this
/-- The cursor and the rows. -/
structure StD (w W : World) (g0 B K : Nat) (cv v : Value) (vs : List Value) (R : List (List Int)) : Prop where
  cur : Cur w W g0 cv K
  rr : IntsRR W B v vs R
theorem StD.later {w W W' : World} {g0 B K : Nat} {cv v : Value} {vs : List Value} {R : List (List Int)} (h : StD w W g0 B K cv v vs R) (hb : Below W.heap.size W W') : StD w W' g0 B K cv v vs R := ⟨h.cur.later hb, rr_below h.rr hb⟩
/-- Rows are drawn. -/
def RowsDr (w : World) (e : Ending) (w' : World) : Prop := ∃ v nss, e = .returned v ∧ ArgR w' v nss ∧ nss.length ≤ 100 ∧ Below w.heap.size w w'

set_option maxRecDepth 100000 in
set_option maxHeartbeats 4000000 in
theorem drawWordOfRuns_c (w : World) (cv : Value) (ns : List Int) (ha : ArgY w cv ns) :
    Calls Try.prog 31 #[cv] w fun e w' => RowsDr w e w' := by
  have HSW := Lib.hid (sureWord_c w _ w.heap.size 0 8 4 cv ns ha (cur_new w cv) (by omega) (by omega) (by omega) (by omega) (by omega))
  have HA := Lib.hid ha
  obtain ⟨i0, hi0, hz0, hz1, hz2⟩ := info_parts info_ints
  have hcv : ∃ A C, cv = .slice A ns.length C := by obtain ⟨A, C, h, _⟩ := ha; exact ⟨A, C, h⟩
  obtain ⟨CA, CC, rfl⟩ := hcv
  clear ha
  go_enter Try.func31, Try.ntmps31
  go_wp2_with fail
  refine HSW.out.mono ?_
  rintro e w1 ⟨l, rfl, h1, h8, hd, hcu⟩
  have hdig : l.all digB = true := digsL_all hd (by omega)
  have hwr := woRuns_any (bs l) w1 (by rw [bs_size]; omega) (by rw [bs_list]; exact hdig)
  rw [bs_list] at hwr
  have HWR := Lib.hid hwr; have HC1 := Lib.hid hcu
  clear hwr hcu hd HSW
  go_wp2_with fail
  refine HWR.out.mono ?_
  rintro e w2 ⟨v, vs, rfl, hrr, hb⟩
  obtain ⟨R, hR⟩ : ∃ R : List (List Int), R = (runsL l).map toRow := ⟨_, rfl⟩
  have hir : IntsRR w2 w1.heap.size v vs R := by
    have e1 : rowsL l = R.map (·.map (.int .i64)) := by rw [hR]; unfold rowsL; rw [List.map_map]; rfl
    rw [e1] at hrr
    exact hrr
  have hg0 : w.heap.size < w1.heap.size := HC1.out.lt
  have hc2 := HC1.out.later hb
  have HC2 := Lib.hid hc2
  obtain ⟨N, hN⟩ : ∃ N, N = R.length := ⟨_, rfl⟩
  have hN8 : N ≤ 8 := by rw [hN, hR, List.length_map]; have := runs_len_le l; omega
  have hN1 : 1 ≤ N := by
    rw [hN, hR, List.length_map]
    have := List.length_pos_iff.2 (runs_ne (l := l) (by intro e; subst e; simp at h1))
    omega
  have hvl : vs.length = N := by have := hir.len; rw [List.length_map] at this; omega
  have hvs : ∃ gB cap, v = .slice (some ⟨gB, 0, none⟩) N cap := by
    rcases own_open hir.outer with ⟨_, h0, _⟩ | ⟨g, cap, h1, _⟩
    · omega
    · exact ⟨g, cap, by rw [h1, hvl]⟩
  obtain ⟨gB, cap, rfl⟩ := hvs
  have hrow : ∀ x, x < N → ∃ (d n : Int) (b c : Nat), R[x]? = some [d, n] ∧ vs[x]? = some (.slice (some ⟨b, 0, none⟩) 2 c) ∧ w1.heap.size ≤ b := by
    intro x hx
    have hxr : x < (runsL l).length := by rw [hN, hR, List.length_map] at hx; exact hx
    have e1 : R[x]? = some [((runsL l)[x].1.toNat : Int) - 48, ((runsL l)[x].2 : Int)] := by rw [hR, List.getElem?_map, List.getElem?_eq_getElem hxr]; rfl
    obtain ⟨u, e2, e3⟩ := intsRR_row hir x (by omega)
    have e4 : R[x]'(by omega) = [((runsL l)[x].1.toNat : Int) - 48, ((runsL l)[x].2 : Int)] := by
      rw [List.getElem?_eq_getElem (by omega)] at e1; exact Option.some.inj e1
    rw [e4] at e3
    rcases own_open e3 with ⟨_, h0, _⟩ | ⟨b, c, h1, h2, _⟩
    · cases h0
    · exact ⟨_, _, b, c, e1, by rw [e2, h1]; rfl, h2⟩
  have HROW := Lib.hid hrow; have HIR := Lib.hid hir; have HN := Lib.hid hN; have HVL := Lib.hid hvl
  have hB2 := HC2.out.below
  have hgB : w1.heap.size ≤ gB := by
    rcases own_open hir.outer with ⟨h0, _⟩ | ⟨g, cap', h1, h2, _⟩
    · cases h0
    · cases h1; exact h2
  clear hrow hir hN hvl hR hrr hb hc2 hdig h1 h8 HC1 HWR hB2
  have hpk := fun (n : Nat) (hn : 1 ≤ n) (hn9 : n ≤ 100) (K : Nat) (hK : K ≤ 1000) (W : World) (hc : Cur w W w.heap.size _ K) => pick_c w W w.heap.size K n _ ns HA.out hc (by omega) hn (by omega)
  have HPK := Lib.hid hpk
  have ham := fun (K : Nat) (hK : K ≤ 1000) (W : World) (q : Nat) (hq : q ≠ w.heap.size) (hc : Cur w W w.heap.size _ K) (hl : LitAt W q) => among_c w W w.heap.size K q 6 6 _ ns [0, -1, 10, 400, 401, 4611686018427387904] HA.out hc (by omega) rfl (by omega) (by omega) (by omega) (by omega) hq hl.2 hl.1
  have HAM := Lib.hid ham
  clear hpk ham HA
  go_wp2_with fail
  refine (HPK.out 10 (by omega) (by omega) 34 (by omega) _ HC2.out).mono ?_
  rintro e w3 ⟨k, rfl, hk, hcu, hg3⟩
  have HC3 := Lib.hid hcu; have HI3 := Lib.hid (rr_grown HIR.out hg3 hg0)
  clear hcu hg3 HC2 HIR
  by_cases k0 : k = 0
  · subst k0
    go_wp2_with fail
    refine (HPK.out N hN1 (by omega) 36 (by omega) _ HC3.out).mono ?_
    rintro e w4 ⟨x, rfl, hx, hcu, hg⟩
    have HC4 := Lib.hid hcu; have HI4 := Lib.hid (rr_grown HI3.out hg hg0)
    clear hcu hg HC3 HI3
    go_wp2_with fail
    refine (HPK.out 3 (by omega) (by omega) 38 (by omega) _ HC4.out).mono ?_
    rintro e w5 ⟨y, rfl, hy, hcu, hg⟩
    have HC5 := Lib.hid hcu; have HI5 := Lib.hid (rr_grown HI4.out hg hg0)
    obtain ⟨d, n, b, c, hRx, hvx, hbB⟩ := HROW.out x hx
    obtain ⟨r0, r1, r2, _⟩ := row_k HI5.out hRx hvx
    clear hcu hg HC4 HI4 hRx hvx
    obtain ⟨z, hz⟩ : ∃ z : Nat, z = 1 + y := ⟨_, rfl⟩
    have hzI : (1 : Int) + (y : Int) = (z : Int) := by omega
    clear hz
    go_wp2_with fail
    go_ret
    have hsz := HC5.out.below.size
    have hbl := HC5.out.lt
    have hB5 : w1.heap.size ≤ w5.heap.size := by
      rcases own_open HI5.out.outer with ⟨h0, _⟩ | ⟨g, cap', h1, h2, h3, _⟩
      · cases h0
      · cases h1; omega
    have hrow := own_lit w5 w1.heap.size 3 [.int .i64 (z : Int)] hB5 (by simp [maxLen])
    have hput := ownsRR_put (ownsRR_below HI5.out (below_alloc w5 (.cells #[.int .i64 (z : Int)] 3))) x (by rw [HVL.out]; exact hx) hrow (fun j u' hj => by
      obtain ⟨u, ys, e1, e2, e3⟩ := ownsRR_row HI5.out j (get_lt hj)
      rw [hj] at e1; cases e1
      exact apart_new e3 (fun g e => by cases e; exact Nat.le_refl _)) ((apart_new HI5.out.outer (fun g e => by cases e; exact Nat.le_refl _)).symm)
    have hgB5 : gB < w5.heap.size := r2
    rw [← World.setCell_alloc_past _ _ _ _ hgB5]
    refine ⟨_, R.set x [(z : Int)], rfl, argR_of_rr (B := w1.heap.size) (vs := vs.set x (.slice (some ⟨w5.heap.size, 0, none⟩) 1 1)) ?_, by rw [List.length_set, ← HN.out]; omega, ?_⟩
    · unfold IntsRR
      rw [List.map_set]
      exact hput
    · exact (HC5.out.below.alloc (by omega) _).setCell (p := ⟨gB, x, none⟩) (by show w.heap.size ≤ gB; omega) _
  · by_cases k1 : k = 1
    · subst k1
      obtain ⟨c0, hc0⟩ : ∃ c0 : Value, c0 = .slice CA ns.length CC := ⟨_, rfl⟩
      obtain ⟨v0, hv0⟩ : ∃ v0 : Value, v0 = .slice (some ⟨gB, 0, none⟩) N cap := ⟨_, rfl⟩
      have hq1 : ∀ (W : World), StD w W w.heap.size w1.heap.size 36 c0 v0 vs R → Calls Try.prog 55 #[.pointer (some ⟨w.heap.size, 0, none⟩), .int .i64 (N : Int)] W fun e w' => ∃ (x b c : Nat) (d n : Int), e = .returned (.int .i64 (x : Int)) ∧ x < N ∧ (R[x]? = some [d, n] ∧ vs[x]? = some (.slice (some ⟨b, 0, none⟩) 2 c) ∧ w1.heap.size ≤ b) ∧ RowK w' gB x b c d n ∧ StD w w' w.heap.size w1.heap.size 38 c0 v0 vs R ∧ w.heap.size < w'.heap.size ∧ (∀ q, w.heap.size < q → LitAt W q → LitAt w' q) := by
        intro W hst
        have h1 := hst.cur
        rw [hc0] at h1
        refine (HPK.out N hN1 (by omega) 36 (by omega) W h1).mono ?_
        rintro e w' ⟨x, rfl, hx, hcu, hg⟩
        obtain ⟨d, n, b, c, e1, e2, e3⟩ := HROW.out x hx
        have hr := rr_grown hst.rr hg hg0
        have hr2 := hr
        rw [hv0] at hr2
        exact ⟨x, b, c, d, n, rfl, hx, ⟨e1, e2, e3⟩, row_k hr2 e1 e2, ⟨by rw [hc0]; exact hcu, hr⟩, hcu.lt, fun q hq hl => lit_grown hl hg (by omega)⟩
      have hq2 : ∀ (W : World) (x b c : Nat) (d n : Int), (R[x]? = some [d, n] ∧ vs[x]? = some (.slice (some ⟨b, 0, none⟩) 2 c) ∧ w1.heap.size ≤ b) → StD w W w.heap.size w1.heap.size 38 c0 v0 vs R → Calls Try.prog 55 #[.pointer (some ⟨w.heap.size, 0, none⟩), .int .i64 2] W fun e w' => ∃ (y : Nat), e = .returned (.int .i64 (y : Int)) ∧ y < 2 ∧ RowK w' gB x b c d n ∧ StD w w' w.heap.size w1.heap.size 40 c0 v0 vs R ∧ w.heap.size < w'.heap.size ∧ (∀ q, w.heap.size < q → LitAt W q → LitAt w' q) := by
        intro W x b c d n he hst
        have h1 := hst.cur
        rw [hc0] at h1
        refine (HPK.out 2 (by omega) (by omega) 38 (by omega) W h1).mono ?_
        rintro e w' ⟨y, rfl, hy, hcu, hg⟩
        have hr := rr_grown hst.rr hg hg0
        have hr2 := hr
        rw [hv0] at hr2
        exact ⟨y, rfl, hy, row_k hr2 he.1 he.2.1, ⟨by rw [hc0]; exact hcu, hr⟩, hcu.lt, fun q hq hl => lit_grown hl hg (by omega)⟩
      have hq3 : ∀ (W : World) (x b c q y : Nat) (d n : Int), y < 2 → (R[x]? = some [d, n] ∧ vs[x]? = some (.slice (some ⟨b, 0, none⟩) 2 c) ∧ w1.heap.size ≤ b) → w.heap.size < q → StD w W w.heap.size w1.heap.size 40 c0 v0 vs R → LitAt W q → Calls Try.prog 56 #[.pointer (some ⟨w.heap.size, 0, none⟩), .slice (some ⟨q, 0, none⟩) 6 6] W fun e w' => ∃ (z dy : Int), e = .returned (.int .i64 z) ∧ (w'.cell? ⟨gB, x, none⟩ = some (.slice (some ⟨b, 0, none⟩) 2 c) ∧ gB < w'.heap.size ∧ w'.cell? ⟨b, y, none⟩ = some (.int .i64 dy) ∧ w'.frozen? ⟨b, y, none⟩ = false ∧ b < w'.heap.size) ∧ StD w w' w.heap.size w1.heap.size 42 c0 v0 vs R := by
        intro W x b c q y d n hy he hq hst hl
        have h1 := hst.cur
        rw [hc0] at h1
        refine (HAM.out 40 (by omega) W q (by omega) h1 hl).mono ?_
        rintro e w' ⟨z, hz, rfl, hcu, hg⟩
        have hr := rr_grown hst.rr hg hg0
        have hr2 := hr
        rw [hv0] at hr2
        have hk := row_k hr2 he.1 he.2.1
        match y, hy with
        | 0, _ => exact ⟨z, d, rfl, ⟨hk.out0, hk.lt0, hk.c0, hk.f0, hk.lt1⟩, ⟨by rw [hc0]; exact hcu, hr⟩⟩
        | 1, _ => exact ⟨z, n, rfl, ⟨hk.out0, hk.lt0, hk.c1, hk.f1, hk.lt1⟩, ⟨by rw [hc0]; exact hcu, hr⟩⟩
      have hs3 : w.heap.size < w3.heap.size := HC3.out.lt
      have HS3 := Lib.hid (show StD w w3 w.heap.size w1.heap.size 36 c0 v0 vs R from ⟨by rw [hc0]; exact HC3.out, by rw [hv0]; exact HI3.out⟩)
      have HQ1 := Lib.hid hq1; have HQ2 := Lib.hid hq2; have HQ3 := Lib.hid hq3; have HV0 := Lib.hid hv0; have HC0 := Lib.hid hc0
      clear hq1 hq2 hq3 hc0 hv0 HPK HAM HC3 HI3
      go_wp2_with fail
      go_region_with (first
        | (go_at_call 55; (with_reducible refine (HQ1.out _ (by repeat' (first | exact HS3.out | refine StD.later ?_ (below_drew _) | refine StD.later ?_ (below_alloc _ _)))).mono ?_); rintro e w4 ⟨x, b, c, d, n, rfl, hx, he, ⟨r0, r1, r2, r3, r4, r5, r6, r7⟩, hst, hs4, hlk⟩; (have HE := Lib.hid he); (have HS4 := Lib.hid hst); (first | (have HLT : Hid (LitAt w4 w3.heap.size) := Lib.hid (hlk w3.heap.size hs3 (lit_newR w3.drew _))) | skip); clear he hst hlk)
        | (go_at_call 55; (with_reducible refine (HQ2.out _ _ _ _ _ _ HE.out (by repeat' (first | exact HS4.out | refine StD.later ?_ (below_alloc _ _)))).mono ?_); rintro e w5 ⟨y, rfl, hy, ⟨q0, q1, q2, q3, q4, q5, q6, q7⟩, hst, hs5, hlk⟩; (have HS5 := Lib.hid hst); (have HY := Lib.hid hy); (have hyI : (y : Int) < 2 := by omega); (first | (have HLU : Hid (LitAt w5 w3.heap.size) := Lib.hid (hlk w3.heap.size hs3 HLT.out)) | (have HLU : Hid (LitAt w5 w4.heap.size) := Lib.hid (hlk w4.heap.size hs4 (lit_newR w4 _))) | skip); clear hst hlk)
        | (go_at_call 56; (with_reducible refine (HQ3.out _ _ _ _ _ _ _ _ HY.out HE.out (by first | simpa using hs3 | simpa using hs4 | simpa using hs5) (by repeat' (first | exact HS5.out | refine StD.later ?_ (below_alloc _ _))) (by first | exact lit_newR _ _ | exact HLU.out)).mono ?_); rintro e w6 ⟨z, dy, rfl, ⟨s0, s2, s3, s5, s7⟩, hst⟩; (have HS6 := Lib.hid hst); clear hst))
      all_goals
        go_wp2_with fail
        go_ret
        have hrr6 := HS6.out.rr
        rw [HV0.out] at hrr6
        exact ⟨_, _, rfl, argR_of_rr (rr_set hrr6 HE.out.1 HE.out.2.1 HY.out), by rw [List.length_set, ← HN.out]; omega, HS6.out.cur.below.setCell (p := ⟨b, y, none⟩) (by show w.heap.size ≤ b; have := HE.out.2.2; omega) _⟩
    · by_cases k2 : k = 2
      · subst k2
        go_wp2_with fail
        go_ret
        exact ⟨_, [], rfl, ⟨none, 0, rfl, by simp, by omega, fun r hr => by simp at hr⟩, by simp, HC3.out.below⟩
      · by_cases k3 : k = 3
        · subst k3
          obtain ⟨M, hM⟩ : ∃ M, M = N - 1 := ⟨_, rfl⟩
          have hMI : (N : Int) - 1 = (M : Int) := by omega
          have hMN : M < N := by omega
          obtain ⟨d, n, b, c, hRx, hvx, hbB⟩ := HROW.out M hMN
          obtain ⟨r0, r1, r2, r3, r4, r5, r6, r7⟩ := row_k HI3.out hRx hvx
          have hou : w3.ownsRow w1.heap.size 37 1 (.slice (some ⟨gB, 0, none⟩) N cap) N vs := by have := HI3.out.outer; rw [HVL.out] at this; exact this
          have HOU := Lib.hid hou
          have hsz : w1.heap.size ≤ w3.heap.size := by omega
          clear hRx hvx hM hou
          go_wp2_with (at_builtin; refine wpList_append_own _ rfl _ _ 27 rfl w1.heap.size 37 i0 (.slice none 0 0) 1 24 Try.underlying27 hi0 hz0 hz1 hz2 rfl (by decide) _ _ _ rfl ((HOU.out.alloc _).alloc _) ⟨w3.heap.size + 1, 0, none⟩ 1 1 [.slice (some ⟨w3.heap.size, 0, none⟩) 2 2] rfl rfl ?c1 ?c2 ?c3 ?c4 ?c5 ?_)
          case c1 =>
            intro j u hj
            match j, hj with
            | 0, hj => simp at hj; subst hj; simp [Addr.add]
          case c2 => intro u hu; simp at hu; subst hu; rfl
          case c3 => unfold maxLen; omega
          case c4 => omega
          case c5 => simp; omega
          intro v' w4 hown' hgrow _
          have R1 := Lib.hid (ownsRR_push HI3.out ([d, 2].map (.int .i64)) (by simp [maxLen]) hsz (by rw [HVL.out]; exact hown') hgrow (by decide))
          have R2 := Lib.hid (((HC3.out.below.alloc (by omega) _).alloc (by simp; omega) _).grown hgrow (by simp; omega) (fun g hg => Nat.le_trans (by omega) (HI3.out.outer.lt g hg).1))
          clear hown' hgrow
          go_wp2_with fail
          go_ret
          have hr1 : IntsRR w4 w1.heap.size v' (vs ++ [.slice (some ⟨w3.heap.size, 0, none⟩) 2 2]) (R ++ [[d, 2]]) := by
            unfold IntsRR
            rw [List.map_append]
            exact R1.out
          exact ⟨_, R ++ [[d, 2]], rfl, argR_of_rr hr1, by rw [List.length_append, ← HN.out]; simp; omega, R2.out⟩
        · have e0 : ((k : Int) == 0) = false := by simp; omega
          have e1 : ((k : Int) == 1) = false := by simp; omega
          have e2 : ((k : Int) == 2) = false := by simp; omega
          have e3 : ((k : Int) == 3) = false := by simp; omega
          go_wp2_with fail
          go_ret
          exact ⟨_, R, rfl, argR_of_rr HI3.out, by rw [← HN.out]; omega, HC3.out.below⟩
end Go.Proofs.Ytmlghonidheidaa
