/- Chapter 8: the words of a text added up; the program's ReadName. -/
import Derived.Test.YtlcbdmmmafpchaaDoorn3
namespace Go.Proofs.YtlcbdmmmafpchaaDoor
open Go.RowKit Go.BigFrame Go.Shelf
set_option linter.unusedSimpArgs false
set_option linter.unusedVariables false
set_option maxRecDepth 4000
attribute [local go_sem] Oper.semAt_some

/-! ### A region that draws its order, within a round (as XK2 of the elder seats) -/
def noDefers (ops : Array Oper) : Bool := ops.all fun o => match o.op with | .defer _ => false | _ => true
theorem rows_round {lp n : Nat} {P : Program} {row : String} {args : Array Value} {w : World} {R : Value → World → Prop} (h : Rows P row args w R) : RowsIn (Fence.wide.inRound lp) n P row args w R :=
  fun c cs _ => let ⟨v, w', r, s⟩ := h c cs; ⟨v, w', r, stepsIn_wide.2 s⟩
theorem op_round {lp n : Nat} {P : Program} {o : Oper} {a : Act} {w : World} {K : Act → World → Prop} {Q : Exit → Act → World → Prop} (hd : ∀ c, o.op ≠ .defer c) (h : o.wp P a w K Q) : o.wpIn (Fence.wide.inRound lp) n P a w K Q := by
  refine ⟨fun f _ => trivial, ?_⟩
  rw [Oper.semAt_plain _ _ _ hd]
  unfold Oper.wp at h
  generalize (execOp a.eval o).run P w = r at *
  cases r with
  | ok x w' =>
    cases x <;> first | exact h | exact h.elim | skip
    · exact ⟨(fun hx => by cases hx), CallsIn.inRound lp (callsIn_wide.2 h)⟩
    · exact ⟨(fun hx => by cases hx), rows_round h⟩
  | halt hh w' => cases hh <;> first | exact h | exact h.elim
theorem any_round {lp n : Nat} {P : Program} {ops : Array Oper} {Q : Exit → Act → World → Prop} (hnd : noDefers ops = true) (hno : ¬ LetsOut Q) : ∀ (fuel : Nat) (listed : Array Bool) (a : Act) (w : World),
    wpAny P .any ops Q fuel listed a w → wpAnyIn (Fence.wide.inRound lp) n P .any ops Q fuel listed a w := by
  intro fuel
  induction fuel with
  | zero => intro listed a w h; exact h
  | succ fuel ih =>
    intro listed a w h
    refine ⟨h.1, fun i hi => ?_⟩
    have h2 := h.2 i hi
    unfold wpOp at h2
    unfold wpOpIn
    cases ho : ops[i]? with
    | none => rw [ho] at h2; exact ih _ _ _ h2
    | some o =>
      rw [ho] at h2
      simp only at h2 ⊢
      have hd : ∀ c, o.op ≠ .defer c := by
        intro c e
        obtain ⟨hi', he⟩ := Array.getElem?_eq_some_iff.1 ho
        unfold noDefers at hnd
        have := (Array.all_eq_true.1 hnd) i hi'
        rw [he, e] at this
        simp at this
      split
      · rename_i hw
        rw [if_pos hw] at h2
        rcases h2 with h2 | ⟨_, h2⟩
        · exact Oper.wpIn_mono (fun a w => ih _ a w) (op_round hd h2)
        · exact (hno h2).elim
      · rename_i hw
        rw [if_neg hw] at h2
        exact ⟨fun f _ => trivial, ih _ _ _ h2⟩
theorem region_round {lp n id : Nat} {ops : Array Oper} {Q : Exit → Act → World → Prop} {a : Act} {w : World} (hnd : noDefers ops = true) (hno : ¬ LetsOut Q)
    (h : wpAny Tryd.prog .any ops Q ops.size (Array.replicate ops.size false) a w.drew) : (Code.region id ops true).wpIn (Fence.wide.inRound lp) n Tryd.prog Q a w :=
  wpIn_region_any (by kernel_rfl) (any_round hnd hno _ _ _ _ h)

/-! ### A function that loops over an iterator (as XI1 of the elder seats) -/
theorem ownFrom_block {β : Type} {B p : Nat} (f : β → Obj) (hp : p < B) : OwnFrom B (fun (s : β) W => W.heap[p]? = some (f s)) :=
  fun s W W' row hs hg hr => (hg.block p (Array.getElem?_eq_some_iff.1 hs).1 (fun e => by have := (hr p e.symm).1; omega)).trans hs
structure Leaves (fn : Func) (R : Ending → World → Prop) (Q : Exit → Act → World → Prop) : Prop where
  plain : ∀ a W v, a.defers = [] → (results fn a.tmps).run Tryd.prog W = .ok v W → R (.returned v) W → Q .ret a W
  marked : ∀ a W D v, a.defers = [{ target := .collected D, args := #[] }] → W.heap[D]? = some (.deferred (some [])) → (results fn a.tmps).run Tryd.prog (W.putObj D (.deferred none)) = .ok v (W.putObj D (.deferred none)) →
    R (.returned v) (W.putObj D (.deferred none)) → Q .ret a W
theorem calls_marks {f : FuncId} {fn : Func} {c : Code} {args : Array Value} {w : World} {R : Ending → World → Prop} (hf : Tryd.prog.funcs[f]? = some fn) (hb : fn.body = some c)
    (h : ∀ Q, Leaves fn R Q → c.wp Tryd.prog Q { tmps := args ++ Array.replicate (fn.ntmps - args.size) undef, defers := [] } w) : Calls Tryd.prog f args w R := by
  refine (callsIn_wide (n := 9)).1 (callsIn_of_wp_marks hf hb trivial (wpIn_wide.2 (h _ ⟨?_, ?_⟩)) rfl)
  · rintro ⟨tmps, ds⟩ W v hd hr hR
    simp only at hd; subst hd
    exact ⟨v, hr, hR⟩
  · rintro ⟨tmps, ds⟩ W D v hd hk hr hR
    simp only at hd; subst hd
    exact ⟨by simp, .inl ⟨_, _, rfl, run_takeDeferred hk, v, hr, hR⟩⟩
theorem below_mark {w W : World} {D : Nat} (h : Below w.heap.size w W) (hD : w.heap.size ≤ D) (hk : W.heap[D]? = some (.deferred (some []))) : Below w.heap.size w (W.putObj D (.deferred none)) :=
  h.trans (belowK_b (w := w) (Nat.le_refl _) W D _ _ hD hk rfl rfl)

/-- The parts that have come. -/
def gotP (ps : List ByteArray) (pre : List (Fin ps.length)) : List ByteArray := pre.map (fun k => ps[k])
theorem gotP_snoc (ps : List ByteArray) (pre : List (Fin ps.length)) (x : Fin ps.length) : gotP ps (pre ++ [x]) = gotP ps pre ++ [ps[x]] := by simp [gotP]
theorem gotP_all (ps : List ByteArray) : gotP ps (upF ps.length ps.length) = ps := by
  unfold gotP upF
  rw [List.take_of_length_le (by simp)]
  apply List.ext_getElem
  · simp
  · intro i h1 h2
    simp
/-- Thousands and what stands behind them, of the parts that have come. -/
def stP (l : List ByteArray) : Int × Int := l.foldl (fun p x => addW p x.data.toList) (0, 0)
theorem stP_snoc (l : List ByteArray) (x : ByteArray) : stP (l ++ [x]) = addW (stP l) x.data.toList := by simp [stP]

set_option maxRecDepth 100000 in
/-- A loop over the parts whose body never leaves. -/
theorem wp_fields {Q : Exit → Act → World → Prop} {a : Act} {W0 : World} {g : Operand} {t : Tmp} {assign body : Code} (S : ByteArray) (ps : List ByteArray) (hps : ps = partsU S) (Bs Bf n₀ : Nat) (hS : S.size ≤ 9223372036854775807)
    (hBs : W0.cell? ⟨Bs, 0, none⟩ = some (.string S)) (hBf : W0.cell? ⟨Bf, 0, none⟩ = some (.func (.func 95) #[] #[])) (hT : Lib.Utf8Tabs 3 4 W0) (hn₀ : n₀ ≤ W0.heap.size)
    (h3 : 3 < n₀) (h4 : 4 < n₀)
    (hg : a.eval g = .func (.func 108) #[] #[.pointer (some ⟨Bs, 0, none⟩), .pointer (some ⟨Bf, 0, none⟩)])
    (I : List ByteArray → World → Prop) (hI : OwnFrom W0.heap.size I) (h0 : I [] W0) (a₁ : ByteArray → Act)
    (hassign : ∀ (lp : Nat) (x : ByteArray) (W : World) (K : Act → World → Prop), K (a₁ x) W →
      assign.wpIn (Fence.wide.inRound lp) 7 Tryd.prog (Exit.then K (fun _ _ _ => False)) { tmps := a.tmps.setIfInBounds t (.string x), defers := [] } W)
    (hbody : ∀ (lp : Nat) (pre : List ByteArray) (x : ByteArray) (W : World) (Q2 : Exit → Act → World → Prop), (¬ LetsOut Q2 ∧ ∀ c a w, ¬ Q2 (.panic c) a w) →
      (∀ a' W', KeepsFrom W0.heap.size W W' → KeepsRd Bs Bf n₀ W W' → I (pre ++ [x]) W' → Q2 .normal a' W') → I pre W →
      body.wpIn (Fence.wide.inRound lp) 7 Tryd.prog Q2 (a₁ x) W)
    (hdone : ∀ (D : Nat) (W : World), W0.heap.size ≤ D → I ps W → W.heap[D]? = some (.deferred (some [])) → Q .normal { a with defers := { target := .collected D, args := #[] } :: a.defers } W) :
    (Code.rangeFunc g #[t] assign body).wp Tryd.prog Q a W0 := by
  refine (wpIn_wide (n := 9)).1 ?_
  refine wpIn_rangeFunc_ownG rfl (by omega) (gf := 108) (lb := #[.pointer (some ⟨Bs, 0, none⟩), .pointer (some ⟨Bf, 0, none⟩)]) hg trivial (enters_of Tryd.func108 (by kernel_rfl) rfl)
    (fields_stops 8 (by omega) S ps hps Bs Bf n₀ hS W0 hBs hBf hT hn₀ h3 h4) keepsRd_t (keepsRd_b (World.block_lt_of_cell? W0 _ hBs) (World.block_lt_of_cell? W0 _ hBf) hn₀) (Below.refl _ _) (fun _ => rfl)
    (fun pre W => I (gotP ps pre) W) (fun _ _ _ => False) (fun s W W' row hs hg hr => hI _ W W' row hs hg hr) (fun _ _ _ _ _ hs _ _ => hs) h0 (fun x => a₁ ps[x]) ?_ (fun lp pre x W hi hlt => hbody lp (gotP ps pre) ps[x] W _ ⟨fun ⟨a, w, h⟩ => h, fun c a w h => h⟩ (fun a' W' k1 k2 k3 => ⟨k1, k2, by show I (gotP ps (pre ++ [x])) W'; rw [gotP_snoc]; exact k3⟩) hi) ?_ ?_
  · intro lp x W K hK
    have h := hassign lp ps[x] W K hK
    unfold pieceEnc
    simpa using h
  · rintro D ys W hD rfl hi hK
    rw [gotP_all] at hi
    exact hdone D W hD hi hK
  · rintro D c pre W _ _ h _
    exact h.elim

theorem addW_th (p : Int × Int) : addW p thousandL = (wrapI (p.2 * 1000), 0) := by unfold addW; rw [if_pos rfl]
theorem addW_hu (p : Int × Int) : addW p hundredL = (p.1, wrapI (p.2 * 100)) := by unfold addW; rw [if_neg (by decide), if_pos rfl]
theorem addW_no (p : Int × Int) (x : List UInt8) (h1 : x ≠ thousandL) (h2 : x ≠ hundredL) : addW p x = (p.1, wrapI (p.2 + (worthN x : Int))) := by unfold addW; rw [if_neg h1, if_neg h2]

/-- A variable in a cell of its own. -/
def Box1 (W : World) (g : Nat) (z : Int) : Prop := W.heap[g]? = some (.cells #[.int .i64 z] 3 (0, 0))
theorem box_set {W : World} {g : Nat} {z : Int} (h : Box1 W g z) (y : Int) : Box1 (W.setCell ⟨g, 0, none⟩ (.int .i64 y)) g y := by
  unfold Box1 at *
  rw [heap_setCell_same W g 0 _ _ _ h]; rfl
theorem box_other {W : World} {g b : Nat} {z : Int} {v : Value} (h : Box1 W g z) (hne : g ≠ b) : Box1 (W.setCell ⟨b, 0, none⟩ v) g z := (Below.heap_setCell _ _ _ _ hne).trans h
theorem box_cell {W : World} {g : Nat} {z : Int} (h : Box1 W g z) : W.cell? ⟨g, 0, none⟩ = some (.int .i64 z) := by rw [cell_of_row W g 0 _ _ _ h]; rfl
theorem box_frozen {W : World} {g : Nat} {z : Int} (h : Box1 W g z) : W.frozen? ⟨g, 0, none⟩ = false := frozen_of_row W g 0 _ _ h
theorem alloc4 (w : World) (o1 o2 o3 o4 : Obj) (W : World) (hW : W = (((w.alloc o1).alloc o2).alloc o3).alloc o4) :
    W.heap[w.heap.size]? = some o1 ∧ W.heap[w.heap.size + 1]? = some o2 ∧ W.heap[w.heap.size + 1 + 1]? = some o3 ∧ W.heap[w.heap.size + 1 + 1 + 1]? = some o4 ∧ W.heap.size = w.heap.size + 4 ∧ Below w.heap.size w W := by
  obtain ⟨w1, h1⟩ : ∃ w1, w1 = w.alloc o1 := ⟨_, rfl⟩
  obtain ⟨w2, h2⟩ : ∃ w2, w2 = w1.alloc o2 := ⟨_, rfl⟩
  obtain ⟨w3, h3⟩ : ∃ w3, w3 = w2.alloc o3 := ⟨_, rfl⟩
  rw [← h1, ← h2, ← h3] at hW
  have z1 : w1.heap.size = w.heap.size + 1 := by rw [h1, World.size_alloc]
  have z2 : w2.heap.size = w.heap.size + 1 + 1 := by rw [h2, World.size_alloc, z1]
  have z3 : w3.heap.size = w.heap.size + 1 + 1 + 1 := by rw [h3, World.size_alloc, z2]
  have n1 : w1.heap[w.heap.size]? = some o1 := by rw [h1]; exact heap_alloc_new _ _
  have n2 : w2.heap[w.heap.size + 1]? = some o2 := by rw [h2, ← z1]; exact heap_alloc_new _ _
  have n3 : w3.heap[w.heap.size + 1 + 1]? = some o3 := by rw [h3, ← z2]; exact heap_alloc_new _ _
  have n4 : W.heap[w.heap.size + 1 + 1 + 1]? = some o4 := by rw [hW, ← z3]; exact heap_alloc_new _ _
  have b1 : Below w.heap.size w w1 := by rw [h1]; exact below_alloc _ _
  have b2 : Below w1.heap.size w1 w2 := by rw [h2]; exact below_alloc _ _
  have b3 : Below w2.heap.size w2 w3 := by rw [h3]; exact below_alloc _ _
  have b4 : Below w3.heap.size w3 W := by rw [hW]; exact below_alloc _ _
  refine ⟨?_, ?_, ?_, n4, by rw [hW, World.size_alloc, z3], below_trans (below_trans (below_trans b1 b2) b3) b4⟩
  · rw [b4.block _ (by omega), b3.block _ (by omega), b2.block _ (by omega)]; exact n1
  · rw [b4.block _ (by omega), b3.block _ (by omega)]; exact n2
  · rw [b4.block _ (by omega)]; exact n3
theorem wrapI_64 (z : Int) : wrapI z = wrap64 z := by
  unfold wrapI
  rw [IntKind.wrap_i64]
  simp only [wrap64]

set_option maxRecDepth 100000 in
set_option maxHeartbeats 2000000 in
theorem addWords_any (S : ByteArray) (w : World) (hS : S.size ≤ 9223372036854775807) (NA : NamesAt w) (hT : Lib.Utf8Tabs 3 4 w) :
    Calls Tryd.prog 63 #[.string S] w fun e w' => e = .returned (.int .i64 (sumU S)) ∧ Below w.heap.size w w' := by
  have h3 : 3 < w.heap.size := World.block_lt_of_cell? w _ (hT.1 0 (by decide))
  have h4 : 4 < w.heap.size := World.block_lt_of_cell? w _ (hT.2 0 (by decide)).1
  have HNA := Lib.hid NA; have HT := Lib.hid hT; have HG := Lib.hid (And.intro h3 h4)
  clear NA hT h3 h4
  refine calls_marks Tryd.func63 rfl fun Q hQ => ?_
  simp only [Tryd.ntmps63, List.size_toArray, List.length_cons, List.length_nil, Nat.reduceAdd, Nat.reduceSub, Array.replicate_succ, Array.replicate_zero, List.push_toArray, List.append_toArray, List.nil_append, List.cons_append]
  go_wp2_with fail
  refine (fields_is S _).mono ?_
  rintro e w2 ⟨he, hw2⟩
  simp only [World.size_alloc] at he
  subst he
  obtain ⟨ha, hb, hc, hd, hsz, hbel⟩ := alloc4 w _ _ _ _ w2 hw2
  have HA := Lib.hid ha; have HB := Lib.hid hb; have HC := Lib.hid (show w2.cell? ⟨w.heap.size + 1 + 1, 0, none⟩ = some (.string S) by rw [cell_of_row w2 _ 0 _ _ _ hc]; rfl)
  have HD := Lib.hid (show w2.cell? ⟨w.heap.size + 1 + 1 + 1, 0, none⟩ = some (.func (.func 95) #[] #[]) by rw [cell_of_row w2 _ 0 _ _ _ hd]; rfl)
  have HSZ := Lib.hid hsz; have HBEL := Lib.hid hbel
  clear ha hb hc hd hsz hbel hw2
  go_wp2_with fail
  refine wp_fields S (partsU S) rfl (w.heap.size + 1 + 1) (w.heap.size + 1 + 1 + 1) w.heap.size hS HC.out HD.out (Utf8Tabs_below HT.out HBEL.out) (by rw [HSZ.out]; omega) HG.out.1 HG.out.2 rfl
    (fun got W => W.heap[w.heap.size]? = some (.cells #[.int .i64 (stP got).1] 3 (0, 0)) ∧ W.heap[w.heap.size + 1]? = some (.cells #[.int .i64 (stP got).2] 3 (0, 0)) ∧ Below w.heap.size w W)
    (OwnFrom.and (ownFrom_block _ (by rw [HSZ.out]; omega)) (OwnFrom.and (ownFrom_block _ (by rw [HSZ.out]; omega)) (ownFrom_below (Nat.le_refl _) (by rw [HSZ.out]; omega))))
    ⟨HA.out, HB.out, HBEL.out⟩
    (fun x => { tmps := #[.string S, undef, .int .i64 0, .pointer (some ⟨w.heap.size, 0, none⟩), .pointer (some ⟨w.heap.size + 1, 0, none⟩), .string x, .string S, .func (.func 108) #[] #[.pointer (some ⟨w.heap.size + 1 + 1, 0, none⟩), .pointer (some ⟨w.heap.size + 1 + 1 + 1, 0, none⟩)], .string x, undef, undef, undef, undef, undef, undef, undef, undef, undef, undef, undef, undef, undef, undef, undef, undef], defers := [] }) ?assign ?body ?done
  case assign =>
    intro lp x W K hK
    simp only [List.setIfInBounds_toArray, List.set_cons_succ, List.set_cons_zero]
    gi_wp2
    exact hK
  case body =>
    rintro lp pre x W Q2 hno hQ2 ⟨hv1, hv2, hbw⟩
    obtain ⟨l, rfl⟩ : ∃ l, x = bs l := ⟨x.data.toList, bs_eq rfl⟩
    have hsn := stP_snoc pre (bs l)
    rw [bs_list] at hsn
    generalize stP pre = p at *
    obtain ⟨t, m⟩ := p
    generalize stP (pre ++ [bs l]) = p2 at *
    have hb1 : Box1 W w.heap.size t := hv1
    have hb2 : Box1 W (w.heap.size + 1) m := hv2
    have hc1 := box_cell hb1; have hc2 := box_cell hb2; have hf1 := box_frozen hb1; have hf2 := box_frozen hb2
    have HV1 := Lib.hid hb1; have HV2 := Lib.hid hb2; have HBW := Lib.hid hbw
    have hq1 : ((bs l).toList == [116, 104, 111, 117, 115, 97, 110, 100]) = decide (l = thousandL) := bs_eqL l thousandL
    have hq2 : ((bs l).toList == [104, 117, 110, 100, 114, 101, 100]) = decide (l = hundredL) := bs_eqL l hundredL
    have hn1 : w.heap.size ≠ w.heap.size + 1 := by omega
    have hn2 : w.heap.size + 1 ≠ w.heap.size := by omega
    have hd1 : w.heap.size + 1 + 1 ≠ w.heap.size := by omega
    have hd2 : w.heap.size + 1 + 1 + 1 ≠ w.heap.size := by omega
    have hd3 : w.heap.size + 1 + 1 ≠ w.heap.size + 1 := by omega
    have hd4 : w.heap.size + 1 + 1 + 1 ≠ w.heap.size + 1 := by omega
    clear hv1 hv2 hbw hb1 hb2
    by_cases ht : l = thousandL
    · rw [decide_eq_true ht] at hq1
      have HP := Lib.hid (show p2 = (wrapI (m * 1000), 0) by rw [hsn, ht]; exact addW_th _)
      clear hsn ht hq2
      gi_wp2_with fail
      (try simp only [Exit.inBlock, Exit.then])
      refine hQ2 _ _ (((KeepsOthers.setCell _ _ _).trans (KeepsOthers.setCell _ _ _)).from _) ⟨(Below.heap_setCell _ _ _ _ hd3).trans (Below.heap_setCell _ _ _ _ hd1), (Below.heap_setCell _ _ _ _ hd4).trans (Below.heap_setCell _ _ _ _ hd2), ((Below.refl _ W).setCell (p := ⟨w.heap.size, 0, none⟩) (Nat.le_refl _) _).setCell (p := ⟨w.heap.size + 1, 0, none⟩) (by simp) _⟩ ?_
      rw [HP.out, wrapI_64]
      exact ⟨box_other (box_set HV1.out _) hn1, box_set (box_other HV2.out hn2) _, (HBW.out.setCell (p := ⟨w.heap.size, 0, none⟩) (Nat.le_refl _) _).setCell (p := ⟨w.heap.size + 1, 0, none⟩) (by simp) _⟩
    · rw [decide_eq_false ht] at hq1
      by_cases hh : l = hundredL
      · rw [decide_eq_true hh] at hq2
        have HP := Lib.hid (show p2 = (t, wrapI (m * 100)) by rw [hsn, hh]; exact addW_hu _)
        clear hsn ht hh
        gi_wp2_with fail
        (try simp only [Exit.inBlock, Exit.then])
        refine hQ2 _ _ ((KeepsOthers.setCell _ _ _).from _) ⟨Below.heap_setCell _ _ _ _ hd3, Below.heap_setCell _ _ _ _ hd4, (Below.refl _ W).setCell (p := ⟨w.heap.size + 1, 0, none⟩) (by simp) _⟩ ?_
        rw [HP.out, wrapI_64]
        exact ⟨box_other HV1.out hn1, box_set HV2.out _, HBW.out.setCell (p := ⟨w.heap.size + 1, 0, none⟩) (by simp) _⟩
      · rw [decide_eq_false hh] at hq2
        have HP := Lib.hid (show p2 = (t, wrapI (m + (worthN l : Int))) by rw [hsn]; exact addW_no _ l ht hh)
        have HW := Lib.hid (fun (W' : World) (NA : NamesAt W') => worthOf_any l W' NA)
        have HNW := Lib.hid (HNA.out.below HBW.out)
        have HND := Lib.hid ((HNA.out.below HBW.out).below (below_drew W))
        generalize worthN l = R at *
        clear hsn ht hh
        gi_wp2_with fail
        refine region_round (by kernel_rfl) (fun ⟨a, w, h⟩ => hno.1 ⟨a, w, h⟩) ?_
        refine wpAny_take (i := 1) (v := .string (bs l)) rfl (by kernel_rfl) (by kernel_rfl) (by kernel_rfl) (fun _ _ _ h => (hno.2 _ _ _ h).elim) (Or.inl ⟨by rfl, fun w => by first | rfl | (go_simp; done) | (go_simp; rfl)⟩) ?_
        refine wpAny_ready (rs := [0, 2]) (by kernel_rfl) (by simp) (AllReady.cons rfl (fun K hK => ?_) (AllReady.cons rfl (fun K hK => ?_) AllReady.nil))
        · go_simp
          (first | (refine hK _ _ ?_; clear hK K) | skip)
          refine wpAny_ready (rs := [2]) (by kernel_rfl) (by simp) (AllReady.cons rfl (fun K hK => ?_) AllReady.nil)
          go_simp
          go_wp2_with (go_at_call 96; refine (HW.out _ HND.out).mono ?_; rintro e w' ⟨rfl, rfl⟩)
          (first | (refine hK _ _ ?_; clear hK K) | skip)
          refine wpAny_ready (rs := [3]) (by kernel_rfl) (by simp) (AllReady.cons rfl (fun K hK => ?_) AllReady.nil)
          go_simp
          (first | (refine hK _ _ ?_; clear hK K) | skip)
          refine wpAny_ready (rs := [4]) (by kernel_rfl) (by simp) (AllReady.cons rfl (fun K hK => ?_) AllReady.nil)
          go_simp
          (first | (refine hK _ _ ?_; clear hK K) | skip)
          refine wpAny_done (by kernel_rfl) ?_ _
          (try simp only [Exit.inBlock, Exit.then])
          refine hQ2 _ _ (((KeepsOthers.drew _).trans (KeepsOthers.setCell _ _ _)).from _) ⟨Below.heap_setCell _ _ _ _ hd3, Below.heap_setCell _ _ _ _ hd4, ((Below.refl _ W).drew).setCell (p := ⟨w.heap.size + 1, 0, none⟩) (by simp) _⟩ ?_
          rw [HP.out]
          exact ⟨box_other (show Box1 W.drew _ _ from HV1.out) hn1, box_set (W := W.drew) HV2.out (wrapI (m + (R : Int))), (HBW.out.drew).setCell (p := ⟨w.heap.size + 1, 0, none⟩) (by simp) _⟩
        · go_simp
          go_wp2_with (go_at_call 96; refine (HW.out _ HND.out).mono ?_; rintro e w' ⟨rfl, rfl⟩)
          (first | (refine hK _ _ ?_; clear hK K) | skip)
          refine wpAny_ready (rs := [0]) (by kernel_rfl) (by simp) (AllReady.cons rfl (fun K hK => ?_) AllReady.nil)
          go_simp
          (first | (refine hK _ _ ?_; clear hK K) | skip)
          refine wpAny_ready (rs := [3]) (by kernel_rfl) (by simp) (AllReady.cons rfl (fun K hK => ?_) AllReady.nil)
          go_simp
          (first | (refine hK _ _ ?_; clear hK K) | skip)
          refine wpAny_ready (rs := [4]) (by kernel_rfl) (by simp) (AllReady.cons rfl (fun K hK => ?_) AllReady.nil)
          go_simp
          (first | (refine hK _ _ ?_; clear hK K) | skip)
          refine wpAny_done (by kernel_rfl) ?_ _
          (try simp only [Exit.inBlock, Exit.then])
          refine hQ2 _ _ (((KeepsOthers.drew _).trans (KeepsOthers.setCell _ _ _)).from _) ⟨Below.heap_setCell _ _ _ _ hd3, Below.heap_setCell _ _ _ _ hd4, ((Below.refl _ W).drew).setCell (p := ⟨w.heap.size + 1, 0, none⟩) (by simp) _⟩ ?_
          rw [HP.out]
          exact ⟨box_other (show Box1 W.drew _ _ from HV1.out) hn1, box_set (W := W.drew) HV2.out (wrapI (m + (R : Int))), (HBW.out.drew).setCell (p := ⟨w.heap.size + 1, 0, none⟩) (by simp) _⟩
  case done =>
    rintro D W hD ⟨hv1, hv2, hbw⟩ hK
    have hc1 := box_cell (show Box1 W w.heap.size _ from hv1); have hc2 := box_cell (show Box1 W (w.heap.size + 1) _ from hv2)
    have HK := Lib.hid hK; have HBW := Lib.hid hbw
    have HS := Lib.hid (show sumU S = wrapI ((stP (partsU S)).1 + (stP (partsU S)).2) from rfl)
    generalize stP (partsU S) = p at *
    clear hK hbw hv1 hv2
    go_wp2_with fail
    (try simp only [Exit.inBlock, Exit.then])
    have hD2 : w.heap.size ≤ D := by have := HSZ.out; omega
    refine hQ.marked _ _ D _ rfl HK.out (results_tmp rfl _ _ _) ⟨?_, below_mark HBW.out hD2 HK.out⟩
    rw [HS.out, wrapI_64]; rfl
end Go.Proofs.YtlcbdmmmafpchaaDoor
