/- RunsOf: the program's, over its iterator, with the list in a box. -/
import Derived.Test.YtmlghonidheidaaI1
namespace Go.Proofs.Ytmlghonidheidaa
open Go.RowKit Go.BigFrame Go.Shelf
set_option linter.unusedSimpArgs false
set_option linter.unusedVariables false
set_option maxRecDepth 4000
attribute [local go_sem] Oper.semAt_some

theorem info_rowZ : (Try.prog.info? 37).map (fun i => (i.zero, i.size, i.bytes)) = some (some (.slice none 0 0), 1, 24) := by kernel_rfl
theorem own_kept_nc {W W' : World} {n k : Nat} {e : TypeId} {v : Value} {xs : List Value} {row : Option Nat} (h : W.ownsRow n e 1 v k xs) (hg : W.grownBy W' row)
    (hrow : ∀ r, row = some r → ∃ o : Obj, W.heap[r]? = some o ∧ o.isCells = false) : W'.ownsRow n e 1 v k xs := by
  refine h.kept hg ?_
  rcases h.2 with ⟨rfl, _⟩ | ⟨g, cap, cur, rfl, _, hgb, _⟩
  · exact .inl rfl
  · refine .inr fun e' => ?_
    obtain ⟨o, ho, hc⟩ := hrow g (by simpa [Value.ownBlock] using e'.symm)
    rw [hgb] at ho; cases ho; cases hc
theorem ownsRR_kept {W W' : World} {B : Nat} {T E : TypeId} {v : Value} {vs : List Value} {xss : List (List Value)} {row : Option Nat} (h : OwnsRR W B T E v vs xss) (hg : W.grownBy W' row)
    (hrow : ∀ r, row = some r → ∃ o : Obj, W.heap[r]? = some o ∧ o.isCells = false) : OwnsRR W' B T E v vs xss :=
  ⟨own_kept_nc h.outer hg hrow, h.len, fun i u xs h1 h2 => own_kept_nc (h.inner i u xs h1 h2) hg hrow, h.apart, h.alone⟩
theorem ownsRR_box {W : World} {B bx : Nat} {T E t : TypeId} {v v0 : Value} {vs : List Value} {xss : List (List Value)} (h : OwnsRR W B T E v vs xss) (hb : Boxed W bx t v0) (hT : t ≠ T) (hE : t ≠ E) (x : Value) :
    OwnsRR (W.setCell ⟨bx, 0, none⟩ x) B T E v vs xss :=
  ⟨h.outer.kept (grownBy_setCell' W bx x) (.inr (hb.not_row hT h.outer).symm), h.len, fun i u xs h1 h2 => (h.inner i u xs h1 h2).kept (grownBy_setCell' W bx x) (.inr (hb.not_row hE (h.inner i u xs h1 h2)).symm), h.apart, h.alone⟩

/-- The law on append as one step of a region that draws its order. -/
theorem step_appZ {P : Program} {w : World} {ops : Array Oper} {o : Oper} {a : Act} {K : Act → World → Prop} {Q : Exit → Act → World → Prop} {E : Prop} (hgd : o.guard = none) (s x : Operand) (t : TypeId)
    (ho : o.op = .call { callee := .builtin .append, args := #[s, x], argTypes := #[t, t] })
    (base : Nat) (e : TypeId) (i : TypeInfo) (z : Value) (bytes : Nat) (ht : P.underlying t = some (.slice e)) (hi : P.info? e = some i) (hz : i.zero = some z)
    (hsize : i.size = 1) (hby : i.bytes = bytes) (hzs : z.cells.size = 1)
    (v : Value) (n : Nat) (xs : List Value) (hs : a.eval s = v) (hown : w.ownsRow base e 1 v n xs)
    (ad : Addr) (m c : Nat) (news : List Value) (hx : a.eval x = .slice (some ad) m c) (hl : news.length = m) (hnews : ∀ j u, news[j]? = some u → w.cell? (ad.add j) = some u) (h1 : ∀ u ∈ news, u.oneCell' = true)
    (h63 : n + m ≤ maxLen) (hbytes : (n + m) * bytes ≤ 140737488355328) (hbase : base ≤ w.heap.size)
    (h : ∀ v' w', w'.ownsRow base e 1 v' (n + m) (xs ++ news) → w.grownBy w' v.ownBlock → (v'.ownBlock = v.ownBlock ∨ v'.ownBlock = some w.heap.size) → K (a.put o.dst v') w') :
    if Region.wanted o (yielded ops a.tmps) = true then Oper.wp P o a w K Q else E := by
  have hwt : Region.wanted o (yielded ops a.tmps) = true := by simp [Region.wanted, hgd]
  rw [if_pos hwt]
  obtain ⟨v', w', hr, h2, h3, h4⟩ := run_append_own (P := P) w base t o.type e i z 1 bytes ht hi hz hsize hby hzs (by decide) v n xs hown ad m c news (by omega) hnews h1 h63 hbytes hbase
  have hw := append_where w base t o.type e i z bytes ht hi hz hsize hby hzs v n xs hown ad m c news hl hnews h1 h63 hbytes v' w' hr
  unfold Oper.wp execOp
  simp only [ho, resolve, invoke, builtin, Sem.run_bind, Sem.run_pure, Result.andThen_ok, List.map_toArray, List.map_cons, List.map_nil, hs, hx, hr]
  exact h v' w' h2 h3 hw
/-- What the loop over the runs keeps. -/
structure RunI (w w0 : World) (bx Bs b : Nat) (xss : List (List Value)) (W : World) (v : Value) (vs : List Value) : Prop where
  box : Boxed W bx 27 v
  rr : OwnsRR W w.heap.size 37 3 v vs xss
  bel : Below w.heap.size w W
  size : w0.heap.size ≤ W.heap.size
  keep : W.heap[b]? = w0.heap[b]?
  far : v.ownBlock ≠ some Bs ∧ v.ownBlock ≠ some b
theorem runI_own (w w0 : World) (bx Bs b : Nat) (f : List (UInt8 × Nat) → List (List Value)) (hb : b < w0.heap.size) (hw : w.heap.size ≤ w0.heap.size) :
    OwnFrom w0.heap.size (fun got W => ∃ v vs, RunI w w0 bx Bs b (f got) W v vs) := by
  rintro s W W' row ⟨v, vs, h⟩ hg hr
  have hr' := fun r e => (hr r e).2
  refine ⟨v, vs, ?_, ownsRR_kept h.rr hg hr', h.bel.grown hg h.bel.size (fun k e => Nat.le_trans hw (hr k e).1), Nat.le_trans h.size hg.size, ?_, h.far⟩
  · refine h.box.kept hg (fun e => ?_)
    obtain ⟨o, ho, hc⟩ := hr' bx e.symm
    rw [show W.heap[bx]? = _ from h.box] at ho; cases ho; cases hc
  · refine (hg.block b (Nat.lt_of_lt_of_le hb h.size) (fun e => ?_)).trans h.keep
    have := (hr b e.symm).1
    omega
theorem runI_app {w w0 W w1 : World} {bx Bs b : Nat} {v v' : Value} {vs : List Value} {xss : List (List Value)} {a c : Value} {tmp : Obj} (h : RunI w w0 bx Bs b xss W v vs)
    (hbx : w.heap.size ≤ bx) (hBs : Bs < w0.heap.size) (hbb : b < w0.heap.size) (n1 : Bs ≠ bx) (n2 : b ≠ bx)
    (hown' : w1.ownsRow w.heap.size 37 1 v' (vs.length + 1) (vs ++ [.slice (some ⟨W.heap.size, 0, none⟩) 2 2])) (hgrow : ((W.alloc (.cells #[a, c] 3)).alloc tmp).drew.grownBy w1 v.ownBlock)
    (hwhere : v'.ownBlock = v.ownBlock ∨ v'.ownBlock = some ((W.alloc (.cells #[a, c] 3)).alloc tmp).drew.heap.size) :
    Boxed w1 bx 27 v ∧ RunI w w0 bx Bs b (xss ++ [[a, c]]) (w1.setCell ⟨bx, 0, none⟩ v') v' (vs ++ [.slice (some ⟨W.heap.size, 0, none⟩) 2 2]) ∧ KeepsOthers W (w1.setCell ⟨bx, 0, none⟩ v') ∧ KeepsTwo Bs b W (w1.setCell ⟨bx, 0, none⟩ v') := by
  have hg2 : ((W.alloc (.cells #[a, c] 3)).alloc tmp).grownBy w1 v.ownBlock := ⟨hgrow.os, hgrow.tape, hgrow.output, hgrow.size, hgrow.block⟩
  have hsz := h.size
  obtain ⟨q1, q2, q3, q4, q5⟩ := Boxed.appended (tmp := tmp) (h.box.alloc (.cells #[a, c] 3)) (by decide) (own_below h.rr.outer (below_alloc W _)) (by have := h.bel.size; simp; omega) hbx hown' hg2
  have hrr : OwnsRR w1 w.heap.size 37 3 v' (vs ++ [.slice (some ⟨W.heap.size, 0, none⟩) 2 2]) (xss ++ [[a, c]]) := ownsRR_push h.rr [a, c] (by unfold maxLen; simp) h.bel.size hown' hg2 (by decide)
  have old : ∀ p, p < w0.heap.size → p ≠ bx → v.ownBlock ≠ some p → (w1.setCell ⟨bx, 0, none⟩ v').heap[p]? = W.heap[p]? := by
    intro p hp hne hv
    have hpw : p < W.heap.size := by omega
    refine (Below.heap_setCell _ _ _ _ hne).trans ((hg2.block p (by simp; omega) (fun e => hv e.symm)).trans ?_)
    exact (below_trans (below_alloc W (.cells #[a, c] 3)) (below_alloc _ tmp)).block p hpw
  refine ⟨q1, ⟨q2, ownsRR_box hrr q1 (by decide) (by decide) v', h.bel.trans (((below_alloc W _).mono h.bel.size).trans q5), ?_, (old b hbb n2 h.far.2).trans h.keep, ?_⟩, (KeepsOthers.alloc W _).trans q4, old Bs hBs n1 h.far.1, old b hbb n2 h.far.2⟩
  · exact Nat.le_trans hsz ((KeepsOthers.alloc W (.cells #[a, c] 3)).trans q4).size
  · rcases hwhere with e | e
    · rw [e]; exact h.far
    · rw [e]
      refine ⟨fun e2 => ?_, fun e2 => ?_⟩
      · have := Option.some.inj e2; simp at this; omega
      · have := Option.some.inj e2; simp at this; omega
theorem ownsRR_putObj {W : World} {B : Nat} {T E : TypeId} {v : Value} {vs : List Value} {xss : List (List Value)} (h : OwnsRR W B T E v vs xss) {l : Nat} {o : Obj} (o' : Obj) (hl : W.heap[l]? = some o) (ho : o.isCells = false) :
    OwnsRR (W.putObj l o') B T E v vs xss :=
  ⟨ownsRow_putObj h.outer o' hl ho, h.len, fun i u xs h1 h2 => ownsRow_putObj (h.inner i u xs h1 h2) o' hl ho, h.apart, h.alone⟩

set_option maxRecDepth 100000 in
set_option maxHeartbeats 1000000 in
theorem implRunsOf_any (s : ByteArray) (w : World) (hs : s.size ≤ maxLen) :
    Calls Try.prog 9 #[.string s] w fun e w' => RowsOk s.data.toList w w' e := by
  obtain ⟨i0, hi, hz0, hz1, hz2⟩ := info_parts info_rowZ
  cases hg : goodL s.data.toList with
  | false =>
    have HG := Lib.hid hg; clear hg
    go_enter Try.func9, Try.ntmps9
    go_wp2_with fail
    refine (implIsWord_any s w hs).mono ?_
    rintro e w1 ⟨rfl, rfl⟩
    rw [HG.out]
    go_wp2
    go_ret2
    exact ⟨_, [], by rw [HG.out]; rfl, by rw [HG.out, if_neg (by simp)]; exact ownsRR_nil _ _ _ _, Below.refl _ _⟩
  | true =>
    obtain ⟨h1, h2, h3⟩ := goodL_parts hg
    have HG := Lib.hid hg; have H3 := Lib.hid h3; clear hg h3
    refine calls_marks Try.func9 rfl fun Q hQ => ?_
    simp only [Try.ntmps9, List.size_toArray, List.length_cons, List.length_nil, Nat.reduceAdd, Nat.reduceSub, Array.replicate_succ, Array.replicate_zero, List.push_toArray, List.append_toArray, List.nil_append, List.cons_append]
    go_wp2_with fail
    refine (implIsWord_any s w hs).mono ?_
    rintro e w1 ⟨rfl, rfl⟩
    rw [HG.out]
    go_wp2_with (refine wpList_bytes _ rfl 9 22 _ rfl 5 Try.underlying9 Try.underlying22 Try.underlying5 s rfl hs ?_; intro w1 cap hb hsz hcap hcm hcell hfr)
    have HC := Lib.hid hcell; have HB := Lib.hid hb
    clear hcell hfr hb
    go_wp2_with fail
    refine (runParts_is _ _ _ _).mono ?_
    rintro e w2 ⟨rfl, hw2⟩
    have hz : s.size = s.data.toList.length := by simp
    obtain ⟨rs, hrs⟩ : ∃ rs, rs = runsL s.data.toList := ⟨_, rfl⟩
    have hbd : ∀ k (h : k < rs.length), 49 ≤ rs[k].1.toNat ∧ rs[k].1.toNat ≤ 57 ∧ 1 ≤ rs[k].2 ∧ rs[k].2 ≤ 400 ∧ s.data.toList[cntR (rs.take k)]? = some rs[k].1 := by
      subst hrs; intro k h
      exact ⟨(runs_dig H3.out h).1, (runs_dig H3.out h).2, runs_pos _ _ (List.getElem_mem h), Nat.le_trans (runs_cnt h) (by simpa using h2), runs_get _ _ h⟩
    have hN4 : rs.length ≤ 400 := by rw [hrs]; exact Nat.le_trans (runsL_len _) (by simpa using h2)
    have hrows : rowsL s.data.toList = rs.map rowOf := by rw [hrs]; rfl
    have hsz' : w.heap.size + 1 + 1 < w1.heap.size := by simpa using hsz
    have hb0 : Below w.heap.size w ((w.alloc (.cells #[] 37)).alloc (.cells #[.slice (some ⟨w.heap.size, 0, none⟩) 0 0] 27)) := below_trans (below_alloc _ _) (below_alloc _ _)
    have hB1 : Below w.heap.size w w1 := hb0.trans (HB.out.mono hb0.size)
    have hb12 : Below w1.heap.size w1 w2 := by rw [hw2]; exact below_alloc w1 _
    have hs2 : w2.heap.size = w1.heap.size + 1 := by rw [hw2]; simp
    have hbox2 : w2.cell? ⟨w1.heap.size, 0, none⟩ = some (.slice (some ⟨w.heap.size + 1 + 1, 0, none⟩) s.size cap) := by rw [hw2]; simp [go_sem]
    have hcell : ∀ i (h : i < s.data.toList.length), w2.cell? ⟨w.heap.size + 1 + 1, i, none⟩ = some (.int .u8 (s.data.toList[i].toNat : Int)) := by
      intro i h
      have := HC.out i (by rw [hz]; exact h)
      rw [Go.Deep.nblk_alloc, Go.Deep.nblk_alloc] at this
      exact (hb12.cell (p := ⟨w.heap.size + 1 + 1, i, none⟩) hsz').trans this
    have inv0 : RunI w w2 (w.heap.size + 1) w1.heap.size (w.heap.size + 1 + 1) [] w2 (.slice (some ⟨w.heap.size, 0, none⟩) 0 0) [] := by
      have hbA : Below ((w.alloc (.cells #[] 37)).alloc (.cells #[.slice (some ⟨w.heap.size, 0, none⟩) 0 0] 27)).heap.size ((w.alloc (.cells #[] 37)).alloc (.cells #[.slice (some ⟨w.heap.size, 0, none⟩) 0 0] 27)) w2 := HB.out.trans (hb12.mono HB.out.size)
      refine ⟨?_, ⟨?_, rfl, fun i u xs h => by simp at h, fun i j u u' _ h => by simp at h, fun i u h => by simp at h⟩, hB1.trans (hb12.mono hB1.size), Nat.le_refl _, rfl, ?_, ?_⟩
      · have h0 := Boxed.new (w.alloc (.cells #[] 37)) 27 (.slice (some ⟨w.heap.size, 0, none⟩) 0 0)
        have e : (w.alloc (.cells #[] 37)).heap.size = w.heap.size + 1 := by simp
        rw [e] at h0
        exact (hbA.block (w.heap.size + 1) (by simp)).trans h0
      · have h0 := own_lit w w.heap.size 37 [] (Nat.le_refl _) (Nat.zero_le _)
        exact own_below h0 ((below_alloc _ _).trans (hbA.mono (by simp)))
      · intro e; have h9 : w.heap.size = w1.heap.size := Option.some.inj e; omega
      · intro e; have h9 : w.heap.size = w.heap.size + 1 + 1 := Option.some.inj e; omega
    have HBD := Lib.hid hbd; have HRS := Lib.hid hrs; have HROW := Lib.hid hrows; have HX := Lib.hid hbox2; have HCE := Lib.hid hcell; have HS2 := Lib.hid hs2; have HZ := Lib.hid hz; have HINV := Lib.hid inv0
    have hw1w : w.heap.size ≤ w1.heap.size := hB1.size
    clear hw2 hbd hrows hbox2 hcell hs2 inv0 hb0 hB1 hb12 HB HC hsz hz
    go_wp2_with fail
    have hz := HZ.out
    refine wp_parts s.data.toList rs HRS.out w1.heap.size (w.heap.size + 1 + 1) cap (by rw [← hz]; exact h1) (by rw [← hz]; omega) (by rw [← hz]; exact hcap) hcm (by rw [HS2.out]; omega) (by rw [HS2.out]; omega) (by rw [← hz]; exact HX.out) HCE.out rfl
      (fun got W => ∃ v vs, RunI w w2 (w.heap.size + 1) w1.heap.size (w.heap.size + 1 + 1) (got.map rowOf) W v vs)
      (runI_own w w2 (w.heap.size + 1) w1.heap.size (w.heap.size + 1 + 1) (fun got => got.map rowOf) (by rw [HS2.out]; omega) (by rw [HS2.out]; omega))
      ⟨_, _, HINV.out⟩
      (fun x => { tmps := #[.string s, undef, .slice none 0 0, .bool false, .pointer (some ⟨w.heap.size + 1, 0, none⟩), .slice (some ⟨w.heap.size + 1 + 1, cntR (rs.take x), none⟩) rs[x].2 rs[x].2, .string s, .bool true, .bool false, .slice (some ⟨w.heap.size, 0, none⟩) 0 0, .string s, .slice (some ⟨w.heap.size + 1 + 1, 0, none⟩) s.size cap, .func (.func 63) #[] #[.pointer (some ⟨w1.heap.size, 0, none⟩)], .slice (some ⟨w.heap.size + 1 + 1, cntR (rs.take x), none⟩) rs[x].2 rs[x].2, undef, undef, undef, undef, undef, undef, undef, undef, undef, undef, undef], defers := [] }) ?assign ?body ?done
    case assign =>
      intro lp x W K hK
      simp only [List.setIfInBounds_toArray, List.set_cons_succ, List.set_cons_zero]
      gi_wp2
      exact hK
    case body =>
      rintro lp pre x W Q2 hno hQ2 ⟨v, vs, inv⟩ hlt
      clear hz
      obtain ⟨hd1, hd2, hd3, hd4, hd5⟩ := HBD.out x x.2
      have hvl : vs.length ≤ 400 := by rw [← inv.rr.len]; simp [gotR]; omega
      have hsnoc := Lib.hid (show (gotR rs pre ++ [rs[x]]).map rowOf = (gotR rs pre).map rowOf ++ [rowOf rs[x]] by rw [List.map_append]; rfl)
      have hcb : W.cell? ⟨w.heap.size + 1 + 1, cntR (rs.take x), none⟩ = some (.int .u8 ((rs[x].1.toNat : Nat) : Int)) := by
        have hlo := get_lt hd5
        refine (World.cell?_of_block (w := w2) inv.keep).trans ((HCE.out _ hlo).trans ?_)
        rw [List.getElem?_eq_getElem hlo] at hd5
        rw [Option.some.inj hd5]; rfl
      have hrow : rowOf rs[x] = [.int .i64 ((rs[x].1.toNat : Int) - 48), .int .i64 (rs[x].2 : Int)] := rfl
      have hd1' : 49 ≤ rs[x].1.toNat := hd1
      have hd2' : rs[x].1.toNat ≤ 57 := hd2
      have hd3' : 1 ≤ rs[x].2 := hd3
      have hd4' : rs[x].2 ≤ 400 := hd4
      clear hd1 hd2 hd3 hd4 hd5
      rw [hrow] at hsnoc
      clear hrow
      generalize (gotR rs pre ++ [rs[x]]) = got2 at *
      generalize (gotR rs pre).map rowOf = xss at *
      generalize rs[x].2 = q at *
      generalize rs[x].1.toNat = d at *
      generalize cntR (rs.take x) = o at *
      have hc0 : W.cell? ⟨w.heap.size + 1, 0, none⟩ = some v := inv.box.cell
      obtain ⟨av, cv, rfl⟩ := own_slice inv.rr.outer
      have hbW : w.heap.size + 1 < W.heap.size := inv.box.lt
      have hbW2 : w.heap.size + 1 + 1 < W.heap.size := by have := inv.size; have := HS2.out; omega
      have hbW4 : w.heap.size + 1 < W.heap.size + 1 := by omega
      have HI := Lib.hid inv
      clear inv
      have happ := fun (w3 : World) (v' : Value) (tmp : Obj) (h1 : w3.ownsRow w.heap.size 37 1 v' (vs.length + 1) (vs ++ [.slice (some ⟨W.heap.size, 0, none⟩) 2 2])) (h2 : ((W.alloc (.cells #[.int .i64 ((d : Int) - 48), .int .i64 (q : Int)] 3)).alloc tmp).drew.grownBy w3 (Value.slice av vs.length cv).ownBlock) (h3 : v'.ownBlock = (Value.slice av vs.length cv).ownBlock ∨ v'.ownBlock = some ((W.alloc (.cells #[.int .i64 ((d : Int) - 48), .int .i64 (q : Int)] 3)).alloc tmp).drew.heap.size) =>
        runI_app HI.out (Nat.le_succ _) (by rw [HS2.out]; omega) (by rw [HS2.out]; omega) (by omega) (by omega) h1 h2 h3
      have HAPP := Lib.hid happ
      clear happ
      gi_wp2_with fail
      refine region_round (by kernel_rfl) (fun ⟨a, w, h⟩ => hno.1 ⟨a, w, h⟩) ?_
      refine wpAny_take (i := 1) (v := .slice (some ⟨w.heap.size + 1 + 1, o, none⟩) q q) rfl (by kernel_rfl) (by kernel_rfl) (by kernel_rfl) (fun _ _ _ h => (hno.2 _ _ _ h).elim) (Or.inl ⟨by rfl, fun w => by first | rfl | (go_simp; done) | (go_simp; rfl) | (go_simp; intro hx; exact absurd hx (by omega))⟩) ?_
      refine wpAny_take (i := 2) (v := .pointer (some ⟨w.heap.size + 1 + 1, o, none⟩)) rfl (by kernel_rfl) (by kernel_rfl) (by kernel_rfl) (fun _ _ _ h => (hno.2 _ _ _ h).elim) (Or.inl ⟨by rfl, fun w => by first | rfl | (go_simp; done) | (go_simp; rfl) | (go_simp; intro hx; exact absurd hx (by omega))⟩) ?_
      refine wpAny_take (i := 5) (v := .slice (some ⟨w.heap.size + 1 + 1, o, none⟩) q q) rfl (by kernel_rfl) (by kernel_rfl) (by kernel_rfl) (fun _ _ _ h => (hno.2 _ _ _ h).elim) (Or.inl ⟨by rfl, fun w => by first | rfl | (go_simp; done) | (go_simp; rfl) | (go_simp; intro hx; exact absurd hx (by omega))⟩) ?_
      refine wpAny_take (i := 6) (v := .int .i64 (q : Int)) rfl (by kernel_rfl) (by kernel_rfl) (by kernel_rfl) (fun _ _ _ h => (hno.2 _ _ _ h).elim) (Or.inl ⟨by rfl, fun w => by first | rfl | (go_simp; done) | (go_simp; rfl) | (go_simp; intro hx; exact absurd hx (by omega))⟩) ?_
      refine wpAny_ready (rs := [0, 3]) (by kernel_rfl) (by simp) (AllReady.cons rfl (fun K hK => ?_) (AllReady.cons rfl (fun K hK => ?_) AllReady.nil))
      · go_simp
        (first | (refine hK _ _ ?_; clear hK K) | skip)
        refine wpAny_ready (rs := [3]) (by kernel_rfl) (by simp) (AllReady.cons rfl (fun K hK => ?_) AllReady.nil)
        go_simp
        (first | (refine hK _ _ ?_; clear hK K) | skip)
        refine wpAny_ready (rs := [4]) (by kernel_rfl) (by simp) (AllReady.cons rfl (fun K hK => ?_) AllReady.nil)
        go_simp
        go_wp2_with (go_at_call 40; refine (digitOf_is _ _ (by omega) (by omega)).mono ?_; rintro e w' ⟨rfl, rfl⟩)
        (first | (refine hK _ _ ?_; clear hK K) | skip)
        refine wpAny_ready (rs := [7]) (by kernel_rfl) (by simp) (AllReady.cons rfl (fun K hK => ?_) AllReady.nil)
        go_simp
        (first | (refine hK _ _ ?_; clear hK K) | skip)
        refine wpAny_ready (rs := [8]) (by kernel_rfl) (by simp) (AllReady.cons rfl (fun K hK => ?_) AllReady.nil)
        go_simp
        (first | (refine hK _ _ ?_; clear hK K) | skip)
        refine wpAny_ready (rs := [9]) (by kernel_rfl) (by simp) (AllReady.cons rfl (fun K hK => ?_) AllReady.nil)
        refine step_appZ rfl (.tmp 14) (.tmp 22) 27 rfl w.heap.size 37 i0 (.slice none 0 0) 24 Try.underlying27 hi hz0 hz1 hz2 rfl (.slice av vs.length cv) vs.length vs rfl (own_below HI.out.rr.outer (below_trans (below_trans (below_alloc _ _) (below_alloc _ _)) (below_drew _))) ⟨W.heap.size + 1, 0, none⟩ 1 1 [.slice (some ⟨W.heap.size, 0, none⟩) 2 2] rfl rfl (by intro j u hu; cases j with | zero => (simp at hu; subst hu; simp [go_sem, Addr.add]) | succ j => simp at hu) (by simp [Value.oneCell']) (by unfold maxLen; omega) (by omega) (by have := HI.out.bel.size; simp; omega) ?_
        intro v' w3 hown' hgrow hwh
        obtain ⟨q1, q2, q3, q4⟩ := HAPP.out w3 v' _ hown' hgrow hwh
        obtain ⟨g', cap', rfl⟩ := ownsRow_succ hown'
        have hc3 := q1.cell; have hf3 := q1.frozen
        have Q2' := Lib.hid q2; have Q3 := Lib.hid q3; have Q4 := Lib.hid q4; clear q1 q2 q3 q4 hown' hgrow hwh
        (refine hK _ _ ?_; clear hK K)
        refine wpAny_ready (rs := [10]) (by kernel_rfl) (by simp) (AllReady.cons rfl (fun K hK => ?_) AllReady.nil)
        go_simp
        (first | (refine hK _ _ ?_; clear hK K) | skip)
        refine wpAny_done (by kernel_rfl) ?_ _
        simp only [Exit.inBlock]
        exact hQ2 _ _ (Q3.out.from _) Q4.out ⟨_, _, by rw [hsnoc.out]; exact Q2'.out⟩
      · go_simp
        (first | (refine hK _ _ ?_; clear hK K) | skip)
        refine wpAny_ready (rs := [0, 4]) (by kernel_rfl) (by simp) (AllReady.cons rfl (fun K hK => ?_) (AllReady.cons rfl (fun K hK => ?_) AllReady.nil))
        · go_simp
          (first | (refine hK _ _ ?_; clear hK K) | skip)
          refine wpAny_ready (rs := [4]) (by kernel_rfl) (by simp) (AllReady.cons rfl (fun K hK => ?_) AllReady.nil)
          go_simp
          go_wp2_with (go_at_call 40; refine (digitOf_is _ _ (by omega) (by omega)).mono ?_; rintro e w' ⟨rfl, rfl⟩)
          (first | (refine hK _ _ ?_; clear hK K) | skip)
          refine wpAny_ready (rs := [7]) (by kernel_rfl) (by simp) (AllReady.cons rfl (fun K hK => ?_) AllReady.nil)
          go_simp
          (first | (refine hK _ _ ?_; clear hK K) | skip)
          refine wpAny_ready (rs := [8]) (by kernel_rfl) (by simp) (AllReady.cons rfl (fun K hK => ?_) AllReady.nil)
          go_simp
          (first | (refine hK _ _ ?_; clear hK K) | skip)
          refine wpAny_ready (rs := [9]) (by kernel_rfl) (by simp) (AllReady.cons rfl (fun K hK => ?_) AllReady.nil)
          refine step_appZ rfl (.tmp 14) (.tmp 22) 27 rfl w.heap.size 37 i0 (.slice none 0 0) 24 Try.underlying27 hi hz0 hz1 hz2 rfl (.slice av vs.length cv) vs.length vs rfl (own_below HI.out.rr.outer (below_trans (below_trans (below_alloc _ _) (below_alloc _ _)) (below_drew _))) ⟨W.heap.size + 1, 0, none⟩ 1 1 [.slice (some ⟨W.heap.size, 0, none⟩) 2 2] rfl rfl (by intro j u hu; cases j with | zero => (simp at hu; subst hu; simp [go_sem, Addr.add]) | succ j => simp at hu) (by simp [Value.oneCell']) (by unfold maxLen; omega) (by omega) (by have := HI.out.bel.size; simp; omega) ?_
          intro v' w3 hown' hgrow hwh
          obtain ⟨q1, q2, q3, q4⟩ := HAPP.out w3 v' _ hown' hgrow hwh
          obtain ⟨g', cap', rfl⟩ := ownsRow_succ hown'
          have hc3 := q1.cell; have hf3 := q1.frozen
          have Q2' := Lib.hid q2; have Q3 := Lib.hid q3; have Q4 := Lib.hid q4; clear q1 q2 q3 q4 hown' hgrow hwh
          (refine hK _ _ ?_; clear hK K)
          refine wpAny_ready (rs := [10]) (by kernel_rfl) (by simp) (AllReady.cons rfl (fun K hK => ?_) AllReady.nil)
          go_simp
          (first | (refine hK _ _ ?_; clear hK K) | skip)
          refine wpAny_done (by kernel_rfl) ?_ _
          simp only [Exit.inBlock]
          exact hQ2 _ _ (Q3.out.from _) Q4.out ⟨_, _, by rw [hsnoc.out]; exact Q2'.out⟩
        · go_simp
          go_wp2_with (go_at_call 40; refine (digitOf_is _ _ (by omega) (by omega)).mono ?_; rintro e w' ⟨rfl, rfl⟩)
          (first | (refine hK _ _ ?_; clear hK K) | skip)
          refine wpAny_ready (rs := [0, 7]) (by kernel_rfl) (by simp) (AllReady.cons rfl (fun K hK => ?_) (AllReady.cons rfl (fun K hK => ?_) AllReady.nil))
          · go_simp
            (first | (refine hK _ _ ?_; clear hK K) | skip)
            refine wpAny_ready (rs := [7]) (by kernel_rfl) (by simp) (AllReady.cons rfl (fun K hK => ?_) AllReady.nil)
            go_simp
            (first | (refine hK _ _ ?_; clear hK K) | skip)
            refine wpAny_ready (rs := [8]) (by kernel_rfl) (by simp) (AllReady.cons rfl (fun K hK => ?_) AllReady.nil)
            go_simp
            (first | (refine hK _ _ ?_; clear hK K) | skip)
            refine wpAny_ready (rs := [9]) (by kernel_rfl) (by simp) (AllReady.cons rfl (fun K hK => ?_) AllReady.nil)
            refine step_appZ rfl (.tmp 14) (.tmp 22) 27 rfl w.heap.size 37 i0 (.slice none 0 0) 24 Try.underlying27 hi hz0 hz1 hz2 rfl (.slice av vs.length cv) vs.length vs rfl (own_below HI.out.rr.outer (below_trans (below_trans (below_alloc _ _) (below_alloc _ _)) (below_drew _))) ⟨W.heap.size + 1, 0, none⟩ 1 1 [.slice (some ⟨W.heap.size, 0, none⟩) 2 2] rfl rfl (by intro j u hu; cases j with | zero => (simp at hu; subst hu; simp [go_sem, Addr.add]) | succ j => simp at hu) (by simp [Value.oneCell']) (by unfold maxLen; omega) (by omega) (by have := HI.out.bel.size; simp; omega) ?_
            intro v' w3 hown' hgrow hwh
            obtain ⟨q1, q2, q3, q4⟩ := HAPP.out w3 v' _ hown' hgrow hwh
            obtain ⟨g', cap', rfl⟩ := ownsRow_succ hown'
            have hc3 := q1.cell; have hf3 := q1.frozen
            have Q2' := Lib.hid q2; have Q3 := Lib.hid q3; have Q4 := Lib.hid q4; clear q1 q2 q3 q4 hown' hgrow hwh
            (refine hK _ _ ?_; clear hK K)
            refine wpAny_ready (rs := [10]) (by kernel_rfl) (by simp) (AllReady.cons rfl (fun K hK => ?_) AllReady.nil)
            go_simp
            (first | (refine hK _ _ ?_; clear hK K) | skip)
            refine wpAny_done (by kernel_rfl) ?_ _
            simp only [Exit.inBlock]
            exact hQ2 _ _ (Q3.out.from _) Q4.out ⟨_, _, by rw [hsnoc.out]; exact Q2'.out⟩
          · go_simp
            (first | (refine hK _ _ ?_; clear hK K) | skip)
            refine wpAny_ready (rs := [0, 8]) (by kernel_rfl) (by simp) (AllReady.cons rfl (fun K hK => ?_) (AllReady.cons rfl (fun K hK => ?_) AllReady.nil))
            · go_simp
              (first | (refine hK _ _ ?_; clear hK K) | skip)
              refine wpAny_ready (rs := [8]) (by kernel_rfl) (by simp) (AllReady.cons rfl (fun K hK => ?_) AllReady.nil)
              go_simp
              (first | (refine hK _ _ ?_; clear hK K) | skip)
              refine wpAny_ready (rs := [9]) (by kernel_rfl) (by simp) (AllReady.cons rfl (fun K hK => ?_) AllReady.nil)
              refine step_appZ rfl (.tmp 14) (.tmp 22) 27 rfl w.heap.size 37 i0 (.slice none 0 0) 24 Try.underlying27 hi hz0 hz1 hz2 rfl (.slice av vs.length cv) vs.length vs rfl (own_below HI.out.rr.outer (below_trans (below_trans (below_alloc _ _) (below_alloc _ _)) (below_drew _))) ⟨W.heap.size + 1, 0, none⟩ 1 1 [.slice (some ⟨W.heap.size, 0, none⟩) 2 2] rfl rfl (by intro j u hu; cases j with | zero => (simp at hu; subst hu; simp [go_sem, Addr.add]) | succ j => simp at hu) (by simp [Value.oneCell']) (by unfold maxLen; omega) (by omega) (by have := HI.out.bel.size; simp; omega) ?_
              intro v' w3 hown' hgrow hwh
              obtain ⟨q1, q2, q3, q4⟩ := HAPP.out w3 v' _ hown' hgrow hwh
              obtain ⟨g', cap', rfl⟩ := ownsRow_succ hown'
              have hc3 := q1.cell; have hf3 := q1.frozen
              have Q2' := Lib.hid q2; have Q3 := Lib.hid q3; have Q4 := Lib.hid q4; clear q1 q2 q3 q4 hown' hgrow hwh
              (refine hK _ _ ?_; clear hK K)
              refine wpAny_ready (rs := [10]) (by kernel_rfl) (by simp) (AllReady.cons rfl (fun K hK => ?_) AllReady.nil)
              go_simp
              (first | (refine hK _ _ ?_; clear hK K) | skip)
              refine wpAny_done (by kernel_rfl) ?_ _
              simp only [Exit.inBlock]
              exact hQ2 _ _ (Q3.out.from _) Q4.out ⟨_, _, by rw [hsnoc.out]; exact Q2'.out⟩
            · go_simp
              (first | (refine hK _ _ ?_; clear hK K) | skip)
              refine wpAny_ready (rs := [0]) (by kernel_rfl) (by simp) (AllReady.cons rfl (fun K hK => ?_) AllReady.nil)
              go_simp
              (first | (refine hK _ _ ?_; clear hK K) | skip)
              refine wpAny_ready (rs := [9]) (by kernel_rfl) (by simp) (AllReady.cons rfl (fun K hK => ?_) AllReady.nil)
              refine step_appZ rfl (.tmp 14) (.tmp 22) 27 rfl w.heap.size 37 i0 (.slice none 0 0) 24 Try.underlying27 hi hz0 hz1 hz2 rfl (.slice av vs.length cv) vs.length vs rfl (own_below HI.out.rr.outer (below_trans (below_trans (below_alloc _ _) (below_alloc _ _)) (below_drew _))) ⟨W.heap.size + 1, 0, none⟩ 1 1 [.slice (some ⟨W.heap.size, 0, none⟩) 2 2] rfl rfl (by intro j u hu; cases j with | zero => (simp at hu; subst hu; simp [go_sem, Addr.add]) | succ j => simp at hu) (by simp [Value.oneCell']) (by unfold maxLen; omega) (by omega) (by have := HI.out.bel.size; simp; omega) ?_
              intro v' w3 hown' hgrow hwh
              obtain ⟨q1, q2, q3, q4⟩ := HAPP.out w3 v' _ hown' hgrow hwh
              obtain ⟨g', cap', rfl⟩ := ownsRow_succ hown'
              have hc3 := q1.cell; have hf3 := q1.frozen
              have Q2' := Lib.hid q2; have Q3 := Lib.hid q3; have Q4 := Lib.hid q4; clear q1 q2 q3 q4 hown' hgrow hwh
              (refine hK _ _ ?_; clear hK K)
              refine wpAny_ready (rs := [10]) (by kernel_rfl) (by simp) (AllReady.cons rfl (fun K hK => ?_) AllReady.nil)
              go_simp
              (first | (refine hK _ _ ?_; clear hK K) | skip)
              refine wpAny_done (by kernel_rfl) ?_ _
              simp only [Exit.inBlock]
              exact hQ2 _ _ (Q3.out.from _) Q4.out ⟨_, _, by rw [hsnoc.out]; exact Q2'.out⟩
    case done =>
      rintro D W hD ⟨v, vs, inv⟩ hK
      have HKK := Lib.hid hK; have HI := Lib.hid inv
      have hc0 : W.cell? ⟨w.heap.size + 1, 0, none⟩ = some v := inv.box.cell
      obtain ⟨av, cv, rfl⟩ := own_slice inv.rr.outer
      clear inv hK
      go_wp2_with fail
      (try simp only [Exit.inBlock, Exit.then])
      have hD2 : w.heap.size ≤ D := by have := HS2.out; omega
      refine hQ.marked _ _ D _ rfl HKK.out (results_tmp2 rfl _ _ _) ⟨_, vs, by rw [HG.out]; rfl, ?_, below_mark HI.out.bel hD2 HKK.out⟩
      rw [HG.out, if_pos rfl, HROW.out]
      exact ownsRR_putObj HI.out.rr (.deferred none) HKK.out rfl
end Go.Proofs.Ytmlghonidheidaa
