/- Chapter 9: checkSaid. -/
import Derived.Test.YtplcdofpikdigaaDooro4
import Derived.Test.YtplcdofpikdigaaDooro1
import Derived.Lib.Strings
namespace Go.Proofs.YtplcdofpikdigaaDoor
open Go.RowKit Go.BigFrame Go.Shelf
set_option linter.unusedSimpArgs false
set_option linter.unusedVariables false
set_option maxRecDepth 4000
attribute [local go_sem] Oper.semAt_some
attribute [local irreducible] wpStill

theorem wpFn_cut {f : FuncId} {n : Nat} {P : Program} {x y : Code} {Q : Exit → Act → World → Prop} {a : Act} {w : World} (K : Act → World → Prop) (hx : x.wp P (Exit.then K Q) a w) (hy : ∀ a w, K a w → wpFn f n P y Q a w) : wpFn f n P (Code.seq x y) Q a w :=
  wpFn_seq (wpFn_of_wp (Code.wp_mono (fun e a w h => by cases e <;> first | exact hy _ _ h | exact h) hx))
theorem wpFn_block {f : FuncId} {n : Nat} {P : Program} {id : Nat} {c : Code} {Q : Exit → Act → World → Prop} {a : Act} {w : World} (h : wpFn f n P c (Exit.inBlock id Q) a w) : wpFn f n P (Code.block id c) Q a w := by
  intro b k cs hro hb
  have h0 : (lone (b.atR a (.code (.block id c) :: k)) cs w).fenced P Fence.wide := fenced_calm (F := Fence.wide) (n := n) trivial (room_wide _) rfl
  obtain ⟨e, a₁, w₁, hq, harr⟩ := h b (.inBlock id :: k) cs hro hb
  cases e with
  | normal => exact ⟨.normal, a₁, w₁, hq, .head h0 stepR_block (StepsIn.trans harr (.one (fenced_calm (F := Fence.wide) (n := n) trivial (room_wide _) rfl) stepR_inBlock))⟩
  | exit id' =>
    by_cases hid : id' = id
    · simp only [Exit.inBlock, hid, if_true] at hq
      exact ⟨.normal, a₁, w₁, hq, .head h0 stepR_block (harr.1 k (by simp [exitTo, hid]))⟩
    · simp only [Exit.inBlock, hid, if_false] at hq
      have this : (id == id') = false := by simp; exact fun h => hid h.symm
      have hx : exitTo id' (.inBlock id :: k) = exitTo id' k := by simp [exitTo, this]
      exact ⟨.exit id', a₁, w₁, hq, fun k' hk => .head h0 stepR_block (harr.1 k' (by rw [hx]; exact hk)),
        fun hr' hk => let ⟨k₁, h1, h2⟩ := harr.2 hr' (by rw [hx]; exact hk); ⟨k₁, h1, .head h0 stepR_block h2⟩⟩
  | goto l =>
    have hx : gotoIn l (.inBlock id :: k) = gotoIn l k := by simp [gotoIn]
    exact ⟨_, a₁, w₁, hq, fun k' hk => .head h0 stepR_block (harr.1 k' (by rw [hx]; exact hk)),
      fun hr' hk => let ⟨k₁, h1, h2⟩ := harr.2 hr' (by rw [hx]; exact hk); ⟨k₁, h1, .head h0 stepR_block h2⟩⟩
  | ret => exact ⟨_, a₁, w₁, hq, .of_steps (.one h0 stepR_block) harr⟩
  | panic ch => exact ⟨_, a₁, w₁, hq, .of_steps (.one h0 stepR_block) harr⟩
  | outgrown => exact ⟨_, a₁, w₁, hq, .of_steps (.one h0 stepR_block) harr⟩

/-- A region in a round: its beginning only reads, its end is forced. -/
theorem region_round_tail {lp nn id : Nat} {Q : Exit → Act → World → Prop} {a : Act} {w : World} {l : List Oper} (n : Nat) (hB : Region.lexTailB .any l.toArray n = true) (hnd : noDefers l.toArray = true) (hno : ¬ LetsOut Q)
    (h : wpStill Tryd.prog l.toArray { w with drawn := w.drawn + 1 } (fun a' => wpList Tryd.prog l.toArray Q (l.drop n) a' { w with drawn := w.drawn + 1 }) (l.take n) a) : (Code.region id l.toArray true).wpIn (Fence.wide.inRound lp) nn Tryd.prog Q a w := by
  simp only [Region.lexTailB, Bool.and_eq_true, decide_eq_true_eq] at hB
  obtain ⟨⟨⟨⟨hsel, hn⟩, hs⟩, hc⟩, hlex⟩ := hB
  have hn' : n < l.length := by simpa using hn
  have htl : (l.take n).length = n := by simp; omega
  have hdl : (l.drop n).length = l.toArray.size - n := by simp
  have inv0 : HeadInv .any l.toArray n (Array.replicate l.toArray.size false) :=
    ⟨by simp, fun j oj _ hl => (by rw [getD_replicate_false] at hl; cases hl), fun t _ ht => getD_in (by simpa using ht) (getD_replicate_false _ _)⟩
  have H := wpAnyL_lex (md := .any) (g := l.toArray.size - n) hsel hs hc hn (l.take n) 0 _ a (fun j hj => by
    have hj' : j < n := by rw [htl] at hj; exact hj
    simp [hj']) (by simpa using htl) inv0 (by rw [htl]; exact hlex) h
  refine region_round hnd hno ?_
  have := wpAny_of_head (Q' := Q) (g := l.toArray.size - n) (fun listed a' hL => by
    have := wpAny_of_seq (md := .any) (Q' := Q) (l.drop n) n listed a' { w with drawn := w.drawn + 1 } (fun j => by simp [List.getElem?_drop]) (by rw [hdl]; exact hL.1) hL.2
    rwa [hdl] at this) _ _ _ H
  rw [htl, show n + (l.toArray.size - n) = l.toArray.size by omega] at this
  exact this

theorem signOf_m (q : Nat) (w : World) (h : q ≤ 9) : Calls Tryd.prog 60 #[.int .i64 (q : Int)] w fun e w' => e = .returned (.int .u8 (48 + (q : Int))) ∧ w' = w := by
  go_enter Tryd.func60, Tryd.ntmps60
  go_wp2
  go_ret
  exact ⟨rfl, rfl⟩

/-- A run fits what is told of it. -/
def rnOk (S : List UInt8) (rs : List (UInt8 × Nat)) (m : Nat) : Prop := ∀ j (h : j < rs.length), j < m → 2 * j + 1 < S.length ∧ agB (S.getD (2 * j) 0) (nDig rs[j].2) = true ∧ agB (S.getD (2 * j + 1) 0) rs[j].1 = true
/-- What checkSaid answers. -/
def SaidPost (l W S : List UInt8) (D : Int) (e : Ending) : Prop :=
  (e = .returned (.tuple #[]) ∧ S.length = 2 * (runsL l).length ∧ rnOk S (runsL l) (runsL l).length) ∨ (∃ k, k < l.length ∧ e = .panicked (misV k) ∧ solB W S D l = false ∧ NoSol W S D l k)
/-- A box with one cell. -/
def OneAt (w : World) (g : Nat) (a : Value) (T : TypeId) : Prop := w.heap[g]? = some (.cells #[a] T (0, 0))
theorem OneAt.cell {w : World} {g : Nat} {a : Value} {T : TypeId} (h : OneAt w g a T) : w.cell? ⟨g, 0, none⟩ = some a := by
  unfold OneAt at h; simp only [World.cell?, h]; rfl
theorem OneAt.frozen {w : World} {g : Nat} {a : Value} {T : TypeId} (h : OneAt w g a T) : w.frozen? ⟨g, 0, none⟩ = false := by
  unfold OneAt at h; simp only [World.frozen?, h]; simp
theorem OneAt.lt {w : World} {g : Nat} {a : Value} {T : TypeId} (h : OneAt w g a T) : g < w.heap.size := (Array.getElem?_eq_some_iff.1 h).1
theorem OneAt.below {w w' : World} {g : Nat} {a : Value} {T : TypeId} (h : OneAt w g a T) (hb : Below w.heap.size w w') : OneAt w' g a T := (hb.block g h.lt).trans h

theorem OneAt.set {w : World} {g : Nat} {a : Value} {T : TypeId} (h : OneAt w g a T) (b : Value) : OneAt (w.setCell ⟨g, 0, none⟩ b) g b T := by
  have := Boxed.set b (show Boxed w g T a from h)
  exact this
theorem OneAt.other {w : World} {g : Nat} {a : Value} {T : TypeId} (h : OneAt w g a T) {p : Addr} (v : Value) (hp : g ≠ p.block) : OneAt (w.setCell p v) g a T := (Below.heap_setCell _ _ _ _ hp).trans h
theorem bytes_toListP (x : ByteArray) : x.toList = x.data.toList := by
  exact Go.Lib.toList_data x
theorem toList_bs (l : List UInt8) : (bs l).toList = l := by
  rw [bytes_toListP]
  exact bs_list l
theorem oneAt_new (w : World) (a : Value) (T : TypeId) : OneAt (w.alloc (.cells #[a] T)) w.heap.size a T := heap_alloc_new w _
theorem two_boxes (w : World) (P : Obj) (t x y : Value) (T T1 T2 : TypeId) :
    OneAt ((((w.alloc P).alloc (.cells #[t] T)).alloc (.cells #[x] T1)).alloc (.cells #[y] T2)).drew (w.heap.size + 1) t T ∧
    OneAt ((((w.alloc P).alloc (.cells #[t] T)).alloc (.cells #[x] T1)).alloc (.cells #[y] T2)).drew (w.heap.size + 1 + 1) x T1 ∧
    OneAt ((((w.alloc P).alloc (.cells #[t] T)).alloc (.cells #[x] T1)).alloc (.cells #[y] T2)).drew (w.heap.size + 1 + 1 + 1) y T2 ∧
    Below w.heap.size w ((((w.alloc P).alloc (.cells #[t] T)).alloc (.cells #[x] T1)).alloc (.cells #[y] T2)).drew := by
  have a1 := oneAt_new (w.alloc P) t T
  have a2 := oneAt_new ((w.alloc P).alloc (.cells #[t] T)) x T1
  have a3 := oneAt_new (((w.alloc P).alloc (.cells #[t] T)).alloc (.cells #[x] T1)) y T2
  simp only [World.size_alloc] at a1 a2 a3
  have c1 := (a1.below (below_alloc _ (.cells #[x] T1))).below (below_alloc _ (.cells #[y] T2))
  have c2 := a2.below (below_alloc _ (.cells #[y] T2))
  have d := ((((Below.refl _ w).alloc (Nat.le_refl _) P).alloc (by simp) (.cells #[t] T)).alloc (by simp; omega) (.cells #[x] T1)).alloc (by simp; omega) (.cells #[y] T2)
  exact ⟨c1, c2, a3, d.drew⟩
theorem mustFit_falseZ (k : Int) (w : World) : Calls Tryd.prog 80 #[.bool false, .int .i64 k] w fun e w' => e = .panicked [{ v := .iface 73 (.int .i64 k), recovered := false }] ∧ w = w' := by
  go_enter Tryd.func80, Tryd.ntmps80
  go_wp2_with fail
  exact ⟨rfl, rfl, rfl⟩

set_option maxRecDepth 100000 in
set_option maxHeartbeats 4000000 in
theorem checkSaid_any (l W S : List UInt8) (D : Int) (w : World) (h1 : 1 ≤ l.length) (h8 : l.length ≤ 8) (hS : S.length ≤ 16) (hS2 : S.length % 2 = 0) (hd : l.all digB = true) :
    Calls Tryd.prog 73 #[pzV W S D, .string (bs l)] w fun e w' => SaidPost l W S D e ∧ Below w.heap.size w w' := by
  unfold pzV
  obtain ⟨t, ht⟩ : ∃ t, t = bs l := ⟨_, rfl⟩
  obtain ⟨u, hu⟩ : ∃ u, u = bs W := ⟨_, rfl⟩
  obtain ⟨v, hv⟩ : ∃ v, v = bs S := ⟨_, rfl⟩
  rw [← ht, ← hu, ← hv]
  obtain ⟨PST, hPST⟩ : ∃ PST : Ending → Prop, PST = SaidPost l W S D := ⟨_, rfl⟩
  rw [← hPST]
  have HT := Lib.hid ht; have HV := Lib.hid hv; have HPST := Lib.hid hPST
  clear ht hu hv hPST
  refine calls_marksP Tryd.func73 rfl fun Q hQ hQn => ?_
  simp only [Tryd.ntmps73, List.size_toArray, List.length_cons, List.length_nil, Nat.reduceAdd, Nat.reduceSub, Array.replicate_succ, Array.replicate_zero, List.push_toArray, List.append_toArray, List.nil_append, List.cons_append]
  have HQ := Lib.hid hQ; have HQN := Lib.hid hQn
  clear hQ hQn
  refine wpFn_seq (wpFn_of_wp ?_)
  go_wp2_with fail
  refine wpFn_cut (fun a W1 => ∃ st lf, a = { tmps := #[.agg #[.string u, .string v, .int .i64 D], .string t, .pointer (some ⟨w.heap.size, 0, none⟩), .pointer (some ⟨w.heap.size + 1, 0, none⟩), .pointer (some ⟨st, 0, none⟩), .pointer (some ⟨lf, 0, none⟩), undef, undef, .pointer (some ⟨w.heap.size, 1, none⟩), .string v, undef, undef, undef, undef, undef, undef, undef, undef, undef, undef, undef, undef, undef, undef, undef, undef, undef, undef, undef, undef, undef, undef, undef, undef, undef, undef, undef, undef, undef, undef, undef, undef, undef, undef, undef, undef, undef, undef, undef, undef, undef], defers := [] } ∧ w.heap.size ≤ st ∧ w.heap.size ≤ lf ∧ st ≠ lf ∧ st ≠ w.heap.size + 1 ∧ lf ≠ w.heap.size + 1 ∧ OneAt W1 st (.int .i64 0) 3 ∧ OneAt W1 lf (.string v) 9 ∧ OneAt W1 (w.heap.size + 1) (.string t) 9 ∧ Below w.heap.size w W1) ?_ ?_
  · go_wp2_with fail
    go_region
    · obtain ⟨k1, k2, k3, k4⟩ := two_boxes w (.cells #[.string u, .string v, .int .i64 D] 28) (.string t) (.int .i64 0) (.string v) 9 3 9
      exact ⟨_, _, rfl, by omega, by omega, by omega, by omega, by omega, k2, k3, k1, k4⟩
    · obtain ⟨k1, k2, k3, k4⟩ := two_boxes w (.cells #[.string u, .string v, .int .i64 D] 28) (.string t) (.string v) (.int .i64 0) 9 9 3
      exact ⟨_, _, rfl, by omega, by omega, by omega, by omega, by omega, k3, k2, k1, k4⟩
  · rintro a W1 ⟨st, lf, rfl, b1, b2, hne, n2, n3, o1, o2, o3, bb⟩
    have O1 := Lib.hid o1; have O2 := Lib.hid o2; have O3 := Lib.hid o3; have BB := Lib.hid bb
    have k3 := o3.cell
    have m1 := o1.lt; have m2 := o2.lt; have m3 := o3.lt
    clear o1 o2 o3 bb
    have htn : t.size = l.length := by rw [HT.out, bs_size]
    have htm : t.size ≤ maxLen := by unfold maxLen; omega
    refine wpFn_seq (wpFn_seq (wpFn_of_wp ?_))
    go_wp2_with (refine wpList_bytes _ rfl 9 52 _ rfl 5 Tryd.underlying9 Tryd.underlying52 Tryd.underlying5 t rfl htm ?_; intro w2 cap hb hsz hcap hcm hcell hfr)
    have HC := Lib.hid hcell; have HB := Lib.hid hb
    clear hcell hfr hb
    go_wp2_with fail
    refine (runParts_is _ _ _ _).mono ?_
    rintro e w3 ⟨rfl, hw3⟩
    have hBs : w3.cell? ⟨w2.heap.size, 0, none⟩ = some (.slice (some ⟨W1.heap.size, 0, none⟩) l.length cap) := by rw [hw3]; exact (oneAt_new w2 _ _).cell
    have hb13 : Below W1.heap.size W1 w3 := by rw [hw3]; exact below_trans HB.out (below_alloc _ _)
    have hs3 : w3.heap.size = w2.heap.size + 1 := by rw [hw3]; simp
    obtain ⟨gr, hgr⟩ : ∃ gr, w3.heap[W1.heap.size]? = some gr := by
      have : W1.heap.size < w3.heap.size := by omega
      exact ⟨_, Array.getElem?_eq_getElem this⟩
    have hgc : ∀ i (h : i < l.length), w3.cell? ⟨W1.heap.size, i, none⟩ = some (.int .u8 (l[i].toNat : Int)) := fun i h => by
      rw [hw3]
      refine ((below_alloc w2 _).cell (p := ⟨W1.heap.size, i, none⟩) hsz).trans ?_
      rw [HC.out i (by omega)]
      have e : ∀ (t : ByteArray) (h2 : i < t.size), t = bs l → t[i] = l[i] := fun t h2 e => by subst e; rfl
      rw [e t (by omega) HT.out]
    have O1 := Lib.hid (O1.out.below hb13); have O2 := Lib.hid (O2.out.below hb13); have O3 := Lib.hid (O3.out.below hb13)
    have BB := Lib.hid (BB.out.trans (hb13.mono BB.out.size))
    have l1 := O1.out.lt; have l2 := O2.out.lt; have l3 := O3.out.lt
    obtain ⟨rs, hrs⟩ : ∃ rs, rs = runsL l := ⟨_, rfl⟩
    have HRS := Lib.hid hrs; have HGC := Lib.hid hgc; have HBS := Lib.hid hBs; have HGR := Lib.hid hgr; have HS3 := Lib.hid hs3
    have hgl : W1.heap.size < w3.heap.size := by omega
    have hbl : w2.heap.size < w3.heap.size := by omega
    clear hrs hgc hBs hgr hs3 hb13 hw3 HB HC k3
    generalize hgg : W1.heap.size = g at *
    generalize hbb : w2.heap.size = Bs at *
    go_wp2_with fail
    refine wpFn_block ?_
    refine wp_partsP Tryd.func73 l rs HRS.out Bs g cap h1 (by omega) (by omega) hcm hbl hgl HBS.out HGC.out rfl
      (fun m W => OneAt W st (.int .i64 (cntR (rs.take m) : Int)) 3 ∧ OneAt W lf (.string (bs (S.drop (2 * m)))) 9 ∧ OneAt W (w.heap.size + 1) (.string t) 9 ∧ W.heap[g]? = some gr ∧ Below w.heap.size w W ∧ rnOk S rs m)
      (OwnFrom.and (ownFrom_block _ l1) (OwnFrom.and (ownFrom_block _ l2) (OwnFrom.and (ownFrom_block _ l3) (OwnFrom.and (ownFrom_block _ hgl) (OwnFrom.and (ownFrom_below (Nat.le_refl _) BB.out.size) (fun _ _ _ _ h _ _ => h))))))
      (fun ch X => (∃ k, k < l.length ∧ ch = misV k ∧ solB W S D l = false ∧ NoSol W S D l k) ∧ Below w.heap.size w X)
      ?start (fun x => { tmps := #[.agg #[.string u, .string v, .int .i64 D], .string t, .pointer (some ⟨w.heap.size, 0, none⟩), .pointer (some ⟨w.heap.size + 1, 0, none⟩), .pointer (some ⟨st, 0, none⟩), .pointer (some ⟨lf, 0, none⟩), .slice (some ⟨g, cntR (rs.take x), none⟩) rs[x].2 rs[x].2, undef, .pointer (some ⟨w.heap.size, 1, none⟩), .string v, .string t, .slice (some ⟨g, 0, none⟩) l.length cap, .func (.func 74) #[] #[.pointer (some ⟨Bs, 0, none⟩)], .slice (some ⟨g, cntR (rs.take x), none⟩) rs[x].2 rs[x].2, undef, undef, undef, undef, undef, undef, undef, undef, undef, undef, undef, undef, undef, undef, undef, undef, undef, undef, undef, undef, undef, undef, undef, undef, undef, undef, undef, undef, undef, undef, undef, undef, undef, undef, undef, undef, undef], defers := [] }) ?assign ?body ?done ?panic
    case start =>
      refine ⟨?_, ?_, O3.out, HGR.out, BB.out, fun j h hj => by omega⟩
      · exact O1.out
      · have := O2.out; rw [HV.out] at this; exact this
    case assign =>
      intro lp x W K hK
      simp only [List.setIfInBounds_toArray, List.set_cons_succ, List.set_cons_zero]
      gi_wp2
      exact hK
    case body =>
      rintro lp m hm X Q2 hno hQ2 hP2 ⟨o1, o2, o3, og, bx, hk⟩
      have HQ2 := Lib.hid hQ2; have HP2 := Lib.hid hP2; have HNO := Lib.hid hno
      have HOG := Lib.hid og
      have HBX := Lib.hid bx; have HKK := Lib.hid hk; have HM := Lib.hid hm
      have p1 := o1.cell; have p2 := o2.cell; have p3 := o3.cell; have q1 := o1.frozen; have q2 := o2.frozen
      have O1x := Lib.hid o1; have O2x := Lib.hid o2; have O3x := Lib.hid o3
      have hwd : WdP l.length l := ⟨rfl, hd⟩
      have hml : m < (runsL l).length := by rw [← HRS.out]; exact hm
      have hrun := wd_runs hwd h1 h8 rs[m] (by have e := HRS.out; rw [← e]; exact List.getElem_mem hm)
      obtain ⟨hd1, hd2, hq1, hq9⟩ := hrun
      have hc : X.cell? ⟨g, cntR (rs.take m), none⟩ = some (.int .u8 (rs[m].1.toNat : Int)) := by
        have hgt := runs_get l m hml
        have e := HRS.out
        subst e
        have hlo := get_lt hgt
        rw [List.getElem?_eq_getElem hlo] at hgt
        refine (World.cell?_of_block (w := w3) (og.trans HGR.out.symm)).trans ?_
        rw [HGC.out _ hlo, Option.some.inj hgt]
        rfl
      have hct : cntR (rs.take (m + 1)) = cntR (rs.take m) + rs[m].2 := cntR_take_succ hm
      have hcl : cntR (rs.take (m + 1)) ≤ l.length := by
        have := cntR_take_le rs (m + 1)
        rw [HRS.out, cntR_runs] at this
        rw [HRS.out]; exact this
      have HBR : Hid (¬ (2 * m + 1 < S.length ∧ agB (S.getD (2 * m + 1) 0) rs[m].1 = true) → solB W S D l = false ∧ NoSol W S D l (cntR (rs.take m))) := Lib.hid (by
        have e := HRS.out; subst e; exact bad_run hwd h1 h8 hml)
      have HBC : Hid (¬ (agB (S.getD (2 * m) 0) (nDig rs[m].2) = true) → solB W S D l = false ∧ NoSol W S D l (min (cntR (rs.take (m + 1))) (l.length - 1))) := Lib.hid (by
        have e := HRS.out; subst e; exact bad_count hwd h1 h8 hml)
      have HNX : Hid (2 * m + 1 < S.length → agB (S.getD (2 * m) 0) (nDig rs[m].2) = true → agB (S.getD (2 * m + 1) 0) rs[m].1 = true → rnOk S rs (m + 1)) := Lib.hid (fun a1 a2 a3 j h hj => by
        by_cases hjm : j < m
        · exact hk j h hjm
        · have e : j = m := by omega
          subst e; exact ⟨a1, a2, a3⟩)
      have hnd : ((nDig rs[m].2).toNat : Int) = 48 + (rs[m].2 : Int) := by rw [nDig_nat hq9]; omega
      have HAG1 := Lib.hid (fun (W0 : World) => (agrees_any (S.getD (2 * m + 1) 0) rs[m].1 W0).mono (R' := fun e w' => e = .returned (.bool (agB (S.getD (2 * m + 1) 0) rs[m].1)) ∧ w' = W0) (fun e w' h => ⟨h.1, h.2.symm⟩))
      have hag0 := (fun (W0 : World) => (agrees_any (S.getD (2 * m) 0) (nDig rs[m].2) W0).mono (R' := fun e w' => e = .returned (.bool (agB (S.getD (2 * m) 0) (nDig rs[m].2))) ∧ w' = W0) (fun e w' h => ⟨h.1, h.2.symm⟩))
      rw [hnd] at hag0
      have HAG0 := Lib.hid hag0
      have HSG := Lib.hid (fun (W0 : World) => signOf_m rs[m].2 W0 hq9)
      have HDR : Hid ((bs (S.drop (2 * m))).extract 2 (bs (S.drop (2 * m))).size = bs (S.drop (2 * (m + 1)))) := Lib.hid (by
        apply bs_eq
        rw [list_extract, bs_list, bs_size, List.drop_drop, List.take_of_length_le (by rw [List.length_drop, List.length_drop]; omega)]
        rfl)
      obtain ⟨z, hz⟩ : ∃ z, z = bs (S.drop (2 * m)) := ⟨_, rfl⟩
      have hzn : z.size = S.length - 2 * m := by rw [hz, bs_size, List.length_drop]
      have hz0 : ∀ h : 0 < z.size, z[0] = S.getD (2 * m) 0 := fun h => by
        subst hz; rw [bs_size, List.length_drop] at h
        have : 2 * m < S.length := by omega
        rw [getD_lt this]
        show (S.drop (2 * m))[0]'(by rw [List.length_drop]; omega) = _
        rw [List.getElem_drop]; rfl
      have hz1 : ∀ h : 1 < z.size, z[1] = S.getD (2 * m + 1) 0 := fun h => by
        subst hz; rw [bs_size, List.length_drop] at h
        have : 2 * m + 1 < S.length := by omega
        rw [getD_lt this]
        show (S.drop (2 * m))[1]'(by rw [List.length_drop]; omega) = _
        rw [List.getElem_drop]
      have hze : z.toList.isEmpty = decide (S.length ≤ 2 * m) := by
        have e : z.toList = S.drop (2 * m) := by rw [hz]; exact toList_bs _
        rw [e, Bool.eq_iff_iff, List.isEmpty_iff, List.drop_eq_nil_iff, decide_eq_true_eq]
      have HZB := Lib.hid hz
      rw [← hz] at p2 HDR
      obtain ⟨z', hz'⟩ : ∃ z', z' = bs (S.drop (2 * (m + 1))) := ⟨_, rfl⟩
      rw [← hz'] at HDR
      have HZ' := Lib.hid hz'
      obtain ⟨o, ho⟩ : ∃ o, o = cntR (rs.take m) := ⟨_, rfl⟩
      obtain ⟨c1, hc1⟩ : ∃ c1, c1 = cntR (rs.take (m + 1)) := ⟨_, rfl⟩
      obtain ⟨n1, hn1⟩ : ∃ n1, n1 = l.length - 1 := ⟨_, rfl⟩
      rw [← ho] at p1 hc hct HBR
      rw [← hc1] at hct hcl HBC
      rw [← hn1] at HBC
      have HO := Lib.hid ho; have HC1 := Lib.hid hc1; have HN1 := Lib.hid hn1
      clear hz hz' ho hc1 hn1 o1 o2 o3 og bx hk hQ2 hP2 hno hml hag0 hnd hd1 hd2
      simp only [Fin.getElem_fin, ← HO.out]
      gi_wp2_with fail
      have hol : o < l.length := by omega
      by_cases hem : S.length ≤ 2 * m
      · have hzE : z.toList.isEmpty = true := by rw [hze]; simpa using hem
        have HB0 := Lib.hid (HBR.out (by omega))
        clear hze
        refine region_round_tail 11 (by kernel_rfl) (by kernel_rfl) (fun ⟨a, w, h⟩ => HNO.out ⟨a, w, h⟩) ?_
        simp only [List.take_succ_cons, List.take_zero, List.drop_succ_cons, List.drop_zero]
        repeat still_step
        refine wpStill_nil ?_
        change wpList _ _ _ _ _ X.drew
        have HK1 : Hid (KeepsFrom w3.heap.size X X.drew) := Lib.hid ((KeepsOthers.drew X).from _)
        have HB1 : Hid (Below w.heap.size w X.drew) := Lib.hid HBX.out.drew
        generalize X.drew = X1 at *
        go_wp2_with fail
        refine (mustFit_falseZ (o : Int) _).mono ?_
        rintro e w5 ⟨rfl, rfl⟩
        exact HP2.out _ _ _ rfl HK1.out ⟨⟨o, hol, rfl, HB0.out⟩, HB1.out⟩
      · have hzE : z.toList.isEmpty = false := by rw [hze]; simpa using hem
        have h0s : 0 < z.size := by omega
        have h1s : 1 < z.size := by omega
        have h0z : (0 : Int) < (z.size : Int) := by omega
        have h1z : (1 : Int) < (z.size : Int) := by omega
        have e0 : z[0] = S.getD (2 * m) 0 := hz0 h0s
        have e1 : z[1] = S.getD (2 * m + 1) 0 := hz1 h1s
        have hsl : 2 * m + 1 < S.length := by omega
        clear hze hz0 hz1 hzn
        generalize S.getD (2 * m) 0 = s0 at *
        generalize S.getD (2 * m + 1) 0 = s1 at *
        generalize rs[m].2 = q at *
        generalize rs[m].1 = d at *
        have hq0 : 0 < q := by omega
        have hqz : (0 : Int) < (q : Int) := by omega
        obtain ⟨a1, ha1⟩ : ∃ a1, a1 = agB s1 d := ⟨_, rfl⟩
        obtain ⟨a0, ha0⟩ : ∃ a0, a0 = agB s0 (nDig q) := ⟨_, rfl⟩
        rw [← ha1] at HAG1 HBR HNX
        rw [← ha0] at HAG0 HBC HNX
        clear ha1 ha0
        refine region_round_tail 11 (by kernel_rfl) (by kernel_rfl) (fun ⟨a, w, h⟩ => HNO.out ⟨a, w, h⟩) ?_
        simp only [List.take_succ_cons, List.take_zero, List.drop_succ_cons, List.drop_zero]
        repeat still_step
        still_call (HAG1.out _)
        repeat still_step
        refine wpStill_nil ?_
        change wpList _ _ _ _ _ X.drew
        have HK1 : Hid (KeepsFrom w3.heap.size X X.drew) := Lib.hid ((KeepsOthers.drew X).from _)
        have HB1 : Hid (Below w.heap.size w X.drew) := Lib.hid HBX.out.drew
        have HE1 : Hid (X.drew.heap = X.heap) := Lib.hid rfl
        have r2 : X.drew.cell? ⟨lf, 0, none⟩ = some (.string z) := p2
        have r3 : X.drew.cell? ⟨w.heap.size + 1, 0, none⟩ = some (.string t) := p3
        generalize X.drew = X1 at *
        cases a1 with
        | false =>
          have HB0 := Lib.hid (HBR.out (by simp))
          go_wp2_with fail
          refine (mustFit_falseZ (o : Int) _).mono ?_
          rintro e w5 ⟨rfl, rfl⟩
          exact HP2.out _ _ _ rfl HK1.out ⟨⟨o, hol, rfl, HB0.out⟩, HB1.out⟩
        | true =>
          clear p2 p3
          go_wp2_with fail
          refine (mustFit_true (o : Int) _).mono ?_
          rintro e w5 ⟨rfl, rfl⟩
          go_wp2_with fail
          gi_wp2_with fail
          have hdr := HDR.out
          have hwn : IntKind.i64.wrap ((l.length : Int) - 1) = (l.length : Int) - 1 := by rw [IntKind.wrap_i64]; omega
          have h2s : 2 ≤ z.size := by omega
          have h2z : (2 : Int) ≤ (z.size : Int) := by omega
          by_cases hmin : (o : Int) + (q : Int) ≤ (l.length : Int) - 1
          · have ek : ((min c1 n1 : Nat) : Int) = (o : Int) + (q : Int) := by have := HN1.out; omega
            have hkl : min c1 n1 < l.length := by have := HN1.out; omega
            refine region_round_tail 11 (by kernel_rfl) (by kernel_rfl) (fun ⟨a, w, h⟩ => HNO.out ⟨a, w, h⟩) ?_
            simp only [List.take_succ_cons, List.take_zero, List.drop_succ_cons, List.drop_zero]
            repeat still_step
            still_call (HSG.out _)
            repeat still_step
            still_call (HAG0.out _)
            repeat still_step
            refine wpStill_nil ?_
            change wpList _ _ _ _ _ X1.drew
            have HK2 : Hid (KeepsFrom w3.heap.size X X1.drew) := Lib.hid (HK1.out.trans ((KeepsOthers.drew X1).from _))
            have HB2 : Hid (Below w.heap.size w X1.drew) := Lib.hid HB1.out.drew
            have HE2 : Hid (X1.drew.heap = X.heap) := Lib.hid HE1.out
            have r4 : X1.drew.cell? ⟨lf, 0, none⟩ = some (.string z) := r2
            generalize X1.drew = X2 at *
            cases a0 with
            | false =>
              have HB0 := Lib.hid (HBC.out (by simp))
              go_wp2_with fail
              refine (mustFit_falseZ _ _).mono ?_
              rintro e w5 ⟨rfl, rfl⟩
              exact HP2.out _ _ _ rfl HK2.out ⟨⟨min c1 n1, hkl, by unfold misV; rw [ek], HB0.out⟩, HB2.out⟩
            | true =>
              have HNX2 := Lib.hid (HNX.out hsl (by simp) (by simp))
              go_wp2_with fail
              refine (mustFit_true _ _).mono ?_
              rintro e w5 ⟨rfl, rfl⟩
              go_wp2_with fail
              gi_wp2_with fail
              refine region_round (by kernel_rfl) (fun ⟨a, w, h⟩ => HNO.out ⟨a, w, h⟩) ?_
              have HK3 : Hid (KeepsFrom w3.heap.size X X2.drew) := Lib.hid (HK2.out.trans ((KeepsOthers.drew X2).from _))
              have HB3 : Hid (Below w.heap.size w X2.drew) := Lib.hid HB2.out.drew
              have HE3 : Hid (X2.drew.heap = X.heap) := Lib.hid HE2.out
              have O1y : OneAt X2.drew st (.int .i64 (o : Int)) 3 := by have h := O1x.out; rw [← HO.out] at h; unfold OneAt; rw [HE3.out]; exact h
              have O2y : OneAt X2.drew lf (.string z) 9 := by have h := O2x.out; rw [← HZB.out] at h; unfold OneAt; rw [HE3.out]; exact h
              have O3y : OneAt X2.drew (w.heap.size + 1) (.string t) 9 := by unfold OneAt; rw [HE3.out]; exact O3x.out
              generalize X2.drew = X3 at *
              have g1 := O1y.frozen; have g2 := O2y.frozen; have g3 := O1y.cell; have g4 := O2y.cell
              have HY1 := Lib.hid O1y; have HY2 := Lib.hid O2y; have HY3 := Lib.hid O3y
              clear O1y O2y O3y
              have hne' : lf ≠ st := fun e => hne e.symm
              have HFIN : Hid (∀ a', Q2 .normal a' ((X3.setCell ⟨st, 0, none⟩ (.int .i64 ((o : Int) + (q : Int)))).setCell ⟨lf, 0, none⟩ (.string z'))) := Lib.hid (fun a' => by
                have hf : ∀ k, k ≠ st → k ≠ lf → ((X3.setCell ⟨st, 0, none⟩ (.int .i64 ((o : Int) + (q : Int)))).setCell ⟨lf, 0, none⟩ (.string z')).heap[k]? = X.heap[k]? := fun k h1 h2 => by
                  rw [Below.heap_setCell _ _ _ _ h2, Below.heap_setCell _ _ _ _ h1, HE3.out]
                refine HQ2.out _ _ (HK3.out.trans (((KeepsOthers.setCell _ _ _).trans (KeepsOthers.setCell _ _ _)).from _)) ⟨hf _ (by omega) (by omega), hf _ (by omega) (by omega)⟩ ⟨?_, ?_, (HY3.out.other _ (by show w.heap.size + 1 ≠ st; omega)).other _ (by show w.heap.size + 1 ≠ lf; omega), (hf _ (by omega) (by omega)).trans HOG.out, (HB3.out.setCell (p := ⟨st, 0, none⟩) b1 _).setCell (p := ⟨lf, 0, none⟩) b2 _, HNX2.out⟩
                · have h := (HY1.out.set (.int .i64 ((o : Int) + (q : Int)))).other (p := ⟨lf, 0, none⟩) (.string z') (by show st ≠ lf; exact hne)
                  rw [← HC1.out, show ((c1 : Nat) : Int) = (o : Int) + (q : Int) by omega]
                  exact h
                · have h := (HY2.out.other (p := ⟨st, 0, none⟩) (.int .i64 ((o : Int) + (q : Int))) (by show lf ≠ st; exact hne')).set (.string z')
                  rw [← HZ'.out]
                  exact h)
              refine wpAny_ready (rs := [0, 1]) (by kernel_rfl) (by simp) (AllReady.cons rfl (fun K hK => ?_) (AllReady.cons rfl (fun K hK => ?_) AllReady.nil))
              · go_simp
                (first | (refine hK _ _ ?_; clear hK K) | skip)
                refine wpAny_ready (rs := [1, 3]) (by kernel_rfl) (by simp) (AllReady.cons rfl (fun K hK => ?_) (AllReady.cons rfl (fun K hK => ?_) AllReady.nil))
                · go_simp
                  (first | (refine hK _ _ ?_; clear hK K) | skip)
                  refine wpAny_ready (rs := [2, 3]) (by kernel_rfl) (by simp) (AllReady.cons rfl (fun K hK => ?_) (AllReady.cons rfl (fun K hK => ?_) AllReady.nil))
                  · go_simp
                    (first | (refine hK _ _ ?_; clear hK K) | skip)
                    refine wpAny_ready (rs := [3]) (by kernel_rfl) (by simp) (AllReady.cons rfl (fun K hK => ?_) AllReady.nil)
                    go_simp
                    (first | (refine hK _ _ ?_; clear hK K) | skip)
                    refine wpAny_ready (rs := [4]) (by kernel_rfl) (by simp) (AllReady.cons rfl (fun K hK => ?_) AllReady.nil)
                    go_simp
                    (first | (refine hK _ _ ?_; clear hK K) | skip)
                    refine wpAny_done (by kernel_rfl) ?_ _
                    simp only [Exit.inBlock]
                    exact HFIN.out _
                  · go_simp
                    (first | (refine hK _ _ ?_; clear hK K) | skip)
                    refine wpAny_ready (rs := [2]) (by kernel_rfl) (by simp) (AllReady.cons rfl (fun K hK => ?_) AllReady.nil)
                    go_simp
                    (first | (refine hK _ _ ?_; clear hK K) | skip)
                    refine wpAny_ready (rs := [4]) (by kernel_rfl) (by simp) (AllReady.cons rfl (fun K hK => ?_) AllReady.nil)
                    go_simp
                    (first | (refine hK _ _ ?_; clear hK K) | skip)
                    refine wpAny_done (by kernel_rfl) ?_ _
                    simp only [Exit.inBlock]
                    exact HFIN.out _
                · go_simp
                  (first | (refine hK _ _ ?_; clear hK K) | skip)
                  refine wpAny_ready (rs := [1]) (by kernel_rfl) (by simp) (AllReady.cons rfl (fun K hK => ?_) AllReady.nil)
                  go_simp
                  (first | (refine hK _ _ ?_; clear hK K) | skip)
                  refine wpAny_ready (rs := [2]) (by kernel_rfl) (by simp) (AllReady.cons rfl (fun K hK => ?_) AllReady.nil)
                  go_simp
                  (first | (refine hK _ _ ?_; clear hK K) | skip)
                  refine wpAny_ready (rs := [4]) (by kernel_rfl) (by simp) (AllReady.cons rfl (fun K hK => ?_) AllReady.nil)
                  go_simp
                  (first | (refine hK _ _ ?_; clear hK K) | skip)
                  refine wpAny_done (by kernel_rfl) ?_ _
                  simp only [Exit.inBlock]
                  exact HFIN.out _
              · go_simp
                (first | (refine hK _ _ ?_; clear hK K) | skip)
                refine wpAny_ready (rs := [0, 2]) (by kernel_rfl) (by simp) (AllReady.cons rfl (fun K hK => ?_) (AllReady.cons rfl (fun K hK => ?_) AllReady.nil))
                · go_simp
                  (first | (refine hK _ _ ?_; clear hK K) | skip)
                  refine wpAny_ready (rs := [2, 3]) (by kernel_rfl) (by simp) (AllReady.cons rfl (fun K hK => ?_) (AllReady.cons rfl (fun K hK => ?_) AllReady.nil))
                  · go_simp
                    (first | (refine hK _ _ ?_; clear hK K) | skip)
                    refine wpAny_ready (rs := [3]) (by kernel_rfl) (by simp) (AllReady.cons rfl (fun K hK => ?_) AllReady.nil)
                    go_simp
                    (first | (refine hK _ _ ?_; clear hK K) | skip)
                    refine wpAny_ready (rs := [4]) (by kernel_rfl) (by simp) (AllReady.cons rfl (fun K hK => ?_) AllReady.nil)
                    go_simp
                    (first | (refine hK _ _ ?_; clear hK K) | skip)
                    refine wpAny_done (by kernel_rfl) ?_ _
                    simp only [Exit.inBlock]
                    exact HFIN.out _
                  · go_simp
                    (first | (refine hK _ _ ?_; clear hK K) | skip)
                    refine wpAny_ready (rs := [2]) (by kernel_rfl) (by simp) (AllReady.cons rfl (fun K hK => ?_) AllReady.nil)
                    go_simp
                    (first | (refine hK _ _ ?_; clear hK K) | skip)
                    refine wpAny_ready (rs := [4]) (by kernel_rfl) (by simp) (AllReady.cons rfl (fun K hK => ?_) AllReady.nil)
                    go_simp
                    (first | (refine hK _ _ ?_; clear hK K) | skip)
                    refine wpAny_done (by kernel_rfl) ?_ _
                    simp only [Exit.inBlock]
                    exact HFIN.out _
                · go_simp
                  (first | (refine hK _ _ ?_; clear hK K) | skip)
                  refine wpAny_ready (rs := [0]) (by kernel_rfl) (by simp) (AllReady.cons rfl (fun K hK => ?_) AllReady.nil)
                  go_simp
                  (first | (refine hK _ _ ?_; clear hK K) | skip)
                  refine wpAny_ready (rs := [3]) (by kernel_rfl) (by simp) (AllReady.cons rfl (fun K hK => ?_) AllReady.nil)
                  go_simp
                  (first | (refine hK _ _ ?_; clear hK K) | skip)
                  refine wpAny_ready (rs := [4]) (by kernel_rfl) (by simp) (AllReady.cons rfl (fun K hK => ?_) AllReady.nil)
                  go_simp
                  (first | (refine hK _ _ ?_; clear hK K) | skip)
                  refine wpAny_done (by kernel_rfl) ?_ _
                  simp only [Exit.inBlock]
                  exact HFIN.out _
          · have hmin2 : (l.length : Int) - 1 < (o : Int) + (q : Int) := by omega
            have ek : ((min c1 n1 : Nat) : Int) = (l.length : Int) - 1 := by have := HN1.out; omega
            have hkl : min c1 n1 < l.length := by have := HN1.out; omega
            refine region_round_tail 11 (by kernel_rfl) (by kernel_rfl) (fun ⟨a, w, h⟩ => HNO.out ⟨a, w, h⟩) ?_
            simp only [List.take_succ_cons, List.take_zero, List.drop_succ_cons, List.drop_zero]
            repeat still_step
            still_call (HSG.out _)
            repeat still_step
            still_call (HAG0.out _)
            repeat still_step
            refine wpStill_nil ?_
            change wpList _ _ _ _ _ X1.drew
            have HK2 : Hid (KeepsFrom w3.heap.size X X1.drew) := Lib.hid (HK1.out.trans ((KeepsOthers.drew X1).from _))
            have HB2 : Hid (Below w.heap.size w X1.drew) := Lib.hid HB1.out.drew
            have HE2 : Hid (X1.drew.heap = X.heap) := Lib.hid HE1.out
            have r4 : X1.drew.cell? ⟨lf, 0, none⟩ = some (.string z) := r2
            generalize X1.drew = X2 at *
            cases a0 with
            | false =>
              have HB0 := Lib.hid (HBC.out (by simp))
              go_wp2_with fail
              refine (mustFit_falseZ _ _).mono ?_
              rintro e w5 ⟨rfl, rfl⟩
              exact HP2.out _ _ _ rfl HK2.out ⟨⟨min c1 n1, hkl, by unfold misV; rw [ek], HB0.out⟩, HB2.out⟩
            | true =>
              have HNX2 := Lib.hid (HNX.out hsl (by simp) (by simp))
              go_wp2_with fail
              refine (mustFit_true _ _).mono ?_
              rintro e w5 ⟨rfl, rfl⟩
              go_wp2_with fail
              gi_wp2_with fail
              refine region_round (by kernel_rfl) (fun ⟨a, w, h⟩ => HNO.out ⟨a, w, h⟩) ?_
              have HK3 : Hid (KeepsFrom w3.heap.size X X2.drew) := Lib.hid (HK2.out.trans ((KeepsOthers.drew X2).from _))
              have HB3 : Hid (Below w.heap.size w X2.drew) := Lib.hid HB2.out.drew
              have HE3 : Hid (X2.drew.heap = X.heap) := Lib.hid HE2.out
              have O1y : OneAt X2.drew st (.int .i64 (o : Int)) 3 := by have h := O1x.out; rw [← HO.out] at h; unfold OneAt; rw [HE3.out]; exact h
              have O2y : OneAt X2.drew lf (.string z) 9 := by have h := O2x.out; rw [← HZB.out] at h; unfold OneAt; rw [HE3.out]; exact h
              have O3y : OneAt X2.drew (w.heap.size + 1) (.string t) 9 := by unfold OneAt; rw [HE3.out]; exact O3x.out
              generalize X2.drew = X3 at *
              have g1 := O1y.frozen; have g2 := O2y.frozen; have g3 := O1y.cell; have g4 := O2y.cell
              have HY1 := Lib.hid O1y; have HY2 := Lib.hid O2y; have HY3 := Lib.hid O3y
              clear O1y O2y O3y
              have hne' : lf ≠ st := fun e => hne e.symm
              have HFIN : Hid (∀ a', Q2 .normal a' ((X3.setCell ⟨st, 0, none⟩ (.int .i64 ((o : Int) + (q : Int)))).setCell ⟨lf, 0, none⟩ (.string z'))) := Lib.hid (fun a' => by
                have hf : ∀ k, k ≠ st → k ≠ lf → ((X3.setCell ⟨st, 0, none⟩ (.int .i64 ((o : Int) + (q : Int)))).setCell ⟨lf, 0, none⟩ (.string z')).heap[k]? = X.heap[k]? := fun k h1 h2 => by
                  rw [Below.heap_setCell _ _ _ _ h2, Below.heap_setCell _ _ _ _ h1, HE3.out]
                refine HQ2.out _ _ (HK3.out.trans (((KeepsOthers.setCell _ _ _).trans (KeepsOthers.setCell _ _ _)).from _)) ⟨hf _ (by omega) (by omega), hf _ (by omega) (by omega)⟩ ⟨?_, ?_, (HY3.out.other _ (by show w.heap.size + 1 ≠ st; omega)).other _ (by show w.heap.size + 1 ≠ lf; omega), (hf _ (by omega) (by omega)).trans HOG.out, (HB3.out.setCell (p := ⟨st, 0, none⟩) b1 _).setCell (p := ⟨lf, 0, none⟩) b2 _, HNX2.out⟩
                · have h := (HY1.out.set (.int .i64 ((o : Int) + (q : Int)))).other (p := ⟨lf, 0, none⟩) (.string z') (by show st ≠ lf; exact hne)
                  rw [← HC1.out, show ((c1 : Nat) : Int) = (o : Int) + (q : Int) by omega]
                  exact h
                · have h := (HY2.out.other (p := ⟨st, 0, none⟩) (.int .i64 ((o : Int) + (q : Int))) (by show lf ≠ st; exact hne')).set (.string z')
                  rw [← HZ'.out]
                  exact h)
              refine wpAny_ready (rs := [0, 1]) (by kernel_rfl) (by simp) (AllReady.cons rfl (fun K hK => ?_) (AllReady.cons rfl (fun K hK => ?_) AllReady.nil))
              · go_simp
                (first | (refine hK _ _ ?_; clear hK K) | skip)
                refine wpAny_ready (rs := [1, 3]) (by kernel_rfl) (by simp) (AllReady.cons rfl (fun K hK => ?_) (AllReady.cons rfl (fun K hK => ?_) AllReady.nil))
                · go_simp
                  (first | (refine hK _ _ ?_; clear hK K) | skip)
                  refine wpAny_ready (rs := [2, 3]) (by kernel_rfl) (by simp) (AllReady.cons rfl (fun K hK => ?_) (AllReady.cons rfl (fun K hK => ?_) AllReady.nil))
                  · go_simp
                    (first | (refine hK _ _ ?_; clear hK K) | skip)
                    refine wpAny_ready (rs := [3]) (by kernel_rfl) (by simp) (AllReady.cons rfl (fun K hK => ?_) AllReady.nil)
                    go_simp
                    (first | (refine hK _ _ ?_; clear hK K) | skip)
                    refine wpAny_ready (rs := [4]) (by kernel_rfl) (by simp) (AllReady.cons rfl (fun K hK => ?_) AllReady.nil)
                    go_simp
                    (first | (refine hK _ _ ?_; clear hK K) | skip)
                    refine wpAny_done (by kernel_rfl) ?_ _
                    simp only [Exit.inBlock]
                    exact HFIN.out _
                  · go_simp
                    (first | (refine hK _ _ ?_; clear hK K) | skip)
                    refine wpAny_ready (rs := [2]) (by kernel_rfl) (by simp) (AllReady.cons rfl (fun K hK => ?_) AllReady.nil)
                    go_simp
                    (first | (refine hK _ _ ?_; clear hK K) | skip)
                    refine wpAny_ready (rs := [4]) (by kernel_rfl) (by simp) (AllReady.cons rfl (fun K hK => ?_) AllReady.nil)
                    go_simp
                    (first | (refine hK _ _ ?_; clear hK K) | skip)
                    refine wpAny_done (by kernel_rfl) ?_ _
                    simp only [Exit.inBlock]
                    exact HFIN.out _
                · go_simp
                  (first | (refine hK _ _ ?_; clear hK K) | skip)
                  refine wpAny_ready (rs := [1]) (by kernel_rfl) (by simp) (AllReady.cons rfl (fun K hK => ?_) AllReady.nil)
                  go_simp
                  (first | (refine hK _ _ ?_; clear hK K) | skip)
                  refine wpAny_ready (rs := [2]) (by kernel_rfl) (by simp) (AllReady.cons rfl (fun K hK => ?_) AllReady.nil)
                  go_simp
                  (first | (refine hK _ _ ?_; clear hK K) | skip)
                  refine wpAny_ready (rs := [4]) (by kernel_rfl) (by simp) (AllReady.cons rfl (fun K hK => ?_) AllReady.nil)
                  go_simp
                  (first | (refine hK _ _ ?_; clear hK K) | skip)
                  refine wpAny_done (by kernel_rfl) ?_ _
                  simp only [Exit.inBlock]
                  exact HFIN.out _
              · go_simp
                (first | (refine hK _ _ ?_; clear hK K) | skip)
                refine wpAny_ready (rs := [0, 2]) (by kernel_rfl) (by simp) (AllReady.cons rfl (fun K hK => ?_) (AllReady.cons rfl (fun K hK => ?_) AllReady.nil))
                · go_simp
                  (first | (refine hK _ _ ?_; clear hK K) | skip)
                  refine wpAny_ready (rs := [2, 3]) (by kernel_rfl) (by simp) (AllReady.cons rfl (fun K hK => ?_) (AllReady.cons rfl (fun K hK => ?_) AllReady.nil))
                  · go_simp
                    (first | (refine hK _ _ ?_; clear hK K) | skip)
                    refine wpAny_ready (rs := [3]) (by kernel_rfl) (by simp) (AllReady.cons rfl (fun K hK => ?_) AllReady.nil)
                    go_simp
                    (first | (refine hK _ _ ?_; clear hK K) | skip)
                    refine wpAny_ready (rs := [4]) (by kernel_rfl) (by simp) (AllReady.cons rfl (fun K hK => ?_) AllReady.nil)
                    go_simp
                    (first | (refine hK _ _ ?_; clear hK K) | skip)
                    refine wpAny_done (by kernel_rfl) ?_ _
                    simp only [Exit.inBlock]
                    exact HFIN.out _
                  · go_simp
                    (first | (refine hK _ _ ?_; clear hK K) | skip)
                    refine wpAny_ready (rs := [2]) (by kernel_rfl) (by simp) (AllReady.cons rfl (fun K hK => ?_) AllReady.nil)
                    go_simp
                    (first | (refine hK _ _ ?_; clear hK K) | skip)
                    refine wpAny_ready (rs := [4]) (by kernel_rfl) (by simp) (AllReady.cons rfl (fun K hK => ?_) AllReady.nil)
                    go_simp
                    (first | (refine hK _ _ ?_; clear hK K) | skip)
                    refine wpAny_done (by kernel_rfl) ?_ _
                    simp only [Exit.inBlock]
                    exact HFIN.out _
                · go_simp
                  (first | (refine hK _ _ ?_; clear hK K) | skip)
                  refine wpAny_ready (rs := [0]) (by kernel_rfl) (by simp) (AllReady.cons rfl (fun K hK => ?_) AllReady.nil)
                  go_simp
                  (first | (refine hK _ _ ?_; clear hK K) | skip)
                  refine wpAny_ready (rs := [3]) (by kernel_rfl) (by simp) (AllReady.cons rfl (fun K hK => ?_) AllReady.nil)
                  go_simp
                  (first | (refine hK _ _ ?_; clear hK K) | skip)
                  refine wpAny_ready (rs := [4]) (by kernel_rfl) (by simp) (AllReady.cons rfl (fun K hK => ?_) AllReady.nil)
                  go_simp
                  (first | (refine hK _ _ ?_; clear hK K) | skip)
                  refine wpAny_done (by kernel_rfl) ?_ _
                  simp only [Exit.inBlock]
                  exact HFIN.out _
    case done =>
      rintro D' X hD ⟨o1, o2, o3, og, bx, hk⟩ hmk
      have HBX := Lib.hid bx; have HMK := Lib.hid hmk; have HKK := Lib.hid hk
      have p2 := o2.cell; have p3 := o3.cell
      have hDw : w.heap.size ≤ D' := by have := BB.out.size; omega
      obtain ⟨z, hz⟩ : ∃ z, z = bs (S.drop (2 * rs.length)) := ⟨_, rfl⟩
      have hze : z.toList.isEmpty = decide (S.length ≤ 2 * rs.length) := by
        have e : z.toList = S.drop (2 * rs.length) := by rw [hz]; exact toList_bs _
        rw [e, Bool.eq_iff_iff, List.isEmpty_iff, List.drop_eq_nil_iff, decide_eq_true_eq]
      rw [← hz] at p2
      have hwn : IntKind.i64.wrap ((l.length : Int) - 1) = (l.length : Int) - 1 := by rw [IntKind.wrap_i64]; omega
      have hwd : WdP l.length l := ⟨rfl, hd⟩
      clear hz o1 o2 o3 og bx hk hmk
      simp only [Exit.inBlock, Exit.then]
      refine wpFn_of_wp ?_
      by_cases hem : S.length ≤ 2 * rs.length
      · have hzE : z.toList.isEmpty = true := by rw [hze]; simpa using hem
        have HFIN : Hid (PST (.returned (.tuple #[]))) := Lib.hid (by
          rw [HPST.out]
          have e := HRS.out
          have hlen : S.length = 2 * rs.length := by
            have h9 : rs.length ≠ 0 := fun h0 => by
              have := runs_ne (l := l) (by intro e; rw [e] at h1; simp at h1)
              rw [← e] at this
              exact this (List.eq_nil_of_length_eq_zero h0)
            have := HKK.out (rs.length - 1) (by omega) (by omega)
            omega
          rw [e] at hlen
          refine .inl ⟨rfl, hlen, ?_⟩
          rw [← e]; exact HKK.out)
        clear hze hem
        go_wp2_with fail
        refine (mustFit_true _ _).mono ?_
        rintro e w5 ⟨rfl, rfl⟩
        go_wp2_with fail
        rw [HQN.out]
        exact HQ.out.marked _ X D' _ rfl HMK.out (results_none rfl _ _ _) ⟨HFIN.out, below_mark HBX.out hDw HMK.out⟩
      · have hzE : z.toList.isEmpty = false := by rw [hze]; simpa using hem
        have HB0 := Lib.hid (bad_end (W := W) (S := S) (D := D) hwd h1 h8 (by rw [← HRS.out]; omega))
        clear hze hem
        go_wp2_with fail
        refine (mustFit_falseZ _ _).mono ?_
        rintro e w5 ⟨rfl, rfl⟩
        refine HQ.out.raised _ X D' _ rfl HMK.out ⟨?_, below_mark HBX.out hDw HMK.out⟩
        rw [HPST.out]
        refine .inr ⟨l.length - 1, by omega, ?_, HB0.out⟩
        unfold misV
        rw [show ((l.length - 1 : Nat) : Int) = (l.length : Int) - 1 by omega]
    case panic =>
      rintro D' ch X hD ⟨⟨k, hk, rfl, hs, hns⟩, hb⟩ hmk
      simp only [Exit.inBlock, Exit.then]
      have hDw : w.heap.size ≤ D' := by have := BB.out.size; omega
      refine HQ.out.raised _ X D' _ rfl hmk ⟨?_, below_mark hb hDw hmk⟩
      rw [HPST.out]
      exact .inr ⟨k, hk, rfl, hs, hns⟩
end Go.Proofs.YtplcdofpikdigaaDoor
