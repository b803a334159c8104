/- Runs of a word: the program's LongestRun, IsSpeakable. -/
import Derived.Test.YthbjaclobllkhaaK2
namespace Go.Proofs.Ythbjaclobllkhaa
open Go.RowKit Go.BigFrame Go.Shelf
set_option linter.unusedSimpArgs false
set_option linter.unusedVariables false
set_option maxRecDepth 4000
attribute [local go_sem] Oper.semAt_some

/-! ### Runs, spread out again -/
def flatR (rs : List (UInt8 × Nat)) : List UInt8 := rs.flatMap (fun p => List.replicate p.2 p.1)
theorem flatR_append (a b : List (UInt8 × Nat)) : flatR (a ++ b) = flatR a ++ flatR b := by simp [flatR]
theorem flatR_len (rs : List (UInt8 × Nat)) : (flatR rs).length = cntR rs := by
  induction rs with
  | nil => rfl
  | cons p r ih => simp only [flatR, cntR, List.flatMap_cons, List.length_append, List.length_replicate, List.map_cons, List.sum_cons] at *; omega
theorem flatR_step (acc : List (UInt8 × Nat)) (c : UInt8) : flatR (stepRun acc c) = flatR acc ++ [c] := by
  unfold stepRun
  split
  · rename_i d n h
    have hne : acc ≠ [] := by intro e; simp [e] at h
    have h2 : acc.getLast hne = (d, n) := by
      have := List.getLast?_eq_some_getLast hne
      rw [h] at this; exact (Option.some.inj this).symm
    split
    · rename_i hd
      subst hd
      conv => rhs; rw [← List.dropLast_concat_getLast hne, h2]
      rw [flatR_append, flatR_append]
      simp only [flatR, List.flatMap_cons, List.flatMap_nil, List.append_nil, List.append_assoc]
      rw [List.replicate_succ']
    · rw [flatR_append]; simp [flatR]
  · rename_i h
    have : acc = [] := by simpa using h
    subst this; simp [flatR]
theorem flatR_runs (l : List UInt8) : flatR (runsL l) = l := by
  induction h : l.length generalizing l with
  | zero => have : l = [] := List.eq_nil_of_length_eq_zero h; subst this; rfl
  | succ n ih =>
    have hne : l ≠ [] := by intro e; simp [e] at h
    have hd := List.dropLast_concat_getLast hne
    conv => lhs; rw [← hd, runsL_snoc, flatR_step, ih _ (by simp [h])]
    exact hd
theorem stepRun_pos (acc : List (UInt8 × Nat)) (c : UInt8) (h : ∀ p ∈ acc, 1 ≤ p.2) : ∀ p ∈ stepRun acc c, 1 ≤ p.2 := by
  unfold stepRun
  split
  · split
    · intro p hp
      rw [List.mem_append] at hp
      rcases hp with hp | hp
      · exact h p (List.dropLast_subset _ hp)
      · simp at hp; subst hp; simp
    · intro p hp
      rw [List.mem_append] at hp
      rcases hp with hp | hp
      · exact h p hp
      · simp at hp; subst hp; simp
  · intro p hp; simp at hp; subst hp; simp
theorem runs_pos (l : List UInt8) : ∀ p ∈ runsL l, 1 ≤ p.2 := by
  induction h : l.length generalizing l with
  | zero => intro p hp; have : l = [] := List.eq_nil_of_length_eq_zero h; subst this; simp [runsL] at hp
  | succ n ih =>
    have hne : l ≠ [] := by intro e; simp [e] at h
    have hd := List.dropLast_concat_getLast hne
    rw [← hd, runsL_snoc]
    exact stepRun_pos _ _ (ih l.dropLast (by simp [h]))
theorem flat_get (rs : List (UInt8 × Nat)) (k : Nat) (h : k < rs.length) (hp : 1 ≤ rs[k].2) : (flatR rs)[cntR (rs.take k)]? = some rs[k].1 := by
  have e : flatR rs = flatR (rs.take k) ++ flatR (rs.drop k) := by rw [← flatR_append, List.take_append_drop]
  rw [e, List.getElem?_append_right (by rw [flatR_len]; exact Nat.le_refl _), flatR_len, Nat.sub_self, List.drop_eq_getElem_cons h]
  obtain ⟨n, hn⟩ : ∃ n, rs[k].2 = n + 1 := ⟨rs[k].2 - 1, by omega⟩
  simp only [flatR, List.flatMap_cons, hn, List.replicate_succ, List.cons_append, List.getElem?_cons_zero]
theorem runs_get (l : List UInt8) (k : Nat) (h : k < (runsL l).length) : l[cntR ((runsL l).take k)]? = some (runsL l)[k].1 := by
  have := flat_get (runsL l) k h (runs_pos l _ (List.getElem_mem h))
  rw [flatR_runs] at this
  exact this

theorem digitOf_is (c : Int) (w : World) (h0 : 48 ≤ c) (h1 : c ≤ 255) :
    Calls Try.prog 37 #[.int .u8 c] w fun e w' => e = .returned (.int .i64 (c - 48)) ∧ w = w' := by
  go_enter Try.func37, Try.ntmps37
  go_wp2
  go_ret
  exact ⟨rfl, rfl⟩

/-- The runs that have come. -/
def gotR (rs : List (UInt8 × Nat)) (pre : List (Fin rs.length)) : List (UInt8 × Nat) := pre.map (fun k => rs[k])
theorem gotR_snoc (rs : List (UInt8 × Nat)) (pre : List (Fin rs.length)) (x : Fin rs.length) : gotR rs (pre ++ [x]) = gotR rs pre ++ [rs[x]] := by simp [gotR]
theorem gotR_all (rs : List (UInt8 × Nat)) : gotR rs (upF rs.length rs.length) = rs := by
  unfold gotR upF
  rw [List.take_of_length_le (by simp)]
  apply List.ext_getElem
  · simp
  · intro i h1 h2
    simp
theorem gotR_mem {rs : List (UInt8 × Nat)} {pre : List (Fin rs.length)} {p : UInt8 × Nat} (h : p ∈ gotR rs pre) : p ∈ rs := by
  unfold gotR at h
  obtain ⟨k, _, rfl⟩ := List.mem_map.1 h
  exact List.getElem_mem _
theorem ownFrom_block {β : Type} {B p : Nat} (f : β → Obj) (hp : p < B) : OwnFrom B (fun (s : β) W => W.heap[p]? = some (f s)) :=
  fun s W W' row hs hg hr => (hg.block p (Array.getElem?_eq_some_iff.1 hs).1 (fun e => by have := (hr p e.symm).1; omega)).trans hs

/-- How a function that loops over an iterator is left: plainly, or with the loop's mark among its deferred calls. -/
structure Leaves (fn : Func) (R : Ending → World → Prop) (Q : Exit → Act → World → Prop) : Prop where
  plain : ∀ a W v, a.defers = [] → (results fn a.tmps).run Try.prog W = .ok v W → R (.returned v) W → Q .ret a W
  marked : ∀ a W D v, a.defers = [{ target := .collected D, args := #[] }] → W.heap[D]? = some (.deferred (some [])) → (results fn a.tmps).run Try.prog (W.putObj D (.deferred none)) = .ok v (W.putObj D (.deferred none)) →
    R (.returned v) (W.putObj D (.deferred none)) → Q .ret a W
theorem calls_marks {f : FuncId} {fn : Func} {c : Code} {args : Array Value} {w : World} {R : Ending → World → Prop} (hf : Try.prog.funcs[f]? = some fn) (hb : fn.body = some c)
    (h : ∀ Q, Leaves fn R Q → c.wp Try.prog Q { tmps := args ++ Array.replicate (fn.ntmps - args.size) undef, defers := [] } w) : Calls Try.prog f args w R := by
  refine (callsIn_wide (n := 9)).1 (callsIn_of_wp_marks hf hb trivial (wpIn_wide.2 (h _ ⟨?_, ?_⟩)) rfl)
  · rintro ⟨tmps, ds⟩ W v hd hr hR
    simp only at hd; subst hd
    exact ⟨v, hr, hR⟩
  · rintro ⟨tmps, ds⟩ W D v hd hk hr hR
    simp only at hd; subst hd
    exact ⟨by simp, .inl ⟨_, _, rfl, run_takeDeferred hk, v, hr, hR⟩⟩
theorem below_mark {w W : World} {D : Nat} (h : Below w.heap.size w W) (hD : w.heap.size ≤ D) (hk : W.heap[D]? = some (.deferred (some []))) : Below w.heap.size w (W.putObj D (.deferred none)) :=
  h.trans (belowK_b (w := w) (Nat.le_refl _) W D _ _ hD hk rfl rfl)

/-- A loop over the runs whose body never leaves. -/
theorem wp_parts {Q : Exit → Act → World → Prop} {a : Act} {W0 : World} {g : Operand} {t : Tmp} {assign body : Code} (l : List UInt8) (rs : List (UInt8 × Nat)) (hrs : rs = runsL l) (Bs b cap : Nat)
    (hl1 : 1 ≤ l.length) (hl : l.length ≤ 200000) (hcap : l.length ≤ cap) (hcm : cap ≤ maxLen) (hB : Bs < W0.heap.size) (hb : b < W0.heap.size)
    (hBs : W0.cell? ⟨Bs, 0, none⟩ = some (.slice (some ⟨b, 0, none⟩) l.length cap)) (hc : ∀ i (h : i < l.length), W0.cell? ⟨b, i, none⟩ = some (.int .u8 (l[i].toNat : Int)))
    (hg : a.eval g = .func (.func 56) #[] #[.pointer (some ⟨Bs, 0, none⟩)])
    (I : List (UInt8 × Nat) → World → Prop) (hI : OwnFrom W0.heap.size I) (h0 : I [] W0) (a₁ : Fin rs.length → Act)
    (hassign : ∀ (lp : Nat) (x : Fin rs.length) (W : World) (K : Act → World → Prop), K (a₁ x) W →
      assign.wpIn (Fence.wide.inRound lp) 7 Try.prog (Exit.then K (fun _ _ _ => False)) { tmps := a.tmps.setIfInBounds t (.slice (some ⟨b, cntR (rs.take x), none⟩) rs[x].2 rs[x].2), defers := [] } W)
    (hbody : ∀ (lp : Nat) (pre : List (Fin rs.length)) (x : Fin rs.length) (W : World) (Q2 : Exit → Act → World → Prop), (¬ LetsOut Q2 ∧ ∀ c a w, ¬ Q2 (.panic c) a w) →
      (∀ a' W', KeepsFrom W0.heap.size W W' → KeepsTwo Bs b W W' → I (gotR rs pre ++ [rs[x]]) W' → Q2 .normal a' W') → I (gotR rs pre) W → pre.length < rs.length →
      body.wpIn (Fence.wide.inRound lp) 7 Try.prog Q2 (a₁ x) W)
    (hdone : ∀ (D : Nat) (W : World), W0.heap.size ≤ D → I rs W → W.heap[D]? = some (.deferred (some [])) → Q .normal { a with defers := { target := .collected D, args := #[] } :: a.defers } W) :
    (Code.rangeFunc g #[t] assign body).wp Try.prog Q a W0 := by
  refine (wpIn_wide (n := 9)).1 ?_
  refine wpIn_rangeFunc_ownG rfl (by omega) (gf := 56) (lb := #[.pointer (some ⟨Bs, 0, none⟩)]) hg trivial (enters_of Try.func56 (by kernel_rfl) rfl)
    (runParts_stops 8 (by omega) l rs hrs Bs b cap hl1 hl hcap hcm W0 hB hb hBs hc) keepsTwo_t (keepsTwo_b hB hb) (Below.refl _ _) (fun _ => rfl)
    (fun pre W => I (gotR rs pre) W) (fun _ _ _ => False) (fun s W W' row hs hg hr => hI _ W W' row hs hg hr) (fun _ _ _ _ _ hs _ _ => hs) h0 a₁ ?_ (fun lp pre x W hi hlt => hbody lp pre x W _ ⟨fun ⟨a, w, h⟩ => h, fun c a w h => h⟩ (fun a' W' k1 k2 k3 => ⟨k1, k2, by show I (gotR rs (pre ++ [x])) W'; rw [gotR_snoc]; exact k3⟩) hi hlt) ?_ ?_
  · intro lp x W K hK
    have h := hassign lp x W K hK
    unfold partEnc
    simpa using h
  · rintro D ys W hD rfl hi hK
    rw [gotR_all] at hi
    exact hdone D W hD hi hK
  · rintro D c pre W _ _ h _
    exact h.elim

set_option maxRecDepth 100000 in
set_option maxHeartbeats 400000 in
theorem implLongestRun_any (s : ByteArray) (w : World) (hs : s.size ≤ maxLen) :
    Calls Try.prog 54 #[.string s] w fun e w' => e = .returned (.tuple #[.int .i64 (if goodL s.data.toList = true then (longL s.data.toList : Int) else 0), .bool (goodL s.data.toList)]) ∧ Below w.heap.size w w' := by
  cases hg : goodL s.data.toList with
  | false =>
    have HG := Lib.hid hg; clear hg
    go_enter Try.func54, Try.ntmps54
    go_wp2_with fail
    refine (implIsWord_any s w hs).mono ?_
    rintro e w1 ⟨rfl, rfl⟩
    rw [HG.out]
    go_wp2
    go_ret2
    exact ⟨rfl, Below.refl _ _⟩
  | true =>
    obtain ⟨h1, h2, h3⟩ := goodL_parts hg
    have HG := Lib.hid hg; clear hg
    refine calls_marks Try.func54 rfl fun Q hQ => ?_
    simp only [Try.ntmps54, List.size_toArray, List.length_cons, List.length_nil, Nat.reduceAdd, Nat.reduceSub, Array.replicate_succ, Array.replicate_zero, List.push_toArray, List.append_toArray, List.nil_append, List.cons_append]
    go_wp2_with fail
    refine (implIsWord_any s w hs).mono ?_
    rintro e w1 ⟨rfl, rfl⟩
    rw [HG.out]
    go_wp2_with (refine wpList_bytes _ rfl 9 22 _ rfl 5 Try.underlying9 Try.underlying22 Try.underlying5 s rfl hs ?_; intro w1 cap hb hsz hcap hcm hcell hfr)
    have HC := Lib.hid hcell; have HB := Lib.hid hb
    clear hcell hfr hb
    go_wp2_with fail
    refine (runParts_is _ _ _ _).mono ?_
    rintro e w2 ⟨rfl, hw2⟩
    have HW2 := Lib.hid hw2; clear hw2
    have hz : s.size = s.data.toList.length := by simp
    obtain ⟨rs, hrs⟩ : ∃ rs, rs = runsL s.data.toList := ⟨_, rfl⟩
    have hlong : longL s.data.toList = longR rs := by rw [hrs]; rfl
    have hbd : ∀ p ∈ rs, p.2 ≤ 400 := by
      subst hrs; intro p hp
      obtain ⟨k, hk, rfl⟩ := List.getElem_of_mem hp
      exact Nat.le_trans (runs_cnt hk) (by simpa using h2)
    have hvar : w1.heap[w.heap.size]? = some (.cells #[.int .i64 0] 3 (0, 0)) := (HB.out.block w.heap.size (by simp)).trans (Go.Deep.blk_alloc_new _ _)
    have hsz' : w.heap.size + 1 < w1.heap.size := by simpa using hsz
    have hB1 : Below w.heap.size w w1 := (below_alloc w _).trans (HB.out.mono (by simp))
    have hcell : ∀ i (h : i < s.data.toList.length), w2.cell? ⟨w.heap.size + 1, i, none⟩ = some (.int .u8 (s.data.toList[i].toNat : Int)) := by
      intro i h
      have := HC.out i (by rw [hz]; exact h)
      rw [Go.Deep.nblk_alloc] at this
      rw [HW2.out]
      exact ((below_alloc w1 _).cell (p := ⟨w.heap.size + 1, i, none⟩) (by exact hsz')).trans this
    have hvar2 : w2.heap[w.heap.size]? = some (.cells #[.int .i64 0] 3 (0, 0)) := by rw [HW2.out]; exact ((below_alloc w1 _).block w.heap.size (by omega)).trans hvar
    have hbox2 : w2.cell? ⟨w1.heap.size, 0, none⟩ = some (.slice (some ⟨w.heap.size + 1, 0, none⟩) s.size cap) := by rw [HW2.out]; simp [go_sem]
    have hB2 : Below w.heap.size w w2 := by rw [HW2.out]; exact hB1.trans ((below_alloc w1 _).mono hB1.size)
    have hs2 : w2.heap.size = w1.heap.size + 1 := by rw [HW2.out]; simp
    have HL := Lib.hid hlong; have HBD := Lib.hid hbd; have HV := Lib.hid hvar2; have HX := Lib.hid hbox2; have HB2 := Lib.hid hB2; have HCE := Lib.hid hcell; have HS2 := Lib.hid hs2
    have HZ := Lib.hid hz; have HRS := Lib.hid hrs
    clear hlong hbd hvar hvar2 hbox2 hB2 hB1 hcell hs2 HW2 HB HC hz hrs
    go_wp2_with fail
    have hz := HZ.out
    refine wp_parts s.data.toList rs HRS.out w1.heap.size (w.heap.size + 1) cap (by rw [← hz]; exact h1) (by rw [← hz]; omega) (by rw [← hz]; exact hcap) hcm (by rw [HS2.out]; omega) (by rw [HS2.out]; omega) (by rw [← hz]; exact HX.out) HCE.out rfl
      (fun got W => W.heap[w.heap.size]? = some (.cells #[.int .i64 (longR got)] 3 (0, 0)) ∧ Below w.heap.size w W ∧ (∀ p ∈ got, p ∈ rs))
      (OwnFrom.and (ownFrom_block _ (by rw [HS2.out]; omega)) (OwnFrom.and (ownFrom_below (Nat.le_refl _) (by rw [HS2.out]; omega)) (fun _ _ _ _ h _ _ => h)))
      ⟨HV.out, HB2.out, fun p h => by simp at h⟩
      (fun x => { tmps := #[.string s, undef, .int .i64 0, .bool false, .pointer (some ⟨w.heap.size, 0, none⟩), .slice (some ⟨w.heap.size + 1, cntR (rs.take x), none⟩) rs[x].2 rs[x].2, .string s, .bool true, .bool false, .string s, .slice (some ⟨w.heap.size + 1, 0, none⟩) s.size cap, .func (.func 56) #[] #[.pointer (some ⟨w1.heap.size, 0, none⟩)], .slice (some ⟨w.heap.size + 1, cntR (rs.take x), none⟩) rs[x].2 rs[x].2, undef, undef, undef, undef, undef], defers := [] }) ?assign ?body ?done
    case assign =>
      intro lp x W K hK
      simp only [List.setIfInBounds_toArray, List.set_cons_succ, List.set_cons_zero]
      gi_wp2
      exact hK
    case body =>
      rintro lp pre x W Q2 hno hQ2 ⟨hv, hbw, hmem⟩ hlt
      have hq4 : rs[x].2 ≤ 400 := HBD.out _ (List.getElem_mem _)
      have hm4 : longR (gotR rs pre) ≤ 400 := longR_le_of (fun p hp => HBD.out p (gotR_mem hp))
      have HM := Lib.hid (longR_snoc (gotR rs pre) rs[x]); have HMEM := Lib.hid hmem; have HBW := Lib.hid hbw; have HV := Lib.hid hv
      have hc0 : W.cell? ⟨w.heap.size, 0, none⟩ = some (.int .i64 (longR (gotR rs pre))) := by simp [World.cell?, hv]
      have hf0 : W.frozen? ⟨w.heap.size, 0, none⟩ = false := by simp [World.frozen?, hv]
      have HIN := Lib.hid (show ∀ p ∈ gotR rs pre ++ [rs[x]], p ∈ rs from fun p hp => by
        rw [List.mem_append] at hp
        rcases hp with hp | hp
        · exact hmem p hp
        · simp at hp; subst hp; exact List.getElem_mem _)
      clear hmem hbw hv
      generalize longR (gotR rs pre) = mx at *
      generalize longR (gotR rs pre ++ [rs[x]]) = my at *
      generalize rs[x].2 = q at *
      have hne1 : w1.heap.size ≠ w.heap.size := by omega
      by_cases hgt : mx < q
      all_goals
        gi_wp2_with fail
        (try simp only [Exit.inBlock, Exit.then])
        refine hQ2 _ _ ((KeepsOthers.setCell _ _ _).from _) ⟨Below.heap_setCell _ _ _ _ hne1, Below.heap_setCell _ _ _ _ (by simp)⟩ ⟨?_, HBW.out.setCell (p := ⟨w.heap.size, 0, none⟩) (Nat.le_refl _) _, HIN.out⟩
        have := Boxed.set (.int .i64 (my : Int)) HV.out
        unfold Boxed at this
        first
          | (rw [show my = q by rw [HM.out]; omega] at this ⊢; exact this)
          | (rw [show my = mx by rw [HM.out]; omega] at this ⊢; exact this)
    case done =>
      rintro D W hD ⟨hv, hbw, _⟩ hK
      have HBW := Lib.hid hbw; have HL2 := Lib.hid hK
      have hc0 : W.cell? ⟨w.heap.size, 0, none⟩ = some (.int .i64 (longR rs)) := by simp [World.cell?, hv]
      clear hv hbw hK
      go_wp2_with fail
      (try simp only [Exit.inBlock, Exit.then])
      have hD2 : w.heap.size ≤ D := by have := HS2.out; omega
      refine hQ.marked _ _ D _ rfl HL2.out (results_tmp2 rfl _ _ _) ⟨?_, below_mark HBW.out hD2 HL2.out⟩
      rw [HL.out]; rfl

theorem implIsSpeakable_any (s : ByteArray) (w : World) (hs : s.size ≤ maxLen) :
    Calls Try.prog 33 #[.string s] w fun e w' => e = .returned (.tuple #[.bool (speakL s.data.toList), .bool (goodL s.data.toList)]) ∧ Below w.heap.size w w' := by
  cases hg : goodL s.data.toList with
  | false =>
    have HG := Lib.hid hg; clear hg
    go_enter Try.func33, Try.ntmps33
    go_wp2_with fail
    refine (implLongestRun_any s w hs).mono ?_
    rintro e w1 ⟨rfl, hb⟩
    rw [HG.out]
    have HB := Lib.hid hb; clear hb
    go_wp2_with fail
    go_ret2
    exact ⟨by unfold speakL; rw [HG.out]; rfl, HB.out⟩
  | true =>
    have HG := Lib.hid hg; clear hg
    obtain ⟨n, hn⟩ : ∃ n, n = longL s.data.toList := ⟨_, rfl⟩
    have HN := Lib.hid hn; clear hn
    go_enter Try.func33, Try.ntmps33
    go_wp2_with fail
    refine (implLongestRun_any s w hs).mono ?_
    rintro e w1 ⟨rfl, hb⟩
    rw [HG.out, if_pos rfl, ← HN.out]
    have HB := Lib.hid hb; clear hb
    go_wp2_with fail
    go_ret2
    exact ⟨by unfold speakL; rw [HG.out, ← HN.out, Bool.true_and, show decide (n ≤ 9) = decide ((n : Int) ≤ 9) from by simp only [decide_eq_decide]; omega]; rfl, HB.out⟩

/-- A bool and a row of rows, or nil and false. -/
def RowsOk (l : List UInt8) (w w' : World) (e : Ending) : Prop :=
  ∃ v vs, e = .returned (.tuple #[v, .bool (goodL l)]) ∧ OwnsRR w' w.heap.size 47 3 v vs (if goodL l = true then rowsL l else []) ∧ Below w.heap.size w w'

end Go.Proofs.Ythbjaclobllkhaa
