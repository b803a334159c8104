/- Where a text splits: the program's splitPlaces. -/
import Derived.Test.YtgmknehioadjhaaK8
import Derived.Scope
import Derived.Walk3
namespace Go.Proofs.Ytgmknehioadjhaa
open Go.RowKit Go.BigFrame Go.Shelf
set_option linter.unusedSimpArgs false
set_option linter.unusedVariables false
set_option maxRecDepth 4000
attribute [local go_sem] Oper.semAt_some

/-- The marks of loops over iterators among a function's deferred calls. -/
def marksOf (Ds : List Nat) : List Deferred := Ds.map (fun D => { target := .collected D, args := #[] })
def closeAll (Ds : List Nat) (W : World) : World := Ds.foldl (fun W D => W.putObj D (.deferred none)) W
theorem closeAll_other : ∀ (Ds : List Nat) (W : World) (k : Nat), k ∉ Ds → (closeAll Ds W).heap[k]? = W.heap[k]?
  | [], _, _, _ => rfl
  | D :: Ds, W, k, h => by
    have h2 := closeAll_other Ds (W.putObj D (.deferred none)) k (fun hk => h (by simp [hk]))
    have h3 : k ≠ D := fun e => h (by simp [e])
    exact h2.trans (World.putObj_heap_other h3)
theorem closeAll_below {w : World} : ∀ (Ds : List Nat) (W : World), Below w.heap.size w W → Ds.Nodup → (∀ D ∈ Ds, w.heap.size ≤ D ∧ W.heap[D]? = some (.deferred (some []))) → Below w.heap.size w (closeAll Ds W)
  | [], _, h, _, _ => h
  | D :: Ds, W, h, hn, ho => by
    rw [List.nodup_cons] at hn
    refine closeAll_below Ds _ (below_mark h (ho D (by simp)).1 (ho D (by simp)).2) hn.2 (fun E hE => ⟨(ho E (by simp [hE])).1, ?_⟩)
    have hne : E ≠ D := fun e => hn.1 (e ▸ hE)
    exact (World.putObj_heap_other hne).trans (ho E (by simp [hE])).2
/-- How a function that loops over iterators again and again is left. -/
def LeavesMany (fn : Func) (R : Ending → World → Prop) (Q : Exit → Act → World → Prop) : Prop :=
  ∀ a W Ds v, a.defers = marksOf Ds → Ds.Nodup → (∀ D ∈ Ds, W.heap[D]? = some (.deferred (some []))) → (results fn a.tmps).run Try.prog (closeAll Ds W) = .ok v (closeAll Ds W) → R (.returned v) (closeAll Ds W) → Q .ret a W
theorem leaves_many {fn : Func} {tmps : Array Value} {R : Ending → World → Prop} {v : Value} : ∀ (Ds : List Nat) (W : World), Ds.Nodup → (∀ D ∈ Ds, W.heap[D]? = some (.deferred (some []))) →
    (results fn tmps).run Try.prog (closeAll Ds W) = .ok v (closeAll Ds W) → R (.returned v) (closeAll Ds W) → LeavesInM Fence.wide 9 Try.prog fn tmps R (marksOf Ds) .returning W
  | [], W, _, _, hr, hR => ⟨v, hr, hR⟩
  | D :: Ds, W, hn, ho, hr, hR => by
    rw [List.nodup_cons] at hn
    refine ⟨by simp, .inl ⟨D, W.putObj D (.deferred none), rfl, run_takeDeferred (ho D (by simp)), leaves_many Ds _ hn.2 (fun E hE => ?_) hr hR⟩⟩
    have hne : E ≠ D := fun e => hn.1 (e ▸ hE)
    exact (World.putObj_heap_other hne).trans (ho E (by simp [hE]))
theorem calls_many {f : FuncId} {fn : Func} {c : Code} {args : Array Value} {w : World} {R : Ending → World → Prop} (hf : Try.prog.funcs[f]? = some fn) (hb : fn.body = some c)
    (h : ∀ Q, LeavesMany fn R Q → c.wp Try.prog Q { tmps := args ++ Array.replicate (fn.ntmps - args.size) undef, defers := [] } w) : Calls Try.prog f args w R := by
  refine (callsIn_wide (n := 9)).1 (callsIn_of_wp_marks hf hb trivial (wpIn_wide.2 (h _ ?_)) rfl)
  rintro ⟨tmps, ds⟩ W Ds v hd hn ho hr hR
  simp only at hd; subst hd
  exact leaves_many Ds W hn ho hr hR

/-- What an append leaves of the boxes beside it. -/
theorem place_app {w W3 w4 : World} {v x y : Value} {xs : List Int} {s : ByteArray} {B : Nat} (hgrow : (W3.alloc (.cells #[y] 3)).grownBy w4 v.ownBlock)
    (h1 : Boxed W3 w.heap.size 9 (.string s)) (h2 : Boxed W3 B 3 x) (h3 : Ints W3 w.heap.size v xs) (h4 : Below w.heap.size w W3) (hv : v.ownBlock ≠ some B) :
    Boxed w4 w.heap.size 9 (.string s) ∧ Boxed w4 B 3 x ∧ Below w.heap.size w w4 ∧ (∀ (E : Nat), W3.heap[E]? = some (Obj.deferred (some [])) → w4.heap[E]? = some (Obj.deferred (some []))) ∧ W3.heap.size + 1 ≤ w4.heap.size := by
  refine ⟨(h1.alloc _).kept hgrow (fun e => (h1.not_row (by decide) h3) e), (h2.alloc _).kept hgrow (fun e => hv e.symm), (h4.alloc h4.size _).grown hgrow (by have := h4.size; simp; omega) (fun g hg => (h3.lt g hg).1), fun E hE => ?_, by have := hgrow.size; simpa using this⟩
  have e1 := (below_alloc W3 (.cells #[y] 3)).block E (Array.getElem?_eq_some_iff.1 hE).1
  have e2 := e1.trans hE
  refine (hgrow.block E (Array.getElem?_eq_some_iff.1 e2).1 (fun e => ?_)).trans e2
  obtain ⟨cs, fz, hcs⟩ := own_cells (h3.alloc (.cells #[y] 3)) e.symm
  rw [hcs] at e2; cases e2

/-- Where the loop over the places stands; n rounds are to come. -/
def SplitInv (s : ByteArray) (w : World) (n : Nat) (a : Act) (W : World) : Prop :=
  ∃ (k : Nat) (Ds : List Nat) (v : Value) (B : Nat) (u5 u6 u7 u8 u9 u10 u11 u12 u13 u14 u15 u16 u17 u18 u19 u20 u21 u22 u23 u24 u25 u26 u27 u28 u29 : Value),
    a = { tmps := #[.string s, .pointer (some ⟨w.heap.size, 0, none⟩), .slice none 0 0, v, .pointer (some ⟨B, 0, none⟩), u5, u6, u7, u8, u9, u10, u11, u12, u13, u14, u15, u16, u17, u18, u19, u20, u21, u22, u23, u24, u25, u26, u27, u28, u29], defers := marksOf Ds } ∧
    n + k = s.size ∧ 1 ≤ k ∧ Boxed W w.heap.size 9 (.string s) ∧ Boxed W B 3 (.int .i64 (k : Nat)) ∧ w.heap.size < B ∧ v.ownBlock ≠ some B ∧ Ints W w.heap.size v (natsI (splitsTo s.data.toList k)) ∧ Below w.heap.size w W ∧
    Ds.Nodup ∧ (∀ D ∈ Ds, w.heap.size ≤ D ∧ W.heap[D]? = some (.deferred (some [])))

set_option maxRecDepth 100000 in
set_option maxHeartbeats 1000000 in
theorem splitPlaces_any (s : ByteArray) (w : World) (hsp : sayB s.data.toList = true) (hs : s.size ≤ 120) :
    Calls Try.prog 72 #[.string s] w fun e w' => ∃ v, e = .returned v ∧ Ints w' w.heap.size v (natsI (splitsL s.data.toList)) ∧ Below w.heap.size w w' := by
  obtain ⟨i0, hi, hz0, hz1, hz2⟩ := info_parts info_int5
  have hn1 : 1 ≤ s.size := by
    have := (sayB_iff.1 hsp).1
    rw [← size_list]; exact Nat.pos_of_ne_zero (fun e => this (List.eq_nil_of_length_eq_zero e))
  have HSP := Lib.hid hsp; clear hsp
  refine calls_many Try.func72 rfl fun Q hQ => ?_
  simp only [Try.ntmps72, List.size_toArray, List.length_cons, List.length_nil, Nat.reduceAdd, Nat.reduceSub, Array.replicate_succ, Array.replicate_zero, List.push_toArray, List.append_toArray, List.nil_append, List.cons_append]
  go_wp2_with fail
  go_step3
  go_wp2_with fail
  go_step3
  go_wp2_with fail
  have hI0 : SplitInv s w (s.size - 1) { tmps := #[.string s, .pointer (some ⟨w.heap.size, 0, none⟩), .slice none 0 0, .slice (some ⟨w.heap.size + 1, 0, none⟩) 0 0, .pointer (some ⟨w.heap.size + 1 + 1, 0, none⟩), undef, .slice (some ⟨w.heap.size + 1, 0, none⟩) 0 0, undef, undef, undef, undef, undef, undef, undef, undef, undef, undef, undef, undef, undef, undef, undef, undef, undef, undef, undef, undef, undef, undef, undef], defers := [] }
      (((w.alloc (.cells #[.string s] 9)).alloc (.cells #[] 3)).alloc (.cells #[.int .i64 1] 3)) := by
    have b1 := (((Boxed.new w 9 (.string s)).alloc (.cells #[] 3)).alloc (.cells #[.int .i64 1] 3))
    have b2 := Boxed.new ((w.alloc (.cells #[.string s] 9)).alloc (.cells #[] 3)) 3 (.int .i64 1)
    rw [World.size_alloc, World.size_alloc] at b2
    have o1 := own_lit (w.alloc (.cells #[.string s] 9)) w.heap.size 3 [] (by simp) (by simp [maxLen])
    rw [World.size_alloc] at o1
    refine ⟨1, [], _, w.heap.size + 1 + 1, _, _, _, _, _, _, _, _, _, _, _, _, _, _, _, _, _, _, _, _, _, _, _, _, _, rfl, by omega, by omega, b1, b2, by omega, by simp [Value.ownBlock], ?_, ?_, List.nodup_nil, fun D hD => by simp at hD⟩
    · rw [splitsTo_one]; exact own_below o1 (below_alloc _ _)
    · exact (((Below.refl _ w).alloc (Nat.le_refl _) _).alloc (by simp) _).alloc (by simp; omega) _
  have HI0 := Lib.hid hI0; clear hI0
  refine wp_loop_ghost (SplitInv s w) (s.size - 1) HI0.out ?_
  intro n a W hI
  obtain ⟨K, hK0⟩ : ∃ K : Act → World → Prop, K = fun a' w' => ∃ n', n' < n ∧ SplitInv s w n' a' w' := ⟨_, rfl⟩
  rw [← hK0]
  have HK := Lib.hid (show ∀ n' a' w', n' < n → SplitInv s w n' a' w' → K a' w' from fun n' a' w' h1 h2 => by rw [hK0]; exact ⟨n', h1, h2⟩)
  clear hK0
  obtain ⟨k, Ds, v, B, u5, u6, u7, u8, u9, u10, u11, u12, u13, u14, u15, u16, u17, u18, u19, u20, u21, u22, u23, u24, u25, u26, u27, u28, u29, rfl, hnk, hk1, hbt, hbp, hwB, hvB, hints, hbw, hnd, hds⟩ := hI
  have HBT := Lib.hid hbt; have HBP := Lib.hid hbp; have HV := Lib.hid hvB; have HIN := Lib.hid hints; have HBW := Lib.hid hbw; have HND := Lib.hid hnd; have HDS := Lib.hid hds
  have hct := hbt.cell; have hcp := hbp.cell
  have hszB := hbp.lt; have hszw := hbw.size
  clear hbt hbp hvB hints hbw hnd hds
  by_cases hlt : k < s.size
  · obtain ⟨m, rfl⟩ : ∃ m, k = m + 1 := ⟨k - 1, by omega⟩
    have hcp2 : W.cell? ⟨B, 0, none⟩ = some (.int .i64 ((m : Int) + 1)) := by rw [hcp]; simp
    clear hcp
    have hd : decide ((m : Int) + 1 < (s.size : Int)) = true := by simp; omega
    obtain ⟨x, hx⟩ : ∃ x, x = s[m] := ⟨_, rfl⟩
    have htl := list_from s (m + 1)
    have hts : (s.extract (m + 1) s.size).size ≤ 120 := by rw [← size_list, htl, List.length_drop, size_list]; omega
    have htp : sayB (s.extract (m + 1) s.size).data.toList = true := by rw [htl]; exact sayB_drop HSP.out (by rw [size_list]; exact hlt)
    have hsb : splitB s.data.toList (m + 1) = !(firstsL (s.extract (m + 1) s.size).data.toList).contains x := by
      unfold splitB apartB
      rw [htl]
      congr 2
      rw [List.take_succ_eq_append_getElem (by rw [size_list]; omega), List.getLastD_concat, hx]
      simp; rfl
    have HSB := Lib.hid hsb; have HTP := Lib.hid htp; have HXX := Lib.hid hx
    clear htl hsb htp hx
    go_wp2_with fail
    refine (firstSigns_is _ _).mono ?_
    rintro e W2 ⟨rfl, hw2⟩
    have hs2 : W2.heap.size = W.heap.size + 1 := by rw [hw2]; simp
    have hbox : W2.cell? ⟨W.heap.size, 0, none⟩ = some (.string (s.extract (m + 1) s.size)) := by rw [hw2]; simp [go_sem]
    have hb2 : Below W.heap.size W W2 := by rw [hw2]; exact below_alloc _ _
    have HS2 := Lib.hid hs2; have HX := Lib.hid hbox; have HB2 := Lib.hid hb2
    clear hw2 hs2 hbox hb2
    go_wp2_with fail
    refine wp_signs (s.extract (m + 1) s.size) HTP.out hts W.heap.size (by rw [HS2.out]; omega) HX.out rfl
      (fun got W' => Below W2.heap.size W2 W' ∧ got.contains x = false)
      (OwnFrom.and (ownFrom_below (Nat.le_refl _) (Nat.le_refl _)) (fun _ _ _ _ h _ _ => h))
      ⟨Below.refl _ _, rfl⟩
      (fun c got W' => c = .exit 1 ∧ Below W2.heap.size W2 W' ∧ got.contains x = true)
      (fun c => OwnFrom.and (fun _ _ _ _ h _ _ => h) (OwnFrom.and (ownFrom_below (Nat.le_refl _) (Nat.le_refl _)) (fun _ _ _ _ h _ _ => h)))
      (fun y => { tmps := #[.string s, .pointer (some ⟨w.heap.size, 0, none⟩), .slice none 0 0, v, .pointer (some ⟨B, 0, none⟩), .int .u8 (((sayN y (s.extract (m + 1) s.size).data.toList).headD 0).toNat : Int), u6, .int .i64 ((m : Int) + 1), .string s, .int .i64 (s.size : Int), .bool true, u11, u12, .string s, .int .i64 ((m : Int) + 1), .string (s.extract (m + 1) s.size), .func (.func 96) #[] #[.pointer (some ⟨W.heap.size, 0, none⟩)], .int .u8 (((sayN y (s.extract (m + 1) s.size).data.toList).headD 0).toNat : Int), u18, u19, u20, u21, u22, u23, u24, u25, u26, u27, u28, u29], defers := [] }) ?assign ?body ?done ?stop
    case assign =>
      intro lp y W' K hK
      simp only [List.setIfInBounds_toArray, List.set_cons_succ, List.set_cons_zero]
      gi_wp2
      exact hK
    case body =>
      rintro lp pre y W' Q2 hno hQn - hQe - ⟨hbw', e5⟩ hlt2
      have hcon : (gotS (s.extract (m + 1) s.size).data.toList pre ++ [(sayN y (s.extract (m + 1) s.size).data.toList).headD 0]).contains x = (x == (sayN y (s.extract (m + 1) s.size).data.toList).headD 0) := by
        simp only [List.contains_eq_mem, decide_eq_false_iff_not] at e5
        simp only [List.contains_eq_mem, List.mem_append, List.mem_singleton, e5, false_or]
        rw [Bool.eq_iff_iff]; simp
      have HC := Lib.hid hcon; have HBW' := Lib.hid hbw'
      clear hcon e5
      generalize gotS (s.extract (m + 1) s.size).data.toList pre ++ [(sayN y (s.extract (m + 1) s.size).data.toList).headD 0] = got2 at *
      generalize (sayN y (s.extract (m + 1) s.size).data.toList).headD 0 = d at *
      have hlW : w.heap.size < W.heap.size := HBT.out.lt
      have ht2 : W'.cell? ⟨w.heap.size, 0, none⟩ = some (.string s) := (hbw'.cell (p := ⟨w.heap.size, 0, none⟩) (by show w.heap.size < W2.heap.size; rw [HS2.out]; omega)).trans ((HB2.out.cell (p := ⟨w.heap.size, 0, none⟩) hlW).trans hct)
      have hp2 : W'.cell? ⟨B, 0, none⟩ = some (.int .i64 ((m : Int) + 1)) := (hbw'.cell (p := ⟨B, 0, none⟩) (by show B < W2.heap.size; rw [HS2.out]; omega)).trans ((HB2.out.cell (p := ⟨B, 0, none⟩) hszB).trans hcp2)
      clear hct hcp2 hbw'
      by_cases hxd : x = d
      · have hbe : ((d.toNat : Int) == (s[m].toNat : Int)) = true := by rw [← HXX.out, hxd]; simp
        have HXD : Hid (got2.contains x = true) := by rw [HC.out, hxd]; simp; exact trivial
        clear hxd
        gi_wp2_with fail
        exact hQe _ _ 1 (KeepsFrom.refl _ _) ⟨by first | rfl | trivial, HBW'.out, HXD.out⟩
      · have hbe : ((d.toNat : Int) == (s[m].toNat : Int)) = false := by
          rw [← HXX.out]; simp; intro e; exact hxd (UInt8.toNat_inj.1 (by omega))
        have HXD : Hid (got2.contains x = false) := by rw [HC.out]; simp; exact hxd
        clear hxd
        gi_wp2_with fail
        exact hQn _ _ (KeepsFrom.refl _ _) ⟨HBW'.out, HXD.out⟩
    case done =>
      rintro D W3 hD ⟨hb3, hcf⟩ hKD
      have hspl : splitB s.data.toList (m + 1) = true := by rw [HSB.out, hcf]; rfl
      have hst := splitsTo_succ s.data.toList (m + 1) (by omega)
      rw [hspl, if_pos rfl] at hst
      have hxl := splitsTo_len s.data.toList (m + 1)
      have hnl : (natsI (splitsTo s.data.toList (m + 1))).length ≤ 120 := by rw [natsI_len]; omega
      have hni : natsI (splitsTo s.data.toList (m + 1 + 1)) = natsI (splitsTo s.data.toList (m + 1)) ++ [((m : Int) + 1)] := by rw [hst]; simp [natsI]
      have HNI := Lib.hid hni
      clear hspl hst hxl hni
      have b23 : Below W.heap.size W W3 := HB2.out.trans (hb3.mono HB2.out.size)
      have C1 := Lib.hid (show Boxed W3 w.heap.size 9 (.string s) from (b23.block _ HBT.out.lt).trans HBT.out)
      have C2 := Lib.hid (show Boxed W3 B 3 (.int .i64 ((m : Int) + 1)) from (b23.block _ HBP.out.lt).trans HBP.out)
      have C3 := Lib.hid (own_below HIN.out b23)
      have C4 := Lib.hid (HBW.out.trans (b23.mono HBW.out.size))
      have C5 : Hid (∀ E ∈ Ds, w.heap.size ≤ E ∧ W3.heap[E]? = some (.deferred (some []))) := fun E hE => ⟨(HDS.out E hE).1, (b23.block E (Array.getElem?_eq_some_iff.1 (HDS.out E hE).2).1).trans (HDS.out E hE).2⟩
      have C6 : Hid (D ∉ Ds) := fun hin => by
        have h1 := (Array.getElem?_eq_some_iff.1 (HDS.out D hin).2).1
        have h2 := HS2.out; omega
      have C7 := Lib.hid hKD
      have hDw : w.heap.size ≤ D := by have h2 := HS2.out; omega
      have hs3 : W2.heap.size ≤ W3.heap.size := hb3.size
      have hB3 : B < W3.heap.size := by have h2 := HS2.out; omega
      have hcp3 := C2.out.cell
      clear hct hcp2 hb3 b23 hcf hKD
      generalize natsI (splitsTo s.data.toList (m + 1)) = xs at *
      go_wp2_with (at_builtin; refine wpList_append_own _ rfl _ _ 30 rfl w.heap.size 3 i0 (.int .i64 0) 1 8 Try.underlying30 hi hz0 hz1 hz2 rfl (by decide) _ _ _ rfl (C3.out.alloc _) ⟨W3.heap.size, 0, none⟩ 1 1 [.int .i64 ((m : Int) + 1)] rfl rfl (cell_one_new _ _ _) (by simp [Value.oneCell']) (by unfold maxLen; omega) (by omega) (by have := C4.out.size; simp; omega) ?_; intro v' w4 hown' hgrow _; obtain ⟨e1, e2, e4, e5, hg0⟩ := place_app hgrow C1.out C2.out C3.out C4.out HV.out; have hcp4 := e2.cell; have E1 := Lib.hid e1; have E2 := Lib.hid e2; have E3 := Lib.hid hown'; have E4 := Lib.hid e4; have E5 := Lib.hid e5; clear e1 e2 e4 e5 hown' hgrow hcp3)
      refine HK.out (n - 1) _ _ (by omega) ⟨m + 1 + 1, D :: Ds, _, _, _, _, _, _, _, _, _, _, _, _, _, _, _, _, _, _, _, _, _, _, _, _, _, _, _, rfl, by omega, by omega, E1.out.alloc _, ?_, by have := E4.out.size; omega, ?_, ?_, E4.out.trans ((below_alloc _ _).mono E4.out.size), List.nodup_cons.2 ⟨C6.out, HND.out⟩, ?_⟩
      · exact Boxed.new _ _ _
      · intro e
        have := (E3.out.lt _ e).2
        omega
      · rw [HNI.out]
        exact own_below (show Ints w4 w.heap.size v' (xs ++ [(m : Int) + 1]) by unfold Ints; simpa using E3.out) (below_alloc _ _)
      · intro E hE
        have key : w.heap.size ≤ E ∧ w4.heap[E]? = some (Obj.deferred (some [])) := by
          rcases List.mem_cons.1 hE with rfl | hE
          · exact ⟨hDw, E5.out _ C7.out⟩
          · exact ⟨(C5.out E hE).1, E5.out _ (C5.out E hE).2⟩
        exact ⟨key.1, ((below_alloc w4 _).block E (Array.getElem?_eq_some_iff.1 key.2).1).trans key.2⟩
    case stop =>
      rintro D c j W3 hD hj ⟨rfl, hb3, hcf⟩ hKD
      have hspl : splitB s.data.toList (m + 1) = false := by
        have hin : (firstsL (s.extract (m + 1) s.size).data.toList).contains x = true := by
          simp only [List.contains_eq_mem, decide_eq_true_eq] at hcf ⊢
          exact List.mem_of_mem_take hcf
        rw [HSB.out, hin]; rfl
      have hst := splitsTo_succ s.data.toList (m + 1) (by omega)
      rw [hspl, if_neg (by simp), List.append_nil] at hst
      have HNI := Lib.hid hst
      clear hspl hst
      have b23 : Below W.heap.size W W3 := HB2.out.trans (hb3.mono HB2.out.size)
      have C1 := Lib.hid (show Boxed W3 w.heap.size 9 (.string s) from (b23.block _ HBT.out.lt).trans HBT.out)
      have C2 := Lib.hid (show Boxed W3 B 3 (.int .i64 ((m : Int) + 1)) from (b23.block _ HBP.out.lt).trans HBP.out)
      have C3 := Lib.hid (own_below HIN.out b23)
      have C4 := Lib.hid (HBW.out.trans (b23.mono HBW.out.size))
      have C5 : Hid (∀ E ∈ Ds, w.heap.size ≤ E ∧ W3.heap[E]? = some (.deferred (some []))) := fun E hE => ⟨(HDS.out E hE).1, (b23.block E (Array.getElem?_eq_some_iff.1 (HDS.out E hE).2).1).trans (HDS.out E hE).2⟩
      have C6 : Hid (D ∉ Ds) := fun hin => by
        have h1 := (Array.getElem?_eq_some_iff.1 (HDS.out D hin).2).1
        have h2 := HS2.out; omega
      have C7 := Lib.hid hKD
      have hDw : w.heap.size ≤ D := by have h2 := HS2.out; omega
      have hs3 : W2.heap.size ≤ W3.heap.size := hb3.size
      have hB3 : B < W3.heap.size := by have h2 := HS2.out; omega
      have hcp3 := C2.out.cell
      clear hct hcp2 hb3 b23 hcf hKD
      go_wp2_with fail
      refine HK.out (n - 1) _ _ (by omega) ⟨m + 1 + 1, D :: Ds, _, _, _, _, _, _, _, _, _, _, _, _, _, _, _, _, _, _, _, _, _, _, _, _, _, _, _, rfl, by omega, by omega, C1.out.alloc _, ?_, by have := C4.out.size; omega, ?_, ?_, C4.out.trans ((below_alloc _ _).mono C4.out.size), List.nodup_cons.2 ⟨C6.out, HND.out⟩, ?_⟩
      · exact Boxed.new _ _ _
      · intro e
        have := (C3.out.lt _ e).2
        omega
      · rw [HNI.out]
        exact own_below C3.out (below_alloc _ _)
      · intro E hE
        have key : w.heap.size ≤ E ∧ W3.heap[E]? = some (Obj.deferred (some [])) := by
          rcases List.mem_cons.1 hE with rfl | hE
          · exact ⟨hDw, C7.out⟩
          · exact ⟨(C5.out E hE).1, (C5.out E hE).2⟩
        exact ⟨key.1, ((below_alloc W3 _).block E (Array.getElem?_eq_some_iff.1 key.2).1).trans key.2⟩
  · have hkk : k = s.size := by omega
    go_wp2_with fail
    rw [Exit.noGoto_ret]
    have hcl : ∀ D ∈ Ds, W.heap[D]? = some (.deferred (some [])) := fun D hD => (HDS.out D hD).2
    have hown : (closeAll Ds W).ownsRow w.heap.size 3 1 v (natsI (splitsTo s.data.toList k)).length ((natsI (splitsTo s.data.toList k)).map (.int .i64)) := by
      refine own_block HIN.out (fun g hg => closeAll_other Ds W g (fun hin => ?_))
      obtain ⟨cs, f, hcs⟩ := own_cells HIN.out hg
      rw [hcl g hin] at hcs; cases hcs
    refine hQ _ _ Ds _ rfl HND.out hcl (results_tmp rfl _ _ _) ⟨v, rfl, ?_, closeAll_below Ds W HBW.out HND.out HDS.out⟩
    unfold splitsL
    rw [size_list, ← hkk]
    exact hown
end Go.Proofs.Ytgmknehioadjhaa
