/- Chapter 7: WayOfCounting (model: the rest; program). -/
import Derived.Test.YtampjipbemmicaaDoor80
namespace Go.Proofs.YtampjipbemmicaaDoor
open Go.RowKit Go.BigFrame Go.Deep
set_option linter.unusedSimpArgs false
set_option linter.unusedVariables false
set_option maxRecDepth 4000

theorem wayO_good {ns : List (List UInt8)} {fr : List UInt8} {xs : List Int} {N : Nat} (h : toldB ns fr xs = true) (hN : N ≤ 30) : wayO ns fr xs (N : Int) = wayQ ns fr N xs := by
  unfold wayO; rw [if_pos ⟨h, by omega, by omega⟩]; rfl
theorem wayO_told {ns : List (List UInt8)} {fr : List UInt8} {xs : List Int} {n : Int} (h : toldB ns fr xs = false) : wayO ns fr xs n = none := by
  unfold wayO; rw [if_neg (fun e => by rw [h] at e; cases e.1)]
theorem wayO_far {ns : List (List UInt8)} {fr : List UInt8} {xs : List Int} {n : Int} (h : ¬ (0 ≤ n ∧ n ≤ 30)) : wayO ns fr xs n = none := by
  unfold wayO; rw [if_neg (fun e => h e.2)]

/-- Rows and whether there are any. -/
def RowsOk (o : Option (List (List Int))) (w w' : World) (e : Ending) : Prop :=
  ∃ v vs, e = .returned (.tuple #[v, .bool o.isSome]) ∧ IntsRA w' w.heap.size v vs (o.getD []) ∧ Below w.heap.size w w'
theorem rowsOk_of {o : Option (List (List Int))} {w w' : World} {e : Ending} (h : TellOk o w w' e) : RowsOk o w w' e := by
  obtain ⟨v, vs, h1, h2, h3, _⟩ := h
  exact ⟨v, vs, h1, h2, h3⟩
set_option maxHeartbeats 1000000 in
theorem specWayOfCounting_any (w : World) (B : Nat) (u v : Value) (ns : List (List UInt8)) (fr : List UInt8) (xs : List Int) (n : Int) (h : ArgS w u ns) (hf : fr.length ≤ 9223372036854775807) (ha : IntsA w B v xs) :
    Calls Tryd.prog 34 #[.agg #[u, .string (bs fr)], v, .int .i64 n] w fun e w' => RowsOk (wayO ns fr xs n) w w' e := by
  have hTL := fun (W : World) (hb : Below w.heap.size w W) => snTold_any W u v ns fr xs (argS_below h hb) hf (argL_below (argL_of ha) hb)
  cases ht : toldB ns fr xs with
  | false =>
    rw [wayO_told ht]
    rw [ht] at hTL
    have HTL := Lib.hid hTL
    clear ht hTL h ha
    go_enter Tryd.func34, Tryd.ntmps34
    go_wp2_with fail
    refine (HTL.out _ (below_alloc _ _)).mono ?_
    rintro e w1 ⟨rfl, hb⟩
    have HB := Lib.hid (below_trans (below_alloc _ _) hb); clear hb
    go_wp2_with fail
    go_ret2
    exact rowsOk_of (tellOk_none HB.out)
  | true =>
    by_cases hn : 0 ≤ n ∧ n ≤ 30
    · obtain ⟨N, rfl⟩ := Int.eq_ofNat_of_zero_le hn.1
      rw [wayO_good ht (by omega)]
      exact (specWayOfCounting_good w B u v ns fr xs N h hf ha ht (by omega)).mono fun e w' h => rowsOk_of h
    · rw [wayO_far hn]
      rw [ht] at hTL
      have HTL := Lib.hid hTL
      have hd : decide ((0 : Int) ≤ n ∧ n ≤ 30) = false := decide_eq_false hn
      have HD := Lib.hid hd
      clear ht hTL h ha hd hn
      go_enter Tryd.func34, Tryd.ntmps34
      go_wp2_with fail
      refine (HTL.out _ (below_alloc _ _)).mono ?_
      rintro e w1 ⟨rfl, hb⟩
      have HB := Lib.hid (below_trans (below_alloc _ _) hb); clear hb
      go_wp2_with fail
      refine (l1In_is false _ _ _ _ HD.out).mono ?_
      rintro e w1' ⟨rfl, rfl⟩
      go_wp2_with fail
      go_ret2
      exact rowsOk_of (tellOk_none HB.out)

set_option maxHeartbeats 1000000 in
theorem wayClosure_any (w : World) (bx : Nat) (u v : Value) (ns : List (List UInt8)) (fr : List UInt8) (ys : List Int) (h : ArgS w u ns) (hf : fr.length ≤ 9223372036854775807) (hbx : TwoAt w bx u (.string (bs fr)) 27) (hv : ArgL w v ys) :
    Calls Tryd.prog 69 #[v, .pointer (some ⟨bx, 0, none⟩)] w fun e w' => ListOk (againL ns fr ys) w w' e := by
  have HC := Lib.hid (implCountAgain_any w u v ns fr ys h hf hv)
  obtain ⟨c0, c1, _, _⟩ := hbx.cells
  obtain ⟨O, hO⟩ : ∃ O, O = againL ns fr ys := ⟨_, rfl⟩
  rw [← hO] at HC ⊢
  obtain ⟨A, C, rfl, _, _⟩ := hv
  clear h hbx hO
  go_enter Tryd.func69, Tryd.ntmps69
  go_wp2_with fail
  refine HC.out.mono ?_
  rintro e w1 ⟨v1, rfl, hi, hb⟩
  have HI := Lib.hid hi; have HB := Lib.hid hb; clear hi hb
  go_wp2_with fail
  go_ret2
  exact ⟨_, rfl, HI.out, HB.out⟩

set_option maxHeartbeats 4000000 in
theorem wayFromQ_any (w : World) (B g c bx : Nat) (u : Value) (ns : List (List UInt8)) (fr : List UInt8) (xs : List Int) (N L : Nat) (h : ArgS w u ns) (hf : fr.length ≤ 9223372036854775807) (hbx : TwoAt w bx u (.string (bs fr)) 27) (ha : IntsA w B (.slice (some ⟨g, 0, none⟩) L c) xs) (hB : B ≤ w.heap.size) (hLL : L = xs.length) (ht : toldB ns fr xs = true) (hN : N ≤ 30) :
    Calls Tryd.prog 67 #[.slice (some ⟨g, 0, none⟩) L c, .int .i64 N, .func (.func 69) #[] #[.pointer (some ⟨bx, 0, none⟩)]] w fun e w' => ∃ v vs, e = .returned (.tuple #[v, .bool (wayQ ns fr N xs).isSome]) ∧ IntsRA w' B v vs ((wayQ ns fr N xs).getD []) ∧ Below w.heap.size w w' := by
  obtain ⟨i0, hi, hz0, hz1, hz2⟩ := info_parts info_rowT
  have HM := Lib.hid (fun k ws (e : wayQ ns fr k xs = some ws) => wayQ_mem ht k ws e)
  have HCL := Lib.hid (fun (W : World) (hw : Below w.heap.size w W) (v : Value) (ys : List Int) (hv : ArgL W v ys) => wayClosure_any W bx u v ns fr ys (argS_below h hw) hf (hbx.below hw) hv)
  have h1 : 1 ≤ L := by rw [hLL]; exact (toldB_parts ht).2.1
  have h9 : L ≤ 4 := by rw [hLL]; exact (toldB_parts ht).2.2.1
  rw [← hLL] at HM
  obtain ⟨R, hR⟩ : ∃ R, R = wayQ ns fr N xs := ⟨_, rfl⟩
  rw [← hR]
  have HR := Lib.hid hR
  have HA := Lib.hid ha
  clear ha hLL h hbx hR ht
  go_enter Tryd.func67, Tryd.ntmps67
  go_wp2_with (first
    | (refine wpList_make_own _ rfl _ _ 45 rfl w.heap.size 31 i0 (.slice none 0 0) 1 Tryd.underlying45 hi hz0 hz1 .i64 .i64 ((N : Int) + 1) (N + 1) rfl rfl (by omega) (by rw [hz2]; omega) (by unfold maxLen; omega) (Nat.le_refl _) ?_; intro w1 hown hgr)
    | (at_builtin; refine wpList_app _ rfl _ _ 45 rfl w.heap.size 31 i0 (.slice none 0 0) 24 Tryd.underlying45 hi hz0 hz1 hz2 rfl _ 0 [] rfl (hown.alloc _) ⟨w1.heap.size, 0, none⟩ 1 1 [.slice (some ⟨g, 0, none⟩) L c] rfl rfl ?a1 ?a2 ?a3 ?a4 ?a5 ?_))
  case a1 =>
    intro j u hj
    match j, hj with
    | 0, hj => simp at hj; subst hj; simp [Addr.add]
  case a2 => intro u hu; simp at hu; subst hu; rfl
  case a3 => unfold maxLen; omega
  case a4 => omega
  case a5 => have h1 := hgr.size; simp; omega
  intro v0 w3 hown3 hg3 hw3
  have hbb := (Below.refl w.heap.size w).grown hgr (Nat.le_refl _) (fun k h => by cases h)
  have B0 := Lib.hid ((hbb.alloc hbb.size (.cells #[.slice (some ⟨g, 0, none⟩) L c] 31)).grown hg3 (by have := hbb.size; simp; omega) (fun q hq => (hown.lt q hq).1))
  rcases own_open hown3 with ⟨_, h0, _⟩ | ⟨g3, c3, rfl, hB3, hg3', _, _, _, _, _⟩
  · omega
  have hr0 : IntsRA w3 B (.slice (some ⟨g3, 0, none⟩) (0 + 1) c3) [.slice (some ⟨g, 0, none⟩) L c] [xs] := by
    refine ⟨own_mono (by simpa using hown3) hB, rfl, ?_, ?_, ?_⟩
    · intro i x ys h1 h2
      match i, h1, h2 with
      | 0, h1, h2 =>
        simp at h1 h2; subst h1; subst h2
        exact intsA_below HA.out B0.out
      | i + 1, h1, _ => simp at h1
    · intro i j x x' hij h1 h2
      match i, j, h1, h2 with
      | 0, 0, _, _ => omega
      | i + 1, _, h1, _ => simp at h1
      | 0, j + 1, _, h2 => simp at h2
    · intro i x h1
      match i, h1 with
      | 0, h1 =>
        simp at h1; subst h1
        intro k e1 e2
        have := (intsA_lt HA.out k e1).2
        have e' : g3 = k := by simpa [Value.ownBlock] using e2
        omega
      | i + 1, h1 => simp at h1
  have R0 := Lib.hid hr0
  clear hown3 hg3 hbb hown hgr hw3 hr0
  go_wp2_with fail
  go_loopw [8, 20] (fun v t wr => ∃ (k : Nat) (ws : List (List Int)) (vs : List Value) (g0 d : Nat), k ≤ N ∧ w.heap.size ≤ g0 ∧ t = .int .i64 (k : Int) ∧ v = .slice (some ⟨g0, 0, none⟩) (k + 1) d ∧ Hid (wayQ ns fr k xs = some ws ∧ IntsRA wr B (.slice (some ⟨g0, 0, none⟩) (k + 1) d) vs ws ∧ Below w.heap.size w wr)) (fun _ t _ => N - (intOf t).toNat)
  case atStart => exact ⟨0, _, _, _, _, Nat.zero_le _, hB3, rfl, rfl, rfl, R0.out, B0.out⟩
  case round =>
    obtain ⟨k, ws, vs, g0, d, hk, hg0, rfl, rfl, HX⟩ := hrel
    by_cases hlt : k < N
    · obtain ⟨hl, hmm⟩ := HM.out k ws HX.out.1
      have hlast := last_at hl
      obtain ⟨last, hla⟩ : ∃ last, last = ws.getLastD [] := ⟨_, rfl⟩
      have hstep := wayQ_step HX.out.1
      rw [← hla] at hlast hstep
      obtain ⟨hm1, hm2⟩ := hmm last (List.mem_of_getElem? hlast)
      rcases intsRA_open HX.out.2.1 with ⟨e, _⟩ | ⟨g', cap', e, _, hcp, hg', _, hce⟩
      · cases e
      have hgg : g0 = g' ∧ d = cap' := by simp only [Value.slice.injEq, Option.some.injEq, Addr.mk.injEq] at e; exact ⟨e.1.1, e.2.2⟩
      obtain ⟨rfl, rfl⟩ := hgg
      obtain ⟨uu, hu0, hu, hcu⟩ := hce k (by omega)
      have hrk : ws[k]'(by omega) = last := (List.getElem?_eq_some_iff.1 hlast).2
      rw [hrk] at hu
      have hvl := HX.out.2.1.len
      rw [hl] at hvl
      have hszr := HX.out.2.2.size
      have hca := HCL.out wr HX.out.2.2 uu last (argL_of hu)
      have hagain : againL ns fr last = againO ns fr last := by unfold againL; rw [if_pos hm2]
      rw [hagain] at hca
      obtain ⟨O, hO⟩ : ∃ O, O = againO ns fr last := ⟨_, rfl⟩
      rw [← hO] at hca hstep
      have hOs : ∀ ys, O = some ys → ys.length = L := fun ys e => by rw [(againO_some hm2 (hO.symm.trans e)).2.2]; exact hm1
      have HCA := Lib.hid hca; have HVL := Lib.hid hvl; have HST := Lib.hid hstep
      have hkk : (k : Int) < (N : Int) := by omega
      clear hvl hrk hce hla hlast hu0 hu hm1 hm2 e hmm hl hstep hca hagain hO
      go_wp2_with fail
      refine HCA.out.mono ?_
      rintro e w2 ⟨tv, rfl, hnew, hb2⟩
      cases O with
      | none =>
        have hR0 : R = none := by rw [HR.out]; exact wayQ_none (show k + 1 ≤ N by omega) (by rw [HST.out]; rfl)
        have HR0 := Lib.hid hR0
        have HB2 := Lib.hid (HX.out.2.2.trans (hb2.mono hszr))
        clear hR0 hnew hb2 hOs
        simp only [Option.isSome_none]
        go_wp2_with fail
        go_ret2
        rw [HR0.out]
        exact ⟨_, _, rfl, intsRA_nil _ _, HB2.out⟩
      | some ys =>
      simp only [Option.getD_some, Option.isSome_some] at hnew ⊢
      have hyl := hOs ys rfl
      have hws : wayQ ns fr (k + 1) xs = some (ws ++ [ys]) := by rw [HST.out]; rfl
      have HWS := Lib.hid hws
      obtain ⟨pt, ct, htv, _, _⟩ := intsA_slice hnew
      rw [hyl] at htv
      subst htv
      have hX2 := intsRA_below HX.out.2.1 hb2
      have hX3 := intsRA_below hX2 (below_alloc w2 (.cells #[.slice pt L ct] 31))
      have hN3 := intsA_below hnew (below_alloc w2 (.cells #[.slice pt L ct] 31))
      have HX3 := Lib.hid hX3; have HN3 := Lib.hid hN3; have HX2 := Lib.hid hX2
      have HB2 := Lib.hid (HX.out.2.2.trans (hb2.mono hszr)); have HS2 := Lib.hid hb2.size
      clear hb2 hnew hX2 hX3 hN3 hcu hOs hyl hws
      go_wp2_with (at_builtin; refine wpList_app _ rfl _ _ 45 rfl B 31 i0 (.slice none 0 0) 24 Tryd.underlying45 hi hz0 hz1 hz2 rfl _ (k + 1) vs rfl (by have := HX3.out.outer; rw [← HVL.out] at this; exact this) ⟨w2.heap.size, 0, none⟩ 1 1 [.slice pt L ct] rfl rfl ?c1 ?c2 ?c3 ?c4 ?c5 ?_)
      case c1 =>
        intro j u hj
        match j, hj with
        | 0, hj => simp at hj; subst hj; simp [Addr.add]
      case c2 => intro u hu; simp at hu; subst hu; rfl
      case c3 => unfold maxLen; omega
      case c4 => omega
      case c5 => have := HB2.out.size; simp; omega
      intro v' w3 hown' hgrow hwh
      rcases own_open hown' with ⟨_, h0, _⟩ | ⟨gv, cv', rfl, hBv, hgv, _, _, _, _, _⟩
      · omega
      have hgw : w.heap.size ≤ gv := by
        rcases hwh with h | h
        · have : gv = g0 := by simpa [Value.ownBlock] using h
          omega
        · have : gv = w2.heap.size + 1 := by simpa [Value.ownBlock] using h
          have := HB2.out.size
          omega
      have hsn := intsRA_snoc (u := .slice pt L ct) (xs := ys) HX3.out (intsA_mono HN3.out (by omega)) (fun i u' hi' => by
          intro z e1 e2
          have e' := (intsA_lt HN3.out z e2).1
          obtain ⟨u2, f1, f2⟩ := intsRA_row HX.out.2.1 i (by rw [HX.out.2.1.len]; exact get_lt hi')
          rw [hi'] at f1; cases f1
          have := (intsA_lt f2 z e1).2
          omega) (by
          intro z e1 e2
          have e' := (intsA_lt HN3.out z e1).1
          have := (HX.out.2.1.outer.lt z e2).2
          omega) (by rw [← HVL.out]; exact hown') hgrow (by rw [Go.Deep.nblk_alloc]; exact hwh)
      have R1 := Lib.hid hsn
      have R2 := Lib.hid ((HB2.out.alloc HB2.out.size _).grown hgrow (by have := HB2.out.size; simp; omega) (fun q hq => by
        have e' : g0 = q := by simpa [Value.ownBlock] using hq
        omega))
      clear hown' hgrow hwh hsn
      go_wp2_with fail
      go_roundw
      case rel => exact ⟨k + 1, _, _, _, _, by omega, hgw, by go_num, rfl, HWS.out, R1.out, R2.out⟩
      case measure => simp [intOf] <;> omega
    · obtain rfl : k = N := by omega
      have E : R = some ws := by rw [HR.out]; exact HX.out.1
      subst E
      go_wp2_with fail
      go_ret2
      exact ⟨_, vs, rfl, HX.out.2.1, HX.out.2.2⟩

set_option maxHeartbeats 4000000 in
theorem implWayOfCounting_any (w : World) (B : Nat) (u v : Value) (ns : List (List UInt8)) (fr : List UInt8) (xs : List Int) (n : Int) (h : ArgS w u ns) (hf : fr.length ≤ 9223372036854775807) (ha : IntsA w B v xs) :
    Calls Tryd.prog 35 #[.agg #[u, .string (bs fr)], v, .int .i64 n] w fun e w' => RowsOk (wayO ns fr xs n) w w' e := by
  have hTL := fun (W : World) (hb : Below w.heap.size w W) => canTell_any W u v ns fr xs (argS_below h hb) hf (argL_below (argL_of ha) hb)
  cases ht : toldB ns fr xs with
  | false =>
    rw [wayO_told ht]
    rw [ht] at hTL
    have HTL := Lib.hid hTL
    clear ht hTL h ha
    go_enter Tryd.func35, Tryd.ntmps35
    go_wp2_with fail
    refine (HTL.out _ (below_alloc _ _)).mono ?_
    rintro e w1 ⟨rfl, hb⟩
    have HB := Lib.hid (below_trans (below_alloc _ _) hb); clear hb
    go_wp2_with fail
    go_ret2
    exact rowsOk_of (tellOk_none HB.out)
  | true =>
    rw [ht] at hTL
    have HTL := Lib.hid hTL
    by_cases hn : 0 ≤ n ∧ n ≤ 30
    · obtain ⟨N, rfl⟩ := Int.eq_ofNat_of_zero_le hn.1
      have hN : N ≤ 30 := by omega
      rw [wayO_good ht hN]
      obtain ⟨_, h1, h4, _⟩ := toldB_parts ht
      have HCL := Lib.hid (fun (W : World) (hb : Below w.heap.size w W) => cloneI_any W B v xs (intsA_below ha hb) h1 (by omega))
      obtain ⟨M, hM⟩ : ∃ M, M = xs.length := ⟨_, rfl⟩
      obtain ⟨a, cap, hv, _, _⟩ := intsA_slice ha
      rw [← hM] at HCL hv
      subst hv
      have hd : decide ((0 : Int) ≤ (N : Int) ∧ (N : Int) ≤ 30) = true := by simp; omega
      have HD := Lib.hid hd
      have HWF := Lib.hid (fun (W : World) (B' g c bx : Nat) (hw : Below w.heap.size w W) (hbx : TwoAt W bx u (.string (bs fr)) 27) (hi : IntsA W B' (.slice (some ⟨g, 0, none⟩) M c) xs) (hB' : B' ≤ W.heap.size) => wayFromQ_any W B' g c bx u ns fr xs N M (argS_below h hw) hf hbx hi hB' hM ht hN)
      obtain ⟨R, hR⟩ : ∃ R, R = wayQ ns fr N xs := ⟨_, rfl⟩
      rw [← hR] at HWF ⊢
      clear h ha hM hd hTL ht hn hR
      go_enter Tryd.func35, Tryd.ntmps35
      go_wp2_with fail
      refine (HTL.out _ (below_alloc _ _)).mono ?_
      rintro e w1 ⟨rfl, hb⟩
      have hx1 := (twoAt_new w u (.string (bs fr)) 27).below hb
      have HX1 := Lib.hid hx1
      have HB1 := Lib.hid (below_trans (below_alloc _ _) hb); clear hb hx1
      go_wp2_with fail
      refine (isWithin_is true _ _ _ _ HD.out).mono ?_
      rintro e w1' ⟨rfl, rfl⟩
      go_wp2_with fail
      refine (HCL.out _ HB1.out).mono ?_
      rintro e w2 ⟨g, c, rfl, ho, hb⟩
      have HO := Lib.hid ho; have HX2 := Lib.hid (HX1.out.below hb); have HB2 := Lib.hid (below_trans HB1.out hb); have HS2 := Lib.hid hb.size
      clear ho hb
      go_wp2_with fail
      refine (HWF.out _ w1.heap.size g c w.heap.size HB2.out HX2.out HO.out HS2.out).mono ?_
      rintro e w3 ⟨v3, vs3, rfl, hr3, hb3⟩
      have HR3 := Lib.hid hr3; have HB3 := Lib.hid (below_trans HB2.out hb3)
      clear hr3 hb3
      go_wp2_with fail
      go_ret2
      exact ⟨v3, vs3, rfl, intsRA_mono HR3.out HB1.out.size, HB3.out⟩
    · rw [wayO_far hn]
      have hd : decide ((0 : Int) ≤ n ∧ n ≤ 30) = false := decide_eq_false hn
      have HD := Lib.hid hd
      clear ht hTL h ha hd hn
      go_enter Tryd.func35, Tryd.ntmps35
      go_wp2_with fail
      refine (HTL.out _ (below_alloc _ _)).mono ?_
      rintro e w1 ⟨rfl, hb⟩
      have HB := Lib.hid (below_trans (below_alloc _ _) hb); clear hb
      go_wp2_with fail
      refine (isWithin_is false _ _ _ _ HD.out).mono ?_
      rintro e w1' ⟨rfl, rfl⟩
      go_wp2_with fail
      go_ret2
      exact rowsOk_of (tellOk_none HB.out)
end Go.Proofs.YtampjipbemmicaaDoor
