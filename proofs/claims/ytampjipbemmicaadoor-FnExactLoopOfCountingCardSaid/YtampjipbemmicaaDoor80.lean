/- Chapter 7: ways of counting (pure); the model's WayOfCounting. -/
import Derived.Test.YtampjipbemmicaaDoor7Z
import Derived.Deep.RegionWith
namespace Go.Proofs.YtampjipbemmicaaDoor
open Go.RowKit Go.BigFrame Go.Deep
set_option linter.unusedSimpArgs false
set_option linter.unusedVariables false
set_option maxRecDepth 4000

/-- The told numbers, what is counted, and so on, n times. -/
def wayQ (ns : List (List UInt8)) (fr : List UInt8) : Nat → List Int → Option (List (List Int))
  | 0, xs => some [xs]
  | n + 1, xs => (wayQ ns fr n xs).bind fun ws => (againO ns fr (ws.getLastD [])).map fun ys => ws ++ [ys]
theorem againO_some {ns : List (List UInt8)} {fr : List UInt8} {xs ys : List Int} (h : toldB ns fr xs = true) (e : againO ns fr xs = some ys) : ys = cntL ns fr xs ∧ toldB ns fr ys = true ∧ ys.length = xs.length := by
  unfold againO at e
  by_cases hq : (cntL ns fr xs).all (inB 0 ((ns.length : Int) - 1)) = true
  · rw [if_pos hq] at e
    obtain rfl : cntL ns fr xs = ys := by simpa using e
    exact ⟨rfl, by rw [told_again h]; exact hq, cntL_len _ _ _⟩
  · rw [if_neg hq] at e; cases e
theorem getLastD_mem {α : Type} {l : List (List α)} (h : l ≠ []) : l.getLastD [] ∈ l := by
  rw [List.getLastD_eq_getLast?, List.getLast?_eq_some_getLast h]; exact List.getLast_mem _
theorem wayQ_mem {ns : List (List UInt8)} {fr : List UInt8} {xs : List Int} (ht : toldB ns fr xs = true) : ∀ n ws, wayQ ns fr n xs = some ws → ws.length = n + 1 ∧ ∀ m ∈ ws, m.length = xs.length ∧ toldB ns fr m = true
  | 0, ws, h => by
    obtain rfl : [xs] = ws := by simpa [wayQ] using h
    exact ⟨rfl, fun m hm => by simp at hm; subst hm; exact ⟨rfl, ht⟩⟩
  | n + 1, ws, h => by
    rw [wayQ] at h
    cases h1 : wayQ ns fr n xs with
    | none => rw [h1] at h; exact absurd h (by simp)
    | some vs =>
      rw [h1] at h
      obtain ⟨i1, i2⟩ := wayQ_mem ht n vs h1
      have hl := i2 _ (getLastD_mem (l := vs) (by intro e; simp [e] at i1))
      cases h2 : againO ns fr (vs.getLastD []) with
      | none => rw [Option.bind_some, h2] at h; exact absurd h (by simp)
      | some ys =>
        rw [Option.bind_some, h2] at h
        obtain rfl : vs ++ [ys] = ws := by simpa using h
        obtain ⟨_, a2, a3⟩ := againO_some hl.2 h2
        refine ⟨by simp [i1], fun m hm => ?_⟩
        rcases List.mem_append.1 hm with hm | hm
        · exact i2 m hm
        · simp at hm; subst hm; exact ⟨by rw [a3]; exact hl.1, a2⟩
theorem wayQ_none {ns : List (List UInt8)} {fr : List UInt8} {xs : List Int} {n m : Nat} (h : n ≤ m) (h0 : wayQ ns fr n xs = none) : wayQ ns fr m xs = none := by
  induction h with
  | refl => exact h0
  | step _ ih => rw [wayQ, ih]; rfl
theorem wayQ_step {ns : List (List UInt8)} {fr : List UInt8} {xs : List Int} {n : Nat} {ws : List (List Int)} (h : wayQ ns fr n xs = some ws) : wayQ ns fr (n + 1) xs = (againO ns fr (ws.getLastD [])).map fun ys => ws ++ [ys] := by
  rw [wayQ, h]; rfl
theorem last_at {ws : List (List Int)} {n : Nat} (h : ws.length = n + 1) : ws[n]? = some (ws.getLastD []) := by
  rw [List.getLastD_eq_getLast?, List.getLast?_eq_getElem?, h]
  simp [show n < ws.length by omega]
def wayO (ns : List (List UInt8)) (fr : List UInt8) (xs : List Int) (n : Int) : Option (List (List Int)) := if toldB ns fr xs = true ∧ 0 ≤ n ∧ n ≤ 30 then wayQ ns fr n.toNat xs else none
theorem tellOk_none {w w' : World} (hb : Below w.heap.size w w') : TellOk none w w' (.returned (.tuple #[.slice none 0 0, .bool false])) := ⟨_, _, rfl, intsRA_nil _ _, hb, fun _ => rfl⟩

set_option maxHeartbeats 4000000 in
theorem specWayOfCounting_good (w : World) (B : Nat) (u v : Value) (ns : List (List UInt8)) (fr : List UInt8) (xs : List Int) (N : Nat) (h : ArgS w u ns) (hf : fr.length ≤ 9223372036854775807) (ha : IntsA w B v xs) (ht : toldB ns fr xs = true) (hN : N ≤ 30) :
    Calls Tryd.prog 34 #[.agg #[u, .string (bs fr)], v, .int .i64 (N : Int)] w fun e w' => TellOk (wayQ ns fr N xs) w w' e := by
  obtain ⟨i0, hi, hz0, hz1, hz2⟩ := info_parts info_rowT
  obtain ⟨_, h1, h4, _⟩ := toldB_parts ht
  have HTL := Lib.hid (fun (W : World) (hb : Below w.heap.size w W) => snTold_any W u v ns fr xs (argS_below h hb) hf (argL_below (argL_of ha) hb))
  have HOW := Lib.hid (fun (W : World) (hb : Below w.heap.size w W) => l1Own_any W B v xs (intsA_below ha hb) h1 (by omega))
  have HAG : Hid (∀ (W : World) (_ : Below w.heap.size w W) (v' : Value) (ys : List Int) (_ : ArgL W v' ys) (_ : toldB ns fr ys = true), Calls Tryd.prog 64 #[.agg #[u, .string (bs fr)], v'] W fun e w' => ∃ g q, e = .returned (.tuple #[.slice (some ⟨g, 0, none⟩) ys.length ys.length, .bool q]) ∧ (if q = true then some (cntL ns fr ys) else none) = againO ns fr ys ∧ Ints w' W.heap.size (.slice (some ⟨g, 0, none⟩) ys.length ys.length) (cntL ns fr ys) ∧ Below W.heap.size W w') :=
    Lib.hid (fun W hb v' ys hv hy => (snAgain_any W u v' ns fr ys (argS_below h hb) hv hy).mono fun e w' ⟨g, e1, e2, e3⟩ => ⟨g, _, e1, rfl, e2, e3⟩)
  have HM := Lib.hid (fun k ws => wayQ_mem ht k ws)
  rw [ht] at HTL
  obtain ⟨M, hM⟩ : ∃ M, M = xs.length := ⟨_, rfl⟩
  obtain ⟨a, cap, hv, _, _⟩ := intsA_slice ha
  rw [← hM] at HOW h1 h4 hv HM
  subst hv
  have hn : decide ((0 : Int) ≤ N ∧ (N : Int) ≤ 30) = true := by simp; omega
  have HN := Lib.hid hn
  obtain ⟨R, hR⟩ : ∃ R, R = wayQ ns fr N xs := ⟨_, rfl⟩
  rw [← hR]
  have HR := Lib.hid hR
  have HT := Lib.hid ht
  clear h ha ht hM hn hR
  go_enter Tryd.func34, Tryd.ntmps34
  go_wp2_with fail
  refine (HTL.out _ (below_alloc _ _)).mono ?_
  rintro e w1 ⟨rfl, hb⟩
  have hx1 := (twoAt_new w u (.string (bs fr)) 27).below hb
  have HX1 := Lib.hid hx1
  have HB1 := Lib.hid (below_trans (below_alloc _ _) hb); clear hb hx1
  go_wp2_with fail
  refine (l1In_is true _ _ _ _ HN.out).mono ?_
  rintro e w1' ⟨rfl, rfl⟩
  go_wp2_with fail
  refine (HOW.out _ HB1.out).mono ?_
  rintro e w2 ⟨g, c, rfl, ho, hb⟩
  have hx2 := HX1.out.below (below_trans hb (below_alloc w2 (.cells #[.slice (some ⟨g, 0, none⟩) M c] 31)))
  have hr1 := intsRA_one (intsA_mono ho (Nat.succ_le_of_lt HX1.out.lt)) (Nat.le_trans (Nat.succ_le_of_lt HX1.out.lt) hb.size)
  have H1 := Lib.hid hr1; have HB2 := Lib.hid (below_trans HB1.out (below_trans hb (below_alloc w2 (.cells #[.slice (some ⟨g, 0, none⟩) M c] 31))))
  have HX2 := Lib.hid hx2
  clear ho hb hr1 hx2 HTL HOW
  go_wp2_with fail
  go_loopw [2, 8] (fun t v wr => ∃ (k : Nat) (ws : List (List Int)) (vs : List Value) (q : Option Addr) (d : Nat), k ≤ N ∧ t = .int .i64 (((N - k : Nat)) : Int) ∧ v = .slice q (k + 1) d ∧ Hid (wayQ ns fr k xs = some ws ∧ IntsRA wr (w.heap.size + 1) (.slice q (k + 1) d) vs ws ∧ Below w.heap.size w wr ∧ TwoAt wr w.heap.size u (.string (bs fr)) 27)) (fun t _ _ => (intOf t).toNat)
  case atStart => exact ⟨0, _, _, _, _, Nat.zero_le _, rfl, rfl, rfl, H1.out, HB2.out, HX2.out⟩
  case round =>
    obtain ⟨k, ws, vs, q, d, hk, rfl, rfl, HX⟩ := hrel
    by_cases hlt : k < N
    · obtain ⟨hl, hmm⟩ := HM.out k ws HX.out.1
      have hlast := last_at hl
      obtain ⟨last, hla⟩ : ∃ last, last = ws.getLastD [] := ⟨_, rfl⟩
      have hstep := wayQ_step HX.out.1
      rw [← hla] at hlast hstep
      obtain ⟨hm1, hm2⟩ := hmm last (List.mem_of_getElem? hlast)
      rcases intsRA_open HX.out.2.1 with ⟨e, _⟩ | ⟨g', cap', e, _, hcp, hg', _, hce⟩
      · cases e
      have hgg : q = some ⟨g', 0, none⟩ ∧ d = cap' := by simp only [Value.slice.injEq] at e; exact ⟨e.1, e.2.2⟩
      obtain ⟨rfl, rfl⟩ := hgg
      obtain ⟨uu, hu0, hu, hcu⟩ := hce k (by omega)
      have hrk : ws[k]'(by omega) = last := (List.getElem?_eq_some_iff.1 hlast).2
      rw [hrk] at hu
      have hvl := HX.out.2.1.len
      rw [hl] at hvl
      have hsub : (((N - k : Nat)) : Int) = (N : Int) - (k : Int) := by omega
      have hszr := HX.out.2.2.1.size
      have HVL := Lib.hid hvl; have HU := Lib.hid hu; have HM2 := Lib.hid hm2; have HM1 := Lib.hid hm1; have HST := Lib.hid hstep
      obtain ⟨c0, c1, _, _⟩ := HX.out.2.2.2.cells
      rw [hsub]
      have hpos : (0 : Int) < (N : Int) - (k : Int) := by omega
      have i1 : (0 : Int) ≤ (k : Int) := by omega
      have i2 : (k : Int) < (k : Int) + 1 := by omega
      have i3 : ¬ ((k : Int) < 0) := by omega
      have i4 : (k : Int).toNat = k := by omega
      have i5 : k < k + 1 := by omega
      have i7 : IntKind.i64.wrap (k : Int) = (k : Int) := by rw [IntKind.wrap_i64]; omega
      clear hvl hrk hce hla hlast hu hu0 hm1 hm2 e hmm hl hstep
      go_wp2_with fail
      go_region_with (go_at_call 64; ((with_reducible refine (HAG.out _ HX.out.2.2.1.drew _ last (argL_of (intsA_below HU.out (below_drew _))) HM2.out).mono ?_); rintro e w2 ⟨gt, qb, rfl, hq2, hi2, hb2⟩; have HQ2 := Lib.hid hq2; have HI2 := Lib.hid hi2; have HB3 := Lib.hid (below_trans (below_drew _) hb2); clear hi2 hb2 hq2))
      all_goals
        have HB4 := Lib.hid (HX.out.2.2.1.trans (HB3.out.mono hszr))
        cases qb with
        | false =>
          have hR0 : R = none := by rw [HR.out]; exact wayQ_none (show k + 1 ≤ N by omega) (by rw [HST.out, ← HQ2.out]; rfl)
          have HR0 := Lib.hid hR0; clear hR0
          go_wp2_with fail
          go_ret2
          rw [HR0.out]
          exact tellOk_none HB4.out
        | true =>
          have hws : wayQ ns fr (k + 1) xs = some (ws ++ [cntL ns fr last]) := by rw [HST.out, ← HQ2.out]; rfl
          have hlm : last.length = M := HM1.out
          have HWS := Lib.hid hws
          have hX3 := intsRA_below HX.out.2.1 HB3.out
          have hX4 := intsRA_below hX3 (below_alloc w2 (.cells #[.slice (some ⟨gt, 0, none⟩) last.length last.length] 31))
          have hN4 := intsA_below (intsA_of HI2.out) (below_alloc w2 (.cells #[.slice (some ⟨gt, 0, none⟩) last.length last.length] 31))
          have HX4 := Lib.hid hX4; have HN4 := Lib.hid hN4; have HX3 := Lib.hid hX3
          have HTW := Lib.hid ((HX.out.2.2.2.below HB3.out).below (below_alloc w2 (.cells #[.slice (some ⟨gt, 0, none⟩) last.length last.length] 31)))
          have HS3 := Lib.hid HB3.out.size
          clear hws hX3 hX4 hN4
          rw [hlm] at HX4 HN4 HTW ⊢
          have hcell1 : ∀ (j : Nat) (x : Value), ([.slice (some ⟨gt, 0, none⟩) M M] : List Value)[j]? = some x → (w2.alloc (.cells #[.slice (some ⟨gt, 0, none⟩) M M] 31)).cell? ((⟨w2.heap.size, 0, none⟩ : Addr).add j) = some x := by
            intro j x hj
            match j, hj with
            | 0, hj => simp at hj; subst hj; rw [add_plainL]; exact cell_new _ _ _
            | j + 1, hj => simp at hj
          have hone1 : ∀ x ∈ ([.slice (some ⟨gt, 0, none⟩) M M] : List Value), x.oneCell' = true := fun x hx => by simp at hx; subst hx; rfl
          have hbase1 : w.heap.size + 1 ≤ (w2.alloc (.cells #[.slice (some ⟨gt, 0, none⟩) M M] 31)).heap.size := by
            have h1 := HX.out.2.2.2.lt
            have h2 : wr.heap.size ≤ w2.heap.size := HS3.out
            simp; omega
          have HC1 := Lib.hid hcell1; have HO1 := Lib.hid hone1; have HB1' := Lib.hid hbase1
          clear hcell1 hone1 hbase1
          go_wp2_with (at_builtin; go_must (refine wpList_app _ rfl _ _ 45 rfl (w.heap.size + 1) 31 i0 (.slice none 0 0) 24 Tryd.underlying45 hi hz0 hz1 hz2 rfl _ (k + 1) vs rfl (by have := HX4.out.outer; rw [← HVL.out] at this; exact this) ⟨w2.heap.size, 0, none⟩ 1 1 [.slice (some ⟨gt, 0, none⟩) M M] rfl rfl HC1.out HO1.out (by unfold maxLen; omega) (by omega) HB1'.out ?_))
          intro v' w3 hown' hgrow hwh
          obtain ⟨av', cv', rfl⟩ := own_slice hown'
          have hsn := intsRA_snoc (u := .slice (some ⟨gt, 0, none⟩) M M) (xs := cntL ns fr last) HX4.out (intsA_mono HN4.out (Nat.succ_le_of_lt HX.out.2.2.2.lt)) (fun i u' hi' => by
              intro z e1 e2
              have e' := (intsA_lt HN4.out z e2).1
              obtain ⟨u2, f1, f2⟩ := intsRA_row HX.out.2.1 i (by rw [HX.out.2.1.len]; exact get_lt hi')
              rw [hi'] at f1; cases f1
              have := (intsA_lt f2 z e1).2
              have : wr.heap.size ≤ wr.drew.heap.size := Nat.le_refl _
              omega) (by
              intro z e1 e2
              have e' := (intsA_lt HN4.out z e1).1
              have := (HX.out.2.1.outer.lt z e2).2
              have : wr.heap.size ≤ wr.drew.heap.size := Nat.le_refl _
              omega) (by rw [← HVL.out]; exact hown') hgrow (by rw [Go.Deep.nblk_alloc]; exact hwh)
          have R1 := Lib.hid hsn
          have R2 := Lib.hid ((HB4.out.alloc HB4.out.size (.cells #[.slice (some ⟨gt, 0, none⟩) M M] 31)).grown hgrow (by have := HB4.out.size; simp; omega) (fun q hq => Nat.le_of_succ_le (HX3.out.outer.lt q hq).1))
          have hne0 : ∀ q, (Value.slice (some ⟨g', 0, none⟩) (k + 1) d).ownBlock = some q → q ≠ w.heap.size := fun q hq e => by
            have := (HX.out.2.1.outer.lt q hq).1
            omega
          have R3 : Hid (TwoAt w3 w.heap.size u (.string (bs fr)) 27) := Lib.hid ((hgrow.block w.heap.size HTW.out.lt (fun e => hne0 w.heap.size e.symm rfl)).trans HTW.out)
          clear hown' hgrow hwh hsn hne0
          go_wp2_with fail
          go_roundw
          case rel => exact ⟨k + 1, _, _, _, _, by omega, by go_num, rfl, HWS.out, R1.out, R2.out, R3.out⟩
          case measure => simp [intOf] <;> omega
    · obtain rfl : k = N := by omega
      have hz : (((k - k : Nat)) : Int) = 0 := by omega
      rw [hz]
      have E : R = some ws := by rw [HR.out]; exact HX.out.1
      subst E
      go_wp2_with fail
      go_ret2
      exact ⟨_, vs, rfl, intsRA_mono HX.out.2.1 (Nat.le_succ _), HX.out.2.2.1, fun h => by cases h⟩
end Go.Proofs.YtampjipbemmicaaDoor
