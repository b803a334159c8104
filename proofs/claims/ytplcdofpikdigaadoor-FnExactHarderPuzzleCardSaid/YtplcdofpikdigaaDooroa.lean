/- Chapter 9: all solutions, in order (the program). -/
import Derived.Test.YtplcdofpikdigaaDooro9
import Derived.Test.YtplcdofpikdigaaDooro6
namespace Go.Proofs.YtplcdofpikdigaaDoor
open Go.RowKit Go.BigFrame Go.Shelf
set_option linter.unusedSimpArgs false
set_option linter.unusedVariables false
set_option maxRecDepth 4000
attribute [local irreducible] wpStill

set_option maxHeartbeats 1000000 in
theorem replaceAll_any (W : List UInt8) (b c b2 d2 b3 d3 : Nat) (w : World) (h1 : 1 ≤ W.length) (h8 : W.length ≤ 8) (hb : b < w.heap.size) (hb2 : b2 < w.heap.size) (hb3 : b3 < w.heap.size)
    (hc : ∀ i, i < W.length → w.cell? ⟨b, i, none⟩ = some (.int .u8 ((W.getD i 0).toNat : Int))) (hc2 : w.cell? ⟨b2, 0, none⟩ = some (.int .u8 46)) (hc3 : w.cell? ⟨b3, 0, none⟩ = some (.int .u8 49)) (hcw : W.length ≤ c) (hcm : c ≤ maxLen) :
    Calls Tryd.prog 53 #[.slice (some ⟨b, 0, none⟩) W.length c, .slice (some ⟨b2, 0, none⟩) 1 d2, .slice (some ⟨b3, 0, none⟩) 1 d3] w fun e w' =>
      ∃ g cap, e = .returned (.slice (some ⟨g, 0, none⟩) W.length cap) ∧ w.heap.size ≤ g ∧ g < w'.heap.size ∧ W.length ≤ cap ∧ cap ≤ maxLen ∧ BytQ w' g (minW W) ∧ Below w.heap.size w w' := by
  have H := Lib.hid (replace_any W b c b2 d2 b3 d3 w h1 h8 hb hb2 hb3 hc hc2 hc3 hcw hcm)
  clear hc hc2 hc3
  go_enter Tryd.func53, Tryd.ntmps53
  go_wp2_with fail
  refine H.out.mono ?_
  rintro e w1 ⟨g, cap, rfl, r⟩
  have R := Lib.hid r
  clear r
  go_wp2_with fail
  go_ret
  exact ⟨g, cap, rfl, R.out⟩

/-- All solutions, in order. -/
def solsL (W S : List UInt8) (D : Nat) : List (List UInt8) := (compl D W).filter (solB W S (D : Int))

theorem info_strA : (Tryd.prog.info? 9).map (fun i => (i.zero, i.size, i.bytes)) = some (some (.string ⟨#[]⟩), 1, 16) := by kernel_rfl
def strA (ls : List (List UInt8)) : List Value := ls.map (fun l => .string (bs l))
theorem strA_len (ls : List (List UInt8)) : (strA ls).length = ls.length := by simp [strA]
/-- The bytes that a block holds. -/
def bytesAt (w : World) (g n : Nat) : List UInt8 := (List.range n).map fun i => match w.cell? ⟨g, i, none⟩ with
  | some (.int .u8 x) => UInt8.ofNat x.toNat
  | _ => 0
theorem bytesAt_of {w : World} {g : Nat} {l : List UInt8} (h : BytQ w g l) : bytesAt w g l.length = l := by
  apply List.ext_getElem
  · simp [bytesAt]
  · intro i h1 h2
    simp only [bytesAt, List.getElem_map, List.getElem_range]
    rw [h.cell i h2]
    simp
/-- What is left to try. -/
def leftM (D : Nat) (W : List UInt8) (g : Nat) (mv : Value) (w : World) : Nat := match mv with
  | .bool true => 1 + (restW D W (bytesAt w g W.length)).length
  | _ => 0
theorem cmp_dig {D : Nat} (hD : D ≤ 9) : ∀ (W s : List UInt8) (hs : W.all (sgB (D : Int)) = true), Cmp D W s → s.all digB = true
  | [], [], _, _ => rfl
  | [], _ :: _, _, h => h.elim
  | _ :: _, [], _, h => h.elim
  | c :: W, x :: w, hs, h => by
    rw [List.all_cons, Bool.and_eq_true] at hs
    rw [List.all_cons, Bool.and_eq_true]
    refine ⟨?_, cmp_dig hD W w hs.2 h.2⟩
    have h1 := h.1
    have h2 := hs.1
    unfold sgB at h2
    simp only [Bool.or_eq_true, decide_eq_true_eq] at h2
    unfold digB
    have h46 : (46 : UInt8).toNat = 46 := rfl
    by_cases hc : c = 46
    · rw [if_pos hc] at h1
      simp; omega
    · rw [if_neg hc] at h1
      have hc2 : c.toNat ≠ 46 := fun e => hc (UInt8.toNat_inj.1 (by omega))
      subst h1
      simp; omega

/-- All solutions, if there are no more than so many. -/
def solO (W S : List UInt8) (D : Int) (most : Nat) : Option (List (List UInt8)) := if pzB W S D = true ∧ (solsL W S D.toNat).length ≤ most then some (solsL W S D.toNat) else none
/-- Texts of the call's own and true, or nil and false. -/
def SolOk (o : Option (List (List UInt8))) (w w' : World) (e : Ending) : Prop :=
  ∃ a c, e = .returned (.tuple #[.slice a (o.getD []).length c, .bool o.isSome]) ∧ w'.ownsRow w.heap.size 9 1 (.slice a (o.getD []).length c) (o.getD []).length (strA (o.getD [])) ∧ Below w.heap.size w w' ∧ (o = none → a = none ∧ c = 0)
theorem own_keepB {w w' : World} {B n : Nat} {T : TypeId} {v : Value} {xs : List Value} (h : w.ownsRow B T 1 v n xs) (hk : ∀ q, v.ownBlock = some q → w'.heap[q]? = w.heap[q]?) : w'.ownsRow B T 1 v n xs := by
  obtain ⟨h1, h2⟩ := h
  refine ⟨h1, ?_⟩
  rcases h2 with h2 | ⟨g, cap, cur, e, hb, hh, r⟩
  · exact .inl h2
  · exact .inr ⟨g, cap, cur, e, hb, (hk g (by rw [e]; rfl)).trans hh, r⟩

set_option maxHeartbeats 4000000 in
theorem solutionsUpTo_any (W S : List UInt8) (D : Int) (most : Nat) (w : World) (hW : W.length ≤ maxLen) (hS : S.length ≤ maxLen) (hmost : most ≤ 1000) :
    Calls Tryd.prog 34 #[pzV W S D, .int .i64 (most : Int)] w fun e w' => SolOk (solO W S D most) w w' e := by
  cases hg : pzB W S D with
  | false =>
    have ho : solO W S D most = none := by unfold solO; rw [if_neg (by rw [hg]; simp)]
    have hI := fun W' => implIsPuzzle_any W S D W' hW hS
    rw [hg] at hI
    have HI := Lib.hid hI
    rw [ho]
    generalize hv : pzV W S D = v at *
    unfold pzV at hv
    subst hv
    clear hI
    go_enter Tryd.func34, Tryd.ntmps34
    go_wp2_with fail
    refine (HI.out _).mono ?_
    rintro e w1 ⟨rfl, hb⟩
    have HB := Lib.hid hb; clear hb
    go_wp2_with fail
    go_ret2
    exact ⟨none, 0, rfl, ⟨by simp [strA], .inl ⟨rfl, rfl⟩⟩, below_trans (below_alloc _ _) HB.out, fun _ => ⟨rfl, rfl⟩⟩
  | true =>
    have hI := fun W' => implIsPuzzle_any W S D W' hW hS
    rw [hg] at hI
    have HI := Lib.hid hI
    unfold pzV at *
    have hp := pzS_parts (pzB_parts hg).1
    have hsg := (pzB_parts hg).2.1
    obtain ⟨Dn, hDn⟩ : ∃ Dn : Nat, D = (Dn : Int) := ⟨D.toNat, by omega⟩
    subst hDn
    obtain ⟨PST, hPST⟩ : ∃ PST : World → Ending → Prop, PST = fun w' e => SolOk (solO W S (Dn : Int) most) w w' e := ⟨_, rfl⟩
    have hso : solO W S (Dn : Int) most = if (solsL W S Dn).length ≤ most then some (solsL W S Dn) else none := by
      unfold solO
      rw [show ((Dn : Int)).toNat = Dn by omega]
      by_cases h : (solsL W S Dn).length ≤ most
      · rw [if_pos ⟨hg, h⟩, if_pos h]
      · rw [if_neg (fun h2 => h h2.2), if_neg h]
    have HSO := Lib.hid hso
    clear hso
    refine Calls.mono (R := fun e w' => PST w' e) ?_ (fun e w' h => by rw [hPST] at h; exact h)
    have HPST := Lib.hid hPST
    clear hPST
    obtain ⟨u, hu⟩ : ∃ u, u = bs W := ⟨_, rfl⟩
    obtain ⟨v, hv⟩ : ∃ v, v = bs S := ⟨_, rfl⟩
    have hun : u.size = W.length := by rw [hu, bs_size]
    have hum : u.size ≤ maxLen := by unfold maxLen; omega
    rw [← hu, ← hv] at HI ⊢
    have HU := Lib.hid hu; have HV := Lib.hid hv; have HP := Lib.hid hp; have HUN := Lib.hid hun
    have HSG := Lib.hid hsg
    clear hI hu hv hp hun hg hsg
    go_enter Tryd.func34, Tryd.ntmps34
    go_wp2_with fail
    refine (HI.out _).mono ?_
    rintro e w1 ⟨rfl, hb⟩
    have hx := (threeAt_new w (.string u) (.string v) (.int .i64 (Dn : Int)) 28).below hb
    have HB1 := Lib.hid (below_trans (below_alloc _ _) hb)
    obtain ⟨c0, c1, c2, _, _, _⟩ := (hx.below (below_alloc w1 (.cells #[] 9))).cells
    have hlt := hx.lt
    have HX := Lib.hid hx
    clear hb hx
    have hWL : 1 ≤ W.length ∧ W.length ≤ 8 := ⟨HP.out.2.2.1, HP.out.2.2.2.1⟩
    have hS16 : S.length ≤ 16 ∧ S.length % 2 = 0 := ⟨by have := HP.out.2.2.2.2.2.2; omega, HP.out.2.2.2.2.1⟩
    go_wp2_with (refine wpList_bytes _ rfl 9 52 _ rfl 5 Tryd.underlying9 Tryd.underlying52 Tryd.underlying5 u rfl hum ?_; intro w2 cap hb2 hsz2 hcap hcm hcell hfr)
    obtain ⟨W2, hW2⟩ : ∃ W2, W2 = w1.alloc (.cells #[] 9) := ⟨_, rfl⟩
    have hW2s : W2.heap.size = w1.heap.size + 1 := by rw [hW2]; simp
    rw [← hW2] at hb2 hsz2 hcell
    have hcA : ∀ i, i < W.length → ((w2.alloc (.cells #[.int .u8 46] 5)).alloc (.cells #[.int .u8 49] 5)).cell? ⟨W2.heap.size, i, none⟩ = some (.int .u8 ((W.getD i 0).toNat : Int)) := fun i hi => by
      refine ((below_trans (below_alloc _ _) (below_alloc _ _)).cell (p := ⟨W2.heap.size, i, none⟩) hsz2).trans ?_
      rw [hcell i (by rw [HUN.out]; exact hi)]
      have e : ∀ (t : ByteArray) (h2 : i < t.size), t = bs W → t[i] = W.getD i 0 := fun t h2 e => by subst e; rw [getD_lt hi]; rfl
      rw [e u (by rw [HUN.out]; exact hi) HU.out]
    have hc2A : ((w2.alloc (.cells #[.int .u8 46] 5)).alloc (.cells #[.int .u8 49] 5)).cell? ⟨w2.heap.size, 0, none⟩ = some (.int .u8 46) :=
      ((oneAt_new w2 (.int .u8 46) 5).below (below_alloc _ _)).cell
    have hc3A : ((w2.alloc (.cells #[.int .u8 46] 5)).alloc (.cells #[.int .u8 49] 5)).cell? ⟨w2.heap.size + 1, 0, none⟩ = some (.int .u8 49) := by
      have := (oneAt_new (w2.alloc (.cells #[.int .u8 46] 5)) (.int .u8 49) 5).cell
      rw [World.size_alloc] at this
      exact this
    have hRA := replaceAll_any W W2.heap.size cap w2.heap.size 1 (w2.heap.size + 1) 1 ((w2.alloc (.cells #[.int .u8 46] 5)).alloc (.cells #[.int .u8 49] 5)) hWL.1 hWL.2 (by simp; omega) (by simp; omega) (by simp) hcA hc2A hc3A (by rw [← HUN.out]; exact hcap) hcm
    have HRA := Lib.hid hRA
    have HB2 := Lib.hid hb2
    have hWN := HUN.out
    rw [hWN]
    clear hcA hc2A hc3A hRA hb2 hcell hfr hcap hWN
    rw [hW2s] at HRA
    go_wp2_with fail
    refine HRA.out.mono ?_
    rintro e w3 ⟨g, cg, rfl, hgB, hgl, hgc, hgm, hgq, hgb⟩
    go_wp2_with fail
    have hD4 : 1 ≤ Dn ∧ Dn ≤ 4 := by have := HP.out; omega
    have HTRY : Hid (∀ l, Cmp Dn W l → ∀ W0 : World, Calls Tryd.prog 54 #[.agg #[.string u, .string v, .int .i64 (Dn : Int)], .string (bs l)] W0 fun e w' => TryPost l W S (Dn : Int) e ∧ Below W0.heap.size W0 w') := Lib.hid (fun l hl W0 => by
      have hlen := cmp_len W l hl
      have := tryWord_any l W S (Dn : Int) W0 (by omega) (by omega) hlen.symm hS16.1 hS16.2 (cmp_dig (by omega) W l HSG.out hl)
      unfold pzV at this
      rw [← HU.out, ← HV.out] at this
      exact this)
    have HNXT : Hid (∀ l k, Cmp Dn W l → k < l.length → ∀ W0 : World, BytQ W0 g l → g < W0.heap.size → Calls Tryd.prog 55 #[.agg #[.string u, .string v, .int .i64 (Dn : Int)], .slice (some ⟨g, 0, none⟩) W.length cg, .int .i64 (k : Int)] W0 fun e w' => NextPost Dn W l (k + 1) g e w' ∧ ButG g W0 w') := Lib.hid (fun l k hl hk W0 hq hg0 => by
      have hlen := cmp_len W l hl
      have := nextWord_any Dn W S l k g cg W0 hD4.1 hD4.2 hWL.2 hl hk (by rw [hlen]; exact hgc) hgm hq hg0
      unfold pzV at this
      rw [← HU.out, ← HV.out, hlen] at this
      exact this)
    have hsz3 : w1.heap.size + 1 < w3.heap.size := by have := hgb.size; simp at this; omega
    have hgw : w1.heap.size + 1 < g := by simp at hgB; omega
    have hb13 : Below w1.heap.size w1 w3 := by
      have e1 : Below W2.heap.size W2 w3 := HB2.out.trans (((below_trans (below_alloc _ _) (below_alloc _ _)).trans (hgb.mono (by simp; omega))).mono (Nat.le_of_lt (by omega)))
      rw [hW2] at e1
      exact below_trans (below_alloc _ _) e1
    have hE : w3.heap[w1.heap.size]? = some (.cells #[] 9 (0, 0)) := by
      have e1 : Below W2.heap.size W2 w3 := HB2.out.trans (((below_trans (below_alloc _ _) (below_alloc _ _)).trans (hgb.mono (by simp; omega))).mono (Nat.le_of_lt (by omega)))
      rw [e1.block w1.heap.size (by omega), hW2]
      exact heap_alloc_new w1 _
    have HE := Lib.hid hE; have HB13 := Lib.hid hb13
    have HBA := Lib.hid (HB1.out.trans (hb13.mono HB1.out.size))
    have HX3 := Lib.hid (HX.out.below hb13)
    have HGQ := Lib.hid hgq
    obtain ⟨i0, hi, hz0, hz1, hz2⟩ := info_parts info_strA
    have hWm : (W.length : Int) ≤ 8 := by omega
    unfold maxLen at hgm
    clear hE hb13 hgq hgb hgB hW2 HRA HB2 hsz2 hcm c0 c1 c2
    go_loopw [6, 8] (fun sv mv wr => ∃ (acc : List (List UInt8)) (N : Nat) (mb : Bool) (a : Option Addr) (c : Nat), N = acc.length ∧ mv = .bool mb ∧ N ≤ most ∧ sv = .slice a N c ∧ Hid (
        wr.ownsRow (w.heap.size + 1) 9 1 sv N (strA acc) ∧ (∀ q, sv.ownBlock = some q → q ≠ g) ∧ ThreeAt wr w.heap.size (.string u) (.string v) (.int .i64 (Dn : Int)) 28 ∧ Below w.heap.size w wr ∧ g < wr.heap.size ∧
        (mb = true → ∃ l, Cmp Dn W l ∧ BytQ wr g l ∧ solsL W S Dn = acc ++ (restW Dn W l).filter (solB W S (Dn : Int))) ∧ (mb = false → solsL W S Dn = acc))) (fun _ mv wr => leftM Dn W g mv wr)
    case atStart =>
      refine ⟨[], 0, true, _, _, rfl, rfl, Nat.zero_le _, rfl, ⟨by simp [strA], .inr ⟨w1.heap.size, 0, #[], rfl, by omega, HE.out, Nat.le_refl _, by unfold maxLen; omega, rfl, rfl⟩⟩, ?_, HX3.out, HBA.out, hgl, fun _ => ⟨minW W, cmp_min hD4.1 W, HGQ.out, ?_⟩, fun h => by cases h⟩
      · intro q hq e; simp [Value.ownBlock] at hq; omega
      · rw [rest_min hD4.1 (by omega)]; rfl
    case round =>
      obtain ⟨acc, N, mb, a, c, hN, rfl, hNm, rfl, HI2⟩ := hrel
      have HN := Lib.hid hN
      cases mb with
      | false =>
        have HFIN : Hid (PST wr (.returned (.tuple #[.slice a N c, .bool true]))) := Lib.hid (by
          have e := HI2.out.2.2.2.2.2.2 rfl
          rw [HPST.out]
          show SolOk _ _ _ _
          rw [HSO.out, e, if_pos (by omega)]
          rw [hN]
          refine ⟨a, c, rfl, ?_, HI2.out.2.2.2.1, fun h => by cases h⟩
          have := HI2.out.1
          rw [hN] at this
          exact own_mono this (Nat.le_succ _))
        clear hN
        go_wp2_with fail
        exact HFIN.out
      | true =>
        obtain ⟨l, hl, hq, hsol⟩ := HI2.out.2.2.2.2.2.1 rfl
        have hlen := cmp_len W l hl
        have hcv := conv_bytQ (cap := cg) hq
        rw [hlen] at hcv
        have hm1 : leftM Dn W g (.bool true) wr = 1 + (restW Dn W l).length := by
          show 1 + (restW Dn W (bytesAt wr g W.length)).length = _
          rw [← hlen, bytesAt_of hq]
        obtain ⟨c0, c1, c2, _, _, _⟩ := HI2.out.2.2.1.cells
        have HL := Lib.hid hl; have HQ := Lib.hid hq; have HSOL := Lib.hid hsol; have HLEN := Lib.hid hlen; have HM1 := Lib.hid hm1
        have hTR := HTRY.out l hl wr
        have HTR := Lib.hid hTR
        obtain ⟨t, ht⟩ : ∃ t, t = bs l := ⟨_, rfl⟩
        rw [← ht] at hcv HTR
        have HT := Lib.hid ht
        clear hl hq hsol hlen hm1 hTR ht hN
        go_wp2_with fail
        refine HTR.out.mono ?_
        rintro e w4 ⟨⟨k, hk, rfl, hns⟩, hb4⟩
        have HNS := Lib.hid hns
        have HX4 := Lib.hid (HI2.out.2.2.1.below hb4)
        have HO4 := Lib.hid (own_below HI2.out.1 hb4)
        have HQ4 := Lib.hid (HQ.out.below HI2.out.2.2.2.2.1 hb4)
        have HB4 := Lib.hid (HI2.out.2.2.2.1.trans (hb4.mono HI2.out.2.2.2.1.size))
        have hg4 : g < w4.heap.size := Nat.lt_of_lt_of_le HI2.out.2.2.2.2.1 hb4.size
        obtain ⟨d0, d1, d2, _, _, _⟩ := HX4.out.cells
        have hcap47 : (N + 1) * 16 ≤ 140737488355328 := by omega
        clear hns hb4 hcv c0 c1 c2
        -- the solutions so far, and behind the next word
        have HSTEP := Lib.hid (nxt_sol hD4.1 (by omega) W l (k + 1) (solB W S (Dn : Int)) HL.out (fun s h1 h2 h3 => HNS.out s ⟨by rw [cmp_len W s h1, HLEN.out], cmp_dig (by omega) W s HSG.out h1⟩ h2 h3))
        have HNC := Lib.hid (fun s => nxt_cmp hD4.1 (by omega) W l (k + 1) s HL.out (D := Dn))
        have HNL := Lib.hid (fun s => nxt_len hD4.1 (by omega) W l (k + 1) s HL.out (D := Dn))
        obtain ⟨fb, hfb⟩ : ∃ fb, fb = solB W S (Dn : Int) l := ⟨_, rfl⟩
        rw [← hfb] at HSTEP ⊢
        clear hfb
        cases fb with
        | true =>
          go_wp2_with (at_builtin; refine wpList_app _ rfl _ _ 25 rfl (w.heap.size + 1) 9 i0 (.string ⟨#[]⟩) 16 Tryd.underlying25 hi hz0 hz1 hz2 rfl _ N _ rfl (HO4.out.alloc _) ⟨w4.heap.size, 0, none⟩ 1 1 [.string t] rfl rfl ?c1 ?c2 ?c3 ?c4 ?c5 ?_)
          case c1 =>
            intro j x hj
            have hj0 : j = 0 := by have := (List.getElem?_eq_some_iff.1 hj).1; simpa using this
            subst hj0
            have hadd : (⟨w4.heap.size, 0, none⟩ : Addr).add 0 = ⟨w4.heap.size, 0, none⟩ := by unfold Addr.add; split <;> simp_all
            rw [hadd]
            simp only [List.getElem?_cons_zero, Option.some.injEq] at hj
            rw [← hj]
            exact (oneAt_new w4 (.string t) 9).cell
          case c2 =>
            intro x hx
            rw [List.mem_singleton] at hx
            rw [hx]; rfl
          case c3 => unfold maxLen; omega
          case c4 => omega
          case c5 => simp; have := HB4.out.size; have := HX4.out.lt; omega
          intro v' w5 hown' hgrow hblk
          have hb5 : ∀ q, q < w4.heap.size → (Value.slice a N c).ownBlock ≠ some q → w5.heap[q]? = w4.heap[q]? := fun q h1 h2 => by
            rw [hgrow.block q (by simp; omega) (fun e => h2 e.symm)]
            exact (below_alloc w4 _).block q h1
          have hav := HI2.out.2.1
          have hown4 := HO4.out
          have hq5 : BytQ w5 g l := ⟨fun i h => (World.cell?_of_block (w := w4) (hb5 g hg4 (fun e => hav g e rfl))).trans (HQ4.out.cell i h), fun i h => (World.frozen?_of_block (w := w4) (hb5 g hg4 (fun e => hav g e rfl))).trans (HQ4.out.free i h)⟩
          have hx5 : ThreeAt w5 w.heap.size (.string u) (.string v) (.int .i64 (Dn : Int)) 28 := (hb5 w.heap.size HX4.out.lt (fun e => by have := (hown4.lt _ e).1; omega)).trans HX4.out
          have hbl5 : Below w.heap.size w w5 := ((HB4.out.trans ((below_alloc w4 (.cells #[.string t] 9)).mono HB4.out.size)).grown hgrow (by have := HB4.out.size; simp; omega) (fun q hq => by have := (hown4.lt q hq).1; omega))
          have hg5 : g < w5.heap.size := by have := hgrow.size; simp at this; omega
          have hav5 : ∀ q, v'.ownBlock = some q → q ≠ g := fun q e => by
            rcases hblk with h | h
            · rw [h] at e; exact hav q e
            · rw [h] at e; simp at e; omega
          have hown5 : w5.ownsRow (w.heap.size + 1) 9 1 v' (N + 1) (strA (acc ++ [l])) := by
            have : strA (acc ++ [l]) = strA acc ++ [.string t] := by rw [HT.out]; simp [strA]
            rw [this]; exact hown'
          obtain ⟨a5, c5, hv5⟩ : ∃ a5 c5, v' = .slice a5 (N + 1) c5 := by
            rcases own_open hown5 with ⟨_, h, _⟩ | ⟨g5, c5, h, _⟩
            · omega
            · exact ⟨_, _, h⟩
          subst hv5
          have HQ5 := Lib.hid hq5; have HX5 := Lib.hid hx5; have HB5 := Lib.hid hbl5; have HAV5 := Lib.hid hav5; have HO5 := Lib.hid hown5
          obtain ⟨d0, d1, d2, _, _, _⟩ := hx5.cells
          clear hb5 hav hown4 hq5 hx5 hbl5 hav5 hown5 hown' hgrow hblk
          by_cases hov : N + 1 ≤ most
          · have hov' : ¬ ((most : Int) < (N : Int) + 1) := by omega
            have HQX := HQ5; have hgX := hg5; have HOX := HO5; have HAVX := HAV5; have HXX := HX5; have HBX := HB5
            have HNX : Hid (N + 1 = (acc ++ [l]).length) := Lib.hid (by have := HN.out; simp; omega)
            have HSUM : Hid (solsL W S Dn = (acc ++ [l]) ++ (match nxt Dn W l (k + 1) with | some s => (restW Dn W s).filter (solB W S (Dn : Int)) | none => [])) := Lib.hid (by
              rw [HSOL.out, HSTEP.out, if_pos trivial, List.append_assoc]
              cases nxt Dn W l (k + 1) <;> rfl)
            go_wp2_with fail
            refine (HNXT.out l k HL.out hk _ HQX.out hgX).mono ?_
            rintro e w6 ⟨hnp, hbg⟩
            have hq0 := HOX.out
            have own6 : w6.ownsRow (w.heap.size + 1) 9 1 (.slice a5 (N + 1) c5) (N + 1) (strA (acc ++ [l])) := own_keepB hq0 (fun q e => hbg.block q (hq0.lt q e).2 (HAVX.out q e))
            have hx6 : ThreeAt w6 w.heap.size (.string u) (.string v) (.int .i64 (Dn : Int)) 28 := (hbg.block w.heap.size HXX.out.lt (by omega)).trans HXX.out
            have hbl6 : Below w.heap.size w w6 := HBX.out.trans (butG_to hbg (by omega) HBX.out.size)
            have hg6 : g < w6.heap.size := Nat.lt_of_lt_of_le hgX hbg.size
            have hav6 := HAVX.out
            have hNX : (N + 1) = ((acc ++ [l])).length := HNX.out
            have hsum : solsL W S Dn = (acc ++ [l]) ++ (match nxt Dn W l (k + 1) with | some s => (restW Dn W s).filter (solB W S (Dn : Int)) | none => []) := HSUM.out
            clear hq0 hbg
            rcases hnp with ⟨s, hs, rfl, hq6⟩ | ⟨hs, rfl⟩
            · rw [hs] at hsum
              have hcs := HNC.out s hs
              have hls := HNL.out s hs
              have hm6 : leftM Dn W g (.bool true) w6 < leftM Dn W g (.bool true) wr := by
                rw [HM1.out]
                show 1 + (restW Dn W (bytesAt w6 g W.length)).length < _
                rw [← cmp_len W s hcs, bytesAt_of hq6]
                omega
              have K1 := Lib.hid own6; have K2 := Lib.hid hav6; have K3 := Lib.hid hx6; have K4 := Lib.hid hbl6; have K5 := Lib.hid hg6
              have K6 : Hid (∃ l2, Cmp Dn W l2 ∧ BytQ w6 g l2 ∧ solsL W S Dn = (acc ++ [l]) ++ (restW Dn W l2).filter (solB W S (Dn : Int))) := Lib.hid ⟨s, hcs, hq6, hsum⟩
              have HM6 := Lib.hid hm6; have HNX2 := Lib.hid hNX
              clear own6 hav6 hx6 hbl6 hg6 hcs hq6 hsum hls hs hm6 hNX
              go_wp2_with fail
              go_roundw
              case rel => exact ⟨(acc ++ [l]), N + 1, true, _, _, HNX2.out, rfl, by omega, rfl, K1.out, K2.out, K3.out, K4.out, K5.out, fun _ => K6.out, fun h => by cases h⟩
              case measure => exact HM6.out
            · rw [hs, List.append_nil] at hsum
              have hm6 : leftM Dn W g (.bool false) w6 < leftM Dn W g (.bool true) wr := by
                rw [HM1.out]
                show 0 < _
                omega
              have K1 := Lib.hid own6; have K2 := Lib.hid hav6; have K3 := Lib.hid hx6; have K4 := Lib.hid hbl6; have K5 := Lib.hid hg6
              have K6 : Hid (solsL W S Dn = (acc ++ [l])) := Lib.hid hsum
              have HM6 := Lib.hid hm6; have HNX2 := Lib.hid hNX
              clear own6 hav6 hx6 hbl6 hg6 hsum hs hm6 hNX
              go_wp2_with fail
              go_roundw
              case rel => exact ⟨(acc ++ [l]), N + 1, false, _, _, HNX2.out, rfl, by omega, rfl, K1.out, K2.out, K3.out, K4.out, K5.out, (fun h => by cases h), fun _ => K6.out⟩
              case measure => exact HM6.out
          · have hov' : ((most : Int) < (N : Int) + 1) := by omega
            have HFIN : Hid (PST w5 (.returned (.tuple #[.slice none 0 0, .bool false]))) := Lib.hid (by
              rw [HPST.out]
              show SolOk _ _ _ _
              have hlong : ¬ (solsL W S Dn).length ≤ most := by
                rw [HSOL.out, HSTEP.out]
                simp only [if_true, List.length_append, List.length_cons, List.length_nil]
                have := HN.out; omega
              rw [HSO.out, if_neg hlong]
              exact ⟨none, 0, rfl, ⟨by simp [strA], .inl ⟨rfl, rfl⟩⟩, HB5.out, fun _ => ⟨rfl, rfl⟩⟩)
            go_wp2_with fail
            exact HFIN.out
        | false =>
          have hov' : ¬ ((most : Int) < (N : Int)) := by omega
          have HQX := HQ4; have hgX := hg4; have HOX := HO4; have HAVX := Lib.hid HI2.out.2.1; have HXX := HX4; have HBX := HB4
          have HNX : Hid (N = acc.length) := HN
          have HSUM : Hid (solsL W S Dn = acc ++ (match nxt Dn W l (k + 1) with | some s => (restW Dn W s).filter (solB W S (Dn : Int)) | none => [])) := Lib.hid (by
            rw [HSOL.out, HSTEP.out]
            cases nxt Dn W l (k + 1) <;> rfl)
          go_wp2_with fail
          refine (HNXT.out l k HL.out hk _ HQX.out hgX).mono ?_
          rintro e w6 ⟨hnp, hbg⟩
          have hq0 := HOX.out
          have own6 : w6.ownsRow (w.heap.size + 1) 9 1 (.slice a N c) N (strA acc) := own_keepB hq0 (fun q e => hbg.block q (hq0.lt q e).2 (HAVX.out q e))
          have hx6 : ThreeAt w6 w.heap.size (.string u) (.string v) (.int .i64 (Dn : Int)) 28 := (hbg.block w.heap.size HXX.out.lt (by omega)).trans HXX.out
          have hbl6 : Below w.heap.size w w6 := HBX.out.trans (butG_to hbg (by omega) HBX.out.size)
          have hg6 : g < w6.heap.size := Nat.lt_of_lt_of_le hgX hbg.size
          have hav6 := HAVX.out
          have hNX : N = (acc).length := HNX.out
          have hsum : solsL W S Dn = acc ++ (match nxt Dn W l (k + 1) with | some s => (restW Dn W s).filter (solB W S (Dn : Int)) | none => []) := HSUM.out
          clear hq0 hbg
          rcases hnp with ⟨s, hs, rfl, hq6⟩ | ⟨hs, rfl⟩
          · rw [hs] at hsum
            have hcs := HNC.out s hs
            have hls := HNL.out s hs
            have hm6 : leftM Dn W g (.bool true) w6 < leftM Dn W g (.bool true) wr := by
              rw [HM1.out]
              show 1 + (restW Dn W (bytesAt w6 g W.length)).length < _
              rw [← cmp_len W s hcs, bytesAt_of hq6]
              omega
            have K1 := Lib.hid own6; have K2 := Lib.hid hav6; have K3 := Lib.hid hx6; have K4 := Lib.hid hbl6; have K5 := Lib.hid hg6
            have K6 : Hid (∃ l2, Cmp Dn W l2 ∧ BytQ w6 g l2 ∧ solsL W S Dn = acc ++ (restW Dn W l2).filter (solB W S (Dn : Int))) := Lib.hid ⟨s, hcs, hq6, hsum⟩
            have HM6 := Lib.hid hm6; have HNX2 := Lib.hid hNX
            clear own6 hav6 hx6 hbl6 hg6 hcs hq6 hsum hls hs hm6 hNX
            go_wp2_with fail
            go_roundw
            case rel => exact ⟨acc, N, true, _, _, HNX2.out, rfl, by omega, rfl, K1.out, K2.out, K3.out, K4.out, K5.out, fun _ => K6.out, fun h => by cases h⟩
            case measure => exact HM6.out
          · rw [hs, List.append_nil] at hsum
            have hm6 : leftM Dn W g (.bool false) w6 < leftM Dn W g (.bool true) wr := by
              rw [HM1.out]
              show 0 < _
              omega
            have K1 := Lib.hid own6; have K2 := Lib.hid hav6; have K3 := Lib.hid hx6; have K4 := Lib.hid hbl6; have K5 := Lib.hid hg6
            have K6 : Hid (solsL W S Dn = acc) := Lib.hid hsum
            have HM6 := Lib.hid hm6; have HNX2 := Lib.hid hNX
            clear own6 hav6 hx6 hbl6 hg6 hsum hs hm6 hNX
            go_wp2_with fail
            go_roundw
            case rel => exact ⟨acc, N, false, _, _, HNX2.out, rfl, by omega, rfl, K1.out, K2.out, K3.out, K4.out, K5.out, (fun h => by cases h), fun _ => K6.out⟩
            case measure => exact HM6.out
end Go.Proofs.YtplcdofpikdigaaDoor
