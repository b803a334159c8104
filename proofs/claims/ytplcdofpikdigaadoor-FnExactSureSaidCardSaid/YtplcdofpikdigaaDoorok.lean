/- Chapter 9: SureSaid on both sides; its law. -/
import Derived.Test.YtplcdofpikdigaaDooroj
import Derived.Test.YtplcdofpikdigaaDoorI2
namespace Go.Proofs.YtplcdofpikdigaaDoor
open Go.RowKit Go.BigFrame
set_option linter.unusedSimpArgs false
set_option linter.unusedVariables false
set_option maxRecDepth 4000

theorem sol_word {W S : List UInt8} {D : Int} {s : List UInt8} (h : s ∈ solL200 W S D) : sayB s = true ∧ s.all digB = true ∧ 1 ≤ s.length ∧ s.length ≤ 8 ∧ (sayL s).length = S.length ∧ S.length ≤ 1000 := by
  obtain ⟨h1, h2, h3, h4⟩ := sol_mem h
  have hp := pzS_parts (pzB_parts h1).1
  have hg := (pzB_parts h1).2.1
  have hc : Cmp D.toNat W s := (mem_compl (by omega) W s).1 h2
  have hg' : W.all (sgB (D.toNat : Int)) = true := by rw [show ((D.toNat : Nat) : Int) = D by omega]; exact hg
  have hd := cmp_dig (by omega) W s hg' hc
  exact ⟨wd_say ⟨rfl, hd⟩ (by omega) (by omega), hd, by omega, by omega, h4, by omega⟩
theorem strA_snoc (ls : List (List UInt8)) (l : List UInt8) : strA (ls ++ [l]) = strA ls ++ [.string (bs l)] := by simp [strA]
def r0SureSaid (W S : List UInt8) (D : Int) : List UInt8 := comL ((solL200 W S D).map sayL)
def r1SureSaid (W S : List UInt8) (D : Int) : Bool := !(solL200 W S D).isEmpty

set_option maxHeartbeats 2000000 in
theorem specSureSaid_any (W S : List UInt8) (D : Int) (w : World) (hW : W.length ≤ maxLen) (hS : S.length ≤ maxLen) :
    Calls Tryd.prog 24 #[pzV W S D] w fun e w' => e = .returned (.tuple #[.string (bs (r0SureSaid W S D)), .bool (r1SureSaid W S D)]) ∧ Below w.heap.size w w' := by
  have H := Lib.hid (fun W0 => asked_post W S D W0 hW hS)
  unfold r0SureSaid r1SureSaid
  have hn := solL_none W S D
  have hle := solL_le W S D
  have hwd : ∀ s ∈ solL200 W S D, _ := fun s h => sol_word h
  generalize solB200 W S D = b at *
  generalize solL200 W S D = L at *
  generalize hv : pzV W S D = v at *
  unfold pzV at hv
  subst hv
  cases b with
  | false =>
    rw [hn rfl]
    clear hn hwd
    go_enter Tryd.func24, Tryd.ntmps24
    go_wp2_with fail
    refine (H.out _).mono ?_
    rintro e w1 ⟨a, n, c, rfl, _, hb⟩
    have HB := Lib.hid (below_trans (below_alloc _ _) hb); clear hb
    go_wp2_with fail
    go_ret2
    exact ⟨rfl, HB.out⟩
  | true =>
    clear hn
    cases L with
    | nil =>
      clear hwd
      go_enter Tryd.func24, Tryd.ntmps24
      go_wp2_with fail
      refine (H.out _).mono ?_
      rintro e w1 ⟨a, n, c, rfl, hx, hb⟩
      obtain rfl : n = 0 := (hx (by simp)).1
      have HB := Lib.hid (below_trans (below_alloc _ _) hb); clear hb hx
      go_wp2_with fail
      go_ret2
      exact ⟨rfl, HB.out⟩
    | cons x L =>
      have hn8 := (hwd x (by simp)).2.2.2.2.2
      obtain ⟨K, hK⟩ : ∃ K, K = x :: L := ⟨_, rfl⟩
      have he : (!(x :: L).isEmpty) = true := rfl
      rw [he, ← hK]
      rw [← hK] at hle hwd H
      have hKp : 1 ≤ K.length := by rw [hK]; simp
      have HL := Lib.hid hwd
      clear hK hwd he
      go_enter Tryd.func24, Tryd.ntmps24
      go_wp2_with fail
      refine (H.out _).mono ?_
      rintro e w1 ⟨a, n, c, rfl, hx, hb⟩
      obtain ⟨hnl, hown⟩ := hx (by simp)
      have hn0 : 0 < n := by omega
      obtain ⟨g, rfl, hg, hcell⟩ := row_first hown hnl hn0
      have HCE := Lib.hid hcell
      have hnz : ((n : Int) == 0) = false := by simp; omega
      have HB := Lib.hid (below_trans (below_alloc _ _) hb); clear hb hx hown hcell
      have hn200 : n ≤ 200 := by omega
      have HNL := Lib.hid hnl
      obtain ⟨i0, hi, hz0, hz1, hz2⟩ := info_parts info_strA
      clear hnl
      go_wp2_with fail
      go_loopw [6, 23] (fun sv iv wr => ∃ k : Nat, k ≤ n ∧ iv = .int .i64 (k : Int) ∧ (∃ a c, sv = .slice a k c) ∧ Hid (wr.ownsRow w1.heap.size 9 1 sv k (strA ((K.take k).map sayL)) ∧ Below w1.heap.size w1 wr)) (fun _ iv _ => n - (intOf iv).toNat)
      case atStart => exact ⟨0, Nat.zero_le _, rfl, ⟨_, _, rfl⟩, ⟨by simp [strA], .inl ⟨rfl, rfl⟩⟩, Below.refl _ _⟩
      case round =>
        obtain ⟨k, hk, rfl, ⟨a2, c2, rfl⟩, HY⟩ := hrel
        by_cases hlt : k < n
        · have hkl : k < K.length := by rw [← HNL.out]; exact hlt
          obtain ⟨l, hl⟩ : ∃ l, l = K.getD k [] := ⟨_, rfl⟩
          have hlk : K[k] = l := by rw [hl]; simp [List.getD, hkl]
          have hpr := HL.out l (by rw [← hlk]; exact List.getElem_mem hkl)
          obtain ⟨tl, htl⟩ : ∃ tl, tl = bs l := ⟨_, rfl⟩
          obtain ⟨ts, hts⟩ : ∃ ts, ts = bs (sayL l) := ⟨_, rfl⟩
          have hc := (HY.out.2.cell (p := ⟨g, k, none⟩) hg).trans (HCE.out k hlt)
          rw [← hl, ← htl] at hc
          have hCS : ∀ W0 : World, Calls Tryd.prog 38 #[.string tl] W0 fun e w' => e = .returned (.string ts) ∧ Below W0.heap.size W0 w' := fun W0 => by
            have h := woSay_any (bs l) W0 (by rw [bs_size]; omega) (by rw [bs_size]; omega) (by rw [bs_list]; exact hpr.2.1)
            rw [bs_list] at h
            rw [htl, hts]; exact h
          have HCS := Lib.hid hCS
          have HNX : Hid (strA ((K.take (k + 1)).map sayL) = strA ((K.take k).map sayL) ++ [.string ts]) := Lib.hid (by
            rw [List.take_succ_eq_append_getElem hkl, List.map_append, hlk, List.map_singleton, strA_snoc, hts])
          clear hl hlk hpr htl hts hCS hkl
          go_wp2_with fail
          refine (HCS.out _).mono ?_
          rintro e w2 ⟨rfl, hb⟩
          have HO2 := Lib.hid (own_below HY.out.1 hb)
          have HB2 := Lib.hid (HY.out.2.trans (hb.mono HY.out.2.size))
          clear hb hc
          go_wp2_with (at_builtin; refine wpList_append_own _ rfl _ _ 25 rfl w1.heap.size 9 i0 (.string ⟨#[]⟩) 1 16 Tryd.underlying25 hi hz0 hz1 hz2 rfl (by decide) _ _ _ rfl (HO2.out.alloc _) ⟨w2.heap.size, 0, none⟩ 1 1 [.string ts] rfl rfl (cell_one_new _ _ _) (by simp [Value.oneCell']) (by unfold maxLen; omega) (by omega) (by have := HB2.out.size; simp; omega) ?_; intro v' w3 hown' hgrow _; have R1 := Lib.hid hown'; have R2 := Lib.hid ((HB2.out.alloc HB2.out.size _).grown hgrow (by have := HB2.out.size; simp; omega) (fun q hq => (HO2.out.lt q hq).1)); clear hown' hgrow)
          go_roundw
          case rel => exact ⟨k + 1, by omega, by go_num, own_slice R1.out, by rw [HNX.out]; exact R1.out, R2.out⟩
          case measure => simp [intOf] <;> omega
        · have hkn : k = n := by omega
          subst hkn
          have hown := HY.out.1
          rw [show K.take k = K by rw [HNL.out, List.take_length]] at hown
          have hlM : k = (K.map sayL).length := by rw [List.length_map]; exact HNL.out
          obtain ⟨g2, rfl, hg2, hcell2⟩ := row_first hown hlM hn0
          have HT := Lib.hid (txts_row (n := S.length) hlM hg2 hcell2 (fun s hs => by
            obtain ⟨l, hl, rfl⟩ := List.mem_map.1 hs
            exact (HL.out l hl).2.2.2.2.1))
          have HC := Lib.hid (fun (w2 : World) (h : Below wr.heap.size wr w2) => pzSure_any (K.map sayL) g2 k S.length c2 w2 hlM (by omega) (by omega) hn8 (HT.out.below h))
          have HBF := Lib.hid (HB.out.trans (HY.out.2.mono HB.out.size))
          clear hown hcell2 hlM HT
          go_wp2_with fail
          refine (HC.out _ (Below.refl _ _)).mono ?_
          rintro e w2 ⟨rfl, hb⟩
          have HB2 := Lib.hid (HBF.out.trans (hb.mono HBF.out.size)); clear hb
          go_wp2_with fail
          go_ret2
          exact ⟨rfl, HB2.out⟩

set_option maxHeartbeats 1000000 in
theorem implSureSaid_any (W S : List UInt8) (D : Int) (w : World) (hW : W.length ≤ maxLen) (hS : S.length ≤ maxLen) :
    Calls Tryd.prog 25 #[pzV W S D] w fun e w' => e = .returned (.tuple #[.string (bs (r0SureSaid W S D)), .bool (r1SureSaid W S D)]) ∧ Below w.heap.size w w' := by
  have H := Lib.hid (fun W0 => implSolutions_any W S D W0 hW hS)
  have hle := solL_le W S D
  have hwd : ∀ s ∈ solL200 W S D, _ := fun s h => sol_word h
  unfold r0SureSaid r1SureSaid solL200 at *
  unfold SolOk at H
  generalize (solO W S D 200).getD [] = L at *
  generalize solO W S D 200 = o at *
  generalize hv : pzV W S D = v at *
  unfold pzV at hv
  subst hv
  cases L with
  | nil =>
    clear hwd
    go_enter Tryd.func25, Tryd.ntmps25
    go_wp2_with fail
    refine (H.out _).mono ?_
    rintro e w1 ⟨a, c, rfl, _, hb, _⟩
    have HB := Lib.hid (below_trans (below_alloc _ _) hb); clear hb
    obtain ⟨i0, hi, hz0, hz1, hz2⟩ := info_parts info_strA
    go_wp2_with (refine wpList_make_own _ rfl _ _ 25 rfl w1.heap.size 9 i0 (.string ⟨#[]⟩) 1 Tryd.underlying25 hi hz0 hz1 .i64 .i64 (0 : Int) 0 rfl rfl rfl (by rw [hz2]; omega) (by unfold maxLen; omega) (Nat.le_refl _) ?_; intro wm hown hgr; have HMK := Lib.hid (And.intro hown ((Below.refl w1.heap.size w1).grown hgr (Nat.le_refl _) (fun k h => by cases h))); clear hown hgr)
    go_wp2_with fail
    go_loopw [6, 19] (fun sv iv wr => (∃ a c, sv = .slice a 0 c) ∧ iv = .int .i64 0 ∧ Hid (Below w1.heap.size w1 wr)) (fun _ iv _ => 1 - (intOf iv).toNat)
    case atStart => exact ⟨⟨_, _, rfl⟩, rfl, HMK.out.2⟩
    case round =>
      obtain ⟨⟨a2, c2, rfl⟩, rfl, HY⟩ := hrel
      go_wp2_with fail
      refine (commonSigns_none _ _ _).mono ?_
      rintro e w2 ⟨rfl, hb⟩
      have HB2 := Lib.hid ((HB.out.trans (HY.out.mono HB.out.size)).trans (hb.mono (Nat.le_trans HB.out.size HY.out.size))); clear hb
      go_wp2_with fail
      go_ret2
      exact ⟨rfl, HB2.out⟩
  | cons x L =>
    have hn8 := (hwd x (by simp)).2.2.2.2.2
    obtain ⟨K, hK⟩ : ∃ K, K = x :: L := ⟨_, rfl⟩
    have he : (!(x :: L).isEmpty) = true := rfl
    rw [he, ← hK]
    rw [← hK] at hle hwd H
    have hKp : 1 ≤ K.length := by rw [hK]; simp
    have HL := Lib.hid hwd
    clear hK hwd he
    go_enter Tryd.func25, Tryd.ntmps25
    go_wp2_with fail
    refine (H.out _).mono ?_
    rintro e w1 ⟨a, c, rfl, hown, hb, _⟩
    obtain ⟨n, hn⟩ : ∃ n, n = K.length := ⟨_, rfl⟩
    rw [← hn] at hown ⊢
    have hn0 : 0 < n := by omega
    obtain ⟨g, rfl, hg, hcell⟩ := row_first hown hn hn0
    have HCE := Lib.hid hcell
    have HB := Lib.hid (below_trans (below_alloc _ _) hb); clear hb hown hcell
    have hn200 : n ≤ 200 := by omega
    have HNL := Lib.hid hn
    obtain ⟨i0, hi, hz0, hz1, hz2⟩ := info_parts info_strA
    clear hn
    go_wp2_with (refine wpList_make_own _ rfl _ _ 25 rfl w1.heap.size 9 i0 (.string ⟨#[]⟩) 1 Tryd.underlying25 hi hz0 hz1 .i64 .i64 (n : Int) n rfl rfl rfl (by rw [hz2]; omega) (by unfold maxLen; omega) (Nat.le_refl _) ?_; intro wm hown hgr; have HMK := Lib.hid (And.intro hown ((Below.refl w1.heap.size w1).grown hgr (Nat.le_refl _) (fun k h => by cases h))); clear hown hgr)
    go_wp2_with fail
    go_loopw [6, 19] (fun sv iv wr => ∃ k : Nat, k ≤ n ∧ iv = .int .i64 (k : Int) ∧ (∃ a c, sv = .slice a k c) ∧ Hid (wr.ownsRow w1.heap.size 9 1 sv k (strA ((K.take k).map sayL)) ∧ Below w1.heap.size w1 wr)) (fun _ iv _ => n - (intOf iv).toNat)
    case atStart => exact ⟨0, Nat.zero_le _, rfl, ⟨_, _, rfl⟩, HMK.out.1, HMK.out.2⟩
    case round =>
      obtain ⟨k, hk, rfl, ⟨a2, c2, rfl⟩, HY⟩ := hrel
      by_cases hlt : k < n
      · have hkl : k < K.length := by rw [← HNL.out]; exact hlt
        obtain ⟨l, hl⟩ : ∃ l, l = K.getD k [] := ⟨_, rfl⟩
        have hlk : K[k] = l := by rw [hl]; simp [List.getD, hkl]
        have hpr := HL.out l (by rw [← hlk]; exact List.getElem_mem hkl)
        obtain ⟨tl, htl⟩ : ∃ tl, tl = bs l := ⟨_, rfl⟩
        obtain ⟨ts, hts⟩ : ∃ ts, ts = bs (sayL l) := ⟨_, rfl⟩
        have hc := (HY.out.2.cell (p := ⟨g, k, none⟩) hg).trans (HCE.out k hlt)
        rw [← hl, ← htl] at hc
        have hCS : ∀ W0 : World, Calls Tryd.prog 39 #[.string tl] W0 fun e w' => e = .returned (.string ts) ∧ Below W0.heap.size W0 w' := fun W0 => by
          have h := sayText_long (bs l) W0 (by rw [bs_list]; exact hpr.1) (by rw [bs_size]; omega)
          rw [bs_list] at h
          rw [htl, hts]; exact h
        have HCS := Lib.hid hCS
        have HNX : Hid (strA ((K.take (k + 1)).map sayL) = strA ((K.take k).map sayL) ++ [.string ts]) := Lib.hid (by
          rw [List.take_succ_eq_append_getElem hkl, List.map_append, hlk, List.map_singleton, strA_snoc, hts])
        clear hl hlk hpr htl hts hCS hkl
        go_wp2_with fail
        refine (HCS.out _).mono ?_
        rintro e w2 ⟨rfl, hb⟩
        have HO2 := Lib.hid (own_below HY.out.1 hb)
        have HB2 := Lib.hid (HY.out.2.trans (hb.mono HY.out.2.size))
        clear hb hc
        go_wp2_with (at_builtin; refine wpList_append_own _ rfl _ _ 25 rfl w1.heap.size 9 i0 (.string ⟨#[]⟩) 1 16 Tryd.underlying25 hi hz0 hz1 hz2 rfl (by decide) _ _ _ rfl (HO2.out.alloc _) ⟨w2.heap.size, 0, none⟩ 1 1 [.string ts] rfl rfl (cell_one_new _ _ _) (by simp [Value.oneCell']) (by unfold maxLen; omega) (by omega) (by have := HB2.out.size; simp; omega) ?_; intro v' w3 hown' hgrow _; have R1 := Lib.hid hown'; have R2 := Lib.hid ((HB2.out.alloc HB2.out.size _).grown hgrow (by have := HB2.out.size; simp; omega) (fun q hq => (HO2.out.lt q hq).1)); clear hown' hgrow)
        go_roundw
        case rel => exact ⟨k + 1, by omega, by go_num, own_slice R1.out, by rw [HNX.out]; exact R1.out, R2.out⟩
        case measure => simp [intOf] <;> omega
      · have hkn : k = n := by omega
        subst hkn
        have hown := HY.out.1
        rw [show K.take k = K by rw [HNL.out, List.take_length]] at hown
        have hlM : k = (K.map sayL).length := by rw [List.length_map]; exact HNL.out
        obtain ⟨g2, rfl, hg2, hcell2⟩ := row_first hown hlM hn0
        have HT := Lib.hid (txts_row (n := S.length) hlM hg2 hcell2 (fun s hs => by
          obtain ⟨l, hl, rfl⟩ := List.mem_map.1 hs
          exact (HL.out l hl).2.2.2.2.1))
        have HC := Lib.hid (fun (w2 : World) (h : Below wr.heap.size wr w2) => commonSigns_any (K.map sayL) g2 k S.length c2 w2 hlM (by omega) (by omega) hn8 (HT.out.below h))
        have HBF := Lib.hid (HB.out.trans (HY.out.2.mono HB.out.size))
        clear hown hcell2 hlM HT
        go_wp2_with fail
        refine (HC.out _ (Below.refl _ _)).mono ?_
        rintro e w2 ⟨rfl, hb⟩
        have HB2 := Lib.hid (HBF.out.trans (hb.mono HBF.out.size)); clear hb
        go_wp2_with fail
        go_ret2
        exact ⟨rfl, HB2.out⟩
set_option maxHeartbeats 4000000 in
theorem law_SureSaid (W S : List UInt8) (D : Int) (w : World) (hW : W.length ≤ maxLen) (hS : S.length ≤ maxLen) :
    Calls Tryd.prog 7 #[pzV W S D] w fun e w' => e = .returned (.bool true) ∧ Below w.heap.size w w' := by
  have hsz := fun (W0 : World) => szPuzzle_any W0 W S D hW hS
  obtain ⟨t, ht⟩ : ∃ t, t = bs W := ⟨_, rfl⟩
  obtain ⟨u, hu⟩ : ∃ u, u = bs S := ⟨_, rfl⟩
  by_cases hn : W.length + S.length ≤ 1048576
  · obtain ⟨m, hm⟩ : ∃ m : Nat, m = 1048576 - (W.length + S.length) := ⟨_, rfl⟩
    simp only [if_pos hn, ← hm] at hsz
    have hT := fun (W0 : World) => toPuzzle_any W0 W S D
    have hSP := fun (W0 : World) => specSureSaid_any W S D W0 (by first | omega | (unfold maxLen; omega)) (by first | omega | (unfold maxLen; omega))
    have hIM := fun (W0 : World) => implSureSaid_any W S D W0 (by first | omega | (unfold maxLen; omega)) (by first | omega | (unfold maxLen; omega))
    obtain ⟨r0, hr0⟩ : ∃ r, r = bs (r0SureSaid W S D) := ⟨_, rfl⟩
    obtain ⟨r1, hr1⟩ : ∃ r, r = r1SureSaid W S D := ⟨_, rfl⟩
    simp only [pzV, ← ht, ← hu, ← hr0, ← hr1] at hsz hT hSP hIM ⊢
    have HSZ := Lib.hid hsz; have HT := Lib.hid hT; have HSP := Lib.hid hSP; have HIM := Lib.hid hIM
    have e0 : (r0.toList != r0.toList) = false := by simp
    have e1 : (r1 != r1) = false := by simp
    clear hsz hT hSP hIM hm hn ht hu hW hS hr0 hr1
    go_enter Tryd.func7, Tryd.ntmps7
    go_wp2_with fail
    refine (HSZ.out _).mono ?_
    rintro e w1 ⟨rfl, hb⟩
    have hx1 := (threeAt_new w (.string t) (.string u) (.int .i64 D) 23).below hb
    have HB1 := Lib.hid (below_trans (below_alloc _ _) hb)
    obtain ⟨c0, c1, c2, _, _, _⟩ := hx1.cells
    have HX1 := Lib.hid hx1; clear hb hx1
    go_wp2_with fail
    refine (HT.out _).mono ?_
    rintro e w2 ⟨rfl, hb⟩
    have hx2 := HX1.out.below hb
    have HB2 := Lib.hid (below_trans HB1.out hb)
    obtain ⟨d0, d1, d2, _, _, _⟩ := hx2.cells
    have HX2 := Lib.hid hx2; clear hb hx2 c0 c1 c2
    go_wp2_with fail
    refine (HSP.out _).mono ?_
    rintro e w3 ⟨rfl, hb⟩
    have hx3 := HX2.out.below hb
    have HB3 := Lib.hid (below_trans HB2.out hb)
    obtain ⟨c0, c1, c2, _, _, _⟩ := hx3.cells
    clear hb hx3 d0 d1 d2
    go_wp2_with fail
    refine (HT.out _).mono ?_
    rintro e w4 ⟨rfl, hb⟩
    have HB4 := Lib.hid (below_trans HB3.out hb)
    clear hb c0 c1 c2
    go_wp2_with fail
    refine (HIM.out _).mono ?_
    rintro e w5 ⟨rfl, hb⟩
    have HB5 := Lib.hid (below_trans HB4.out hb)
    clear hb
    go_wp2_with fail
    go_ret
    exact ⟨rfl, HB5.out⟩
  · simp only [if_neg hn] at hsz
    simp only [pzV, ← ht, ← hu] at hsz ⊢
    have HSZ := Lib.hid hsz
    clear hsz ht hu
    go_enter Tryd.func7, Tryd.ntmps7
    go_wp2_with fail
    refine (HSZ.out _).mono ?_
    rintro e w1 ⟨rfl, hb⟩
    have HB := Lib.hid hb; clear hb
    go_wp2_with fail
    go_ret
    exact ⟨rfl, below_trans (below_alloc _ _) HB.out⟩
end Go.Proofs.YtplcdofpikdigaaDoor
