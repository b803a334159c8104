/- WordsDerivedTo: the program's. -/
import Derived.Test.YtkjmocdhhndlgaaGreatDoorD16
import Derived.Test.YtkjmocdhhndlgaaGreatDoorD7
import Derived.Test.YtkjmocdhhndlgaaGreatDoorD14
import Derived.Test.YtkjmocdhhndlgaaGreatDoorS
import Derived.Lib.OwnBridge
namespace Go.Proofs.YtkjmocdhhndlgaaGreatDoor
open Go.RowKit Go.BigFrame Go.Shelf Go.Sort
set_option linter.unusedSimpArgs false
set_option linter.unusedVariables false
set_option maxRecDepth 4000

def wdO (l : List UInt8) : Option (List (List UInt8)) := if lowB l = true ∧ 1 ≤ l.length ∧ l.length ≤ 25 then some ((wdL l).mergeSort fun x y => decide (x ≤ y)) else none
theorem sortD_any (w : World) (B : Nat) (v : Value) (R : List (List UInt8)) (h : w.ownsRow B 9 1 v R.length (strsV R)) (hl : R.length ≤ 1000000) (hB : B ≤ w.heap.size) :
    Calls Tryz.prog 41 #[v] w fun e w' => e = .returned (.tuple #[]) ∧ w'.ownsRow B 9 1 v R.length (strsV (R.mergeSort fun x y => decide (x ≤ y))) ∧ Below B w w' := by
  by_cases hR : R = []
  · subst hR
    obtain ⟨q, c, rfl⟩ := own_slice h
    refine (Tryz.slices_Sort_string_none q c w).mono ?_
    rintro e w' ⟨rfl, rfl⟩
    refine ⟨rfl, ?_, Below.refl _ _⟩
    simpa using h
  · have he : strsV R = R.map encStr := rfl
    have hv : v ≠ .slice none 0 0 := by
      rintro rfl
      have h2 := h.2
      rcases h2 with ⟨_, h0⟩ | ⟨g, cap, cur, e, _⟩
      · exact hR (List.eq_nil_of_length_eq_zero h0)
      · cases e
    rw [he] at h
    obtain ⟨g, cap, rfl, hBg, hg, hc1, hc2, _, hH⟩ := Lib.holds_of_ownsRow h hv
    refine (Tryz.slices_Sort_string g 0 cap R w hH hg (by omega)).mono ?_
    rintro e w' ⟨rfl, n, os, rfl⟩
    have hsz : (putRow encStr (Sort.ahead w n) g 0 (R.mergeSort fun x y => decide (x ≤ y)).toArray).heap.size = w.heap.size := by simp [putRow, mapBlock, Sort.ahead]
    have hother : ∀ k, k < w.heap.size → g ≠ k → (grow (putRow encStr (Sort.ahead w n) g 0 (R.mergeSort fun x y => decide (x ≤ y)).toArray) os).heap[k]? = w.heap[k]? := by
      intro k hk hne
      rw [heap_grow_old _ _ (by rw [hsz]; exact hk)]
      simp [putRow, mapBlock, Sort.ahead, Array.getElem?_modify, hne]
    have h3 := Lib.ownsRow_putRow (q := n) (k := R.length) (ys := R.mergeSort fun x y => decide (x ≤ y)) h (List.length_mergeSort ..) (Nat.le_refl _)
    refine ⟨rfl, ?_, ⟨rfl, rfl, rfl, by simp [hsz], fun k hk => hother k (by omega) (fun e => by omega)⟩⟩
    have h4 := own_block h3 (w' := grow (putRow encStr (Sort.ahead w n) g 0 (R.mergeSort fun x y => decide (x ≤ y)).toArray) os) (fun k e => heap_grow_old _ _ (h3.lt k e).2)
    rw [List.take_of_length_le (by rw [List.length_mergeSort]; exact Nat.le_refl _)] at h4
    exact h4
theorem wd_step (l : List UInt8) (i : Nat) (h : i < 4) : ∃ x, (lensOf l)[i]? = some x ∧ x ∈ lensOf l ∧ ((lensOf l).take (i + 1)).flatMap (twoF l) = ((lensOf l).take i).flatMap (twoF l) ++ twoF l x := by
  have h2 : i < (lensOf l).length := h
  refine ⟨(lensOf l)[i], List.getElem?_eq_getElem h2, List.getElem_mem h2, ?_⟩
  rw [List.take_succ_eq_append_getElem h2, List.flatMap_append, List.flatMap_cons, List.flatMap_nil, List.append_nil]
theorem bs_ne {a b : List UInt8} : ((bs a).toList == (bs b).toList) = decide (a = b) := by
  rw [Go.Lib.toList_data, Go.Lib.toList_data, bs_list, bs_list, Bool.eq_iff_iff]; simp

set_option maxHeartbeats 2000000 in
theorem implWordsDerivedTo_any (l : List UInt8) (w : World) (hs : l.length ≤ maxLen) :
    Calls Tryz.prog 13 #[.string (bs l)] w fun e w' => AllOk (wdO l) w w' e := by
  obtain ⟨i0, hi, hz0, hz1, hz2⟩ := info_strD
  have hlo := isLow_any (bs l) w (by rw [bs_size]; exact hs)
  rw [bs_list] at hlo
  have HLO := Lib.hid hlo; clear hlo
  have hsz : (bs l).size = l.length := bs_size l
  have HSZ := Lib.hid hsz
  unfold maxLen at hs
  obtain ⟨L, hL⟩ : ∃ L, L = l.length := ⟨_, rfl⟩
  rw [← hL] at hsz hs
  cases h1 : lowB l with
  | false =>
    have ho : wdO l = none := by unfold wdO; rw [if_neg (fun h => by rw [h1] at h; cases h.1)]
    have HO := Lib.hid ho
    rw [h1] at HLO
    clear ho h1 hs hL
    go_enter Tryz.func13, Tryz.ntmps13
    go_wp2_with fail
    refine HLO.out.mono ?_
    rintro e w1 ⟨rfl, hb⟩
    have HB := Lib.hid hb; clear hb
    go_wp2_with fail
    go_ret2
    exact ⟨_, by rw [HO.out]; rfl, by rw [HO.out]; exact World.ownsRow_nil _ _ _ _, HB.out⟩
  | true =>
    rw [h1] at HLO
    by_cases h2 : 1 ≤ L ∧ L ≤ 25
    · have hd : decide ((1 : Int) ≤ (L : Int) ∧ (L : Int) ≤ 25) = true := decide_eq_true (by omega)
      have ho : wdO l = some ((wdL l).mergeSort fun x y => decide (x ≤ y)) := by unfold wdO; rw [if_pos ⟨h1, by omega, by omega⟩]
      have hon : l.all onB = true := by unfold lowB at h1; simp only [Bool.and_eq_true] at h1; exact h1.2
      have hlx := lensOf_on hon (by omega) (by omega)
      have hwl := wd_len l
      have HO := Lib.hid ho; have HD := Lib.hid hd; have HLX := Lib.hid hlx; have HWL := Lib.hid hwl; have HL := Lib.hid hL
      clear ho hd hon hlx hwl h1 hL
      go_enter Tryz.func13, Tryz.ntmps13
      go_wp2_with fail
      refine HLO.out.mono ?_
      rintro e w1 ⟨rfl, hb⟩
      have HB := Lib.hid hb; clear hb
      go_wp2_with fail
      refine (isWithin_is true _ _ _ _ HD.out).mono ?_
      rintro e w2 ⟨rfl, rfl⟩
      go_wp2_with fail
      go_loopw [4, 31] (fun v iv wr => ∃ (i L1 : Nat) (a : Option Addr) (c : Nat), iv = .int .i64 (i : Int) ∧ i ≤ 4 ∧ v = .slice a L1 c ∧ L1 ≤ 2 * i ∧ Hid (L1 = (((lensOf l).take i).flatMap (twoF l)).length ∧ wr.ownsRow w.heap.size 9 1 (.slice a L1 c) L1 (strsV (((lensOf l).take i).flatMap (twoF l))) ∧ Below w.heap.size w wr ∧ w1.heap.size + 1 < wr.heap.size ∧ (Value.slice a L1 c).ownBlock ≠ some (w1.heap.size + 1) ∧ ∀ j y, (lensOf l)[j]? = some y → wr.cell? ⟨w1.heap.size + 1, j, none⟩ = some (.string (bs y)))) (fun _ iv _ => 4 - (intOf iv).toNat)
      case atStart =>
        refine ⟨0, 0, _, _, rfl, by omega, rfl, by omega, rfl, ?_, ?_, by simp, ?_, ?_⟩
        · exact (own_lit w1 w.heap.size 9 [] HB.out.size (by unfold maxLen; simp)).alloc _
        · exact (HB.out.alloc HB.out.size _).alloc (by have := HB.out.size; simp; omega) _
        · intro e; simp [Value.ownBlock] at e
        · intro j y hj
          match j, hj with
          | 0, hj => simp [lensOf] at hj; subst hj; simp [go_sem]
          | 1, hj => simp [lensOf] at hj; subst hj; rw [show (49 :: l) = [49] ++ l from rfl, ← bs_append]; simp [go_sem]; rfl
          | 2, hj => simp [lensOf] at hj; subst hj; rw [← bs_append]; simp [go_sem]; rfl
          | 3, hj => simp [lensOf] at hj; subst hj; rw [show (49 :: (l ++ [49])) = [49] ++ l ++ [49] from rfl, ← bs_append, ← bs_append]; simp [go_sem]; rfl
          | j + 4, hj => simp [lensOf] at hj
      case round =>
        obtain ⟨i, L1, av, cv, rfl, hi4, rfl, hL1, HX⟩ := hrel
        by_cases hlt : i < 4
        · obtain ⟨x, hx1, hxm, hstep⟩ := wd_step l i hlt
          have hcx := HX.out.2.2.2.2.2 i x hx1
          obtain ⟨hxo, hx1l, hx30⟩ := HLX.out x hxm
          have hh4 : w1.heap.size + 1 < wr.heap.size := HX.out.2.2.2.1
          have HWO := Lib.hid (fun (W : World) => withoutOnes_any x W (by omega))
          have HST := Lib.hid hstep
          have hcmp := bs_ne (a := cutL x) (b := l)
          by_cases hc : cutL x = l
          · have htw : twoF l x = [wF x 1, wF x 2] := by unfold twoF; rw [if_pos hc]
            have hq1 := fun (W : World) => implWordOfLengths_any (bs x) 1 (3 - 1) W (by rw [bs_size]; unfold maxLen; omega)
            have hq2 := fun (W : World) => implWordOfLengths_any (bs x) 2 (3 - 2) W (by rw [bs_size]; unfold maxLen; omega)
            rw [bs_list, wF_lo hxo hx1l hx30 (.inl rfl)] at hq1
            rw [bs_list, wF_lo hxo hx1l hx30 (.inr rfl)] at hq2
            have hyl : ∀ (j : Nat) (y : List UInt8), [wF x 1, wF x 2][j]? = some y → y.length ≤ 60 := by
              intro j y hj
              have l1 := (wF_low hxo hx30 (f := 1) (.inl rfl)).1
              have l2 := (wF_low hxo hx30 (f := 2) (.inr rfl)).1
              unfold lowB at l1 l2
              simp only [Bool.and_eq_true, decide_eq_true_eq] at l1 l2
              match j, hj with
              | 0, hj => simp at hj; subst hj; exact l1.1
              | 1, hj => simp at hj; subst hj; exact l2.1
              | j + 2, hj => simp at hj
            have hqq : ∀ (j : Nat) (y : List UInt8) (W : World), [wF x 1, wF x 2][j]? = some y → Calls Tryz.prog 40 #[.string (bs x), .int .i64 ((j : Int) + 1), .int .i64 (3 - ((j : Int) + 1))] W fun e w' => e = .returned (.tuple #[.string (bs y), .bool true]) ∧ Below W.heap.size W w' := by
              intro j y W hj
              match j, hj with
              | 0, hj => simp at hj; subst hj; exact hq1 W
              | 1, hj => simp at hj; subst hj; exact hq2 W
              | j + 2, hj => simp at hj
            rw [htw] at HST
            obtain ⟨ys, hys⟩ : ∃ ys, ys = [wF x 1, wF x 2] := ⟨_, rfl⟩
            have hyn : ys.length = 2 := by rw [hys]; rfl
            rw [← hys] at hyl hqq HST
            have HYL := Lib.hid hyl; have HQQ := Lib.hid hqq; have HYN := Lib.hid hyn
            have hcmp2 : ((bs (cutL x)).toList == (bs l).toList) = true := by rw [hcmp, decide_eq_true hc]
            have hbx : (bs x).size ≤ 30 := by rw [bs_size]; exact hx30
            clear hyl hqq hq1 hq2 htw hstep hcmp hc hys hyn hxo hx1l hx30 hxm hx1
            go_wp2_with fail
            refine (HWO.out _).mono ?_
            rintro e w2 ⟨rfl, rfl⟩
            go_wp2_with fail
            go_loopw [4, 41] (fun v jv wi => ∃ (j L3 : Nat) (a3 : Option Addr) (c3 : Nat), jv = .int .i64 (j : Int) ∧ j ≤ 2 ∧ v = .slice a3 L3 c3 ∧ L3 ≤ L1 + j ∧ Hid (L3 = (((lensOf l).take i).flatMap (twoF l) ++ ys.take j).length ∧ wi.ownsRow w.heap.size 9 1 (.slice a3 L3 c3) L3 (strsV (((lensOf l).take i).flatMap (twoF l) ++ ys.take j)) ∧ Below w.heap.size w wi ∧ wr.heap.size < wi.heap.size ∧ (Value.slice a3 L3 c3).ownBlock ≠ some (w1.heap.size + 1) ∧ (Value.slice a3 L3 c3).ownBlock ≠ some wr.heap.size ∧ (∀ j' y, (lensOf l)[j']? = some y → wi.cell? ⟨w1.heap.size + 1, j', none⟩ = some (.string (bs y))) ∧ (∀ j' : Nat, j' < 2 → wi.cell? ⟨wr.heap.size, j', none⟩ = some (.int .i64 ((j' : Int) + 1))))) (fun _ jv _ => 2 - (intOf jv).toNat)
            case atStart =>
              refine ⟨0, L1, av, cv, rfl, by omega, rfl, by omega, ?_, ?_, HX.out.2.2.1.alloc HX.out.2.2.1.size _, by simp, HX.out.2.2.2.2.1, fun he => by have := (HX.out.2.1.lt _ he).2; omega, ?_, ?_⟩
              · rw [List.take_zero, List.append_nil]; exact HX.out.1
              · rw [List.take_zero, List.append_nil]; exact HX.out.2.1.alloc _
              · exact fun j' y h => ((below_alloc wr _).cell (p := ⟨w1.heap.size + 1, j', none⟩) hh4).trans (HX.out.2.2.2.2.2 j' y h)
              · intro j' hj'
                match j', hj' with
                | 0, _ => simp [go_sem]
                | 1, _ => simp [go_sem]
                | j' + 2, hj' => omega
            case round =>
              rename World => wi
              obtain ⟨j, L3, a3, c3, rfl, hj2, rfl, hL3, HI⟩ := hrel
              by_cases hjt : j < 2
              · have hjy : j < ys.length := by rw [HYN.out]; exact hjt
                have hcy := HI.out.2.2.2.2.2.2.2 j hjt
                have htk : ys.take (j + 1) = ys.take j ++ [ys[j]] := List.take_succ_eq_append_getElem hjy
                have hq := fun (W : World) => HQQ.out j ys[j] W (List.getElem?_eq_getElem hjy)
                have hyl := HYL.out j ys[j] (List.getElem?_eq_getElem hjy)
                obtain ⟨y, hy⟩ : ∃ y, y = ys[j] := ⟨_, rfl⟩
                rw [← hy] at htk hq hyl
                have HQ := Lib.hid hq; have HTK := Lib.hid htk
                have hgi : wr.heap.size < wi.heap.size := HI.out.2.2.2.1
                have hbyl : (bs y).size ≤ 60 := by rw [bs_size]; exact hyl
                clear hq htk hy hyl hjy
                go_wp2_with fail
                refine (HQ.out _).mono ?_
                rintro e w3 ⟨rfl, hb3⟩
                have HB3 := Lib.hid hb3; clear hb3
                have hgi3 : wr.heap.size < w3.heap.size := Nat.lt_of_lt_of_le hgi HB3.out.size
                have hrow3 := own_below HI.out.2.1 HB3.out
                have hbw3 : Below w.heap.size w w3 := below_trans HI.out.2.2.1 HB3.out
                have hc4 : ∀ j' y, (lensOf l)[j']? = some y → w3.cell? ⟨w1.heap.size + 1, j', none⟩ = some (.string (bs y)) := fun j' y h => (HB3.out.cell (p := ⟨w1.heap.size + 1, j', none⟩) (by show w1.heap.size + 1 < wi.heap.size; omega)).trans (HI.out.2.2.2.2.2.2.1 j' y h)
                have hc2 : ∀ j' : Nat, j' < 2 → w3.cell? ⟨wr.heap.size, j', none⟩ = some (.int .i64 ((j' : Int) + 1)) := fun j' h => (HB3.out.cell (p := ⟨wr.heap.size, j', none⟩) hgi).trans (HI.out.2.2.2.2.2.2.2 j' h)
                have HROW := Lib.hid hrow3; have HBW := Lib.hid hbw3; have HC4 := Lib.hid hc4; have HC2 := Lib.hid hc2
                clear hrow3 hbw3 hc4 hc2
                go_wp2_with (at_builtin; refine wpList_app _ rfl _ _ 29 rfl w.heap.size 9 i0 (.string ⟨#[]⟩) 16 Tryz.underlying29 hi hz0 hz1 hz2 rfl _ L3 _ rfl (HROW.out.alloc _) _ 1 1 [.string (bs y)] rfl rfl ?c1 ?c2 ?c3 ?c4 ?c5 ?_)
                case c1 => intro j u hj; cases j with | zero => (simp at hj; subst hj; simp [Addr.add]) | succ j => simp at hj
                case c2 => intro u hu; simp at hu; subst hu; rfl
                case c3 => unfold maxLen; omega
                case c4 => omega
                case c5 => have := HBW.out.size; simp; omega
                intro v' w4 hown' hgrow hwh
                obtain ⟨av', cv', rfl⟩ := own_slice hown'
                have R1 := Lib.hid hown'
                have R2 := Lib.hid ((HBW.out.alloc HBW.out.size _).grown hgrow (by have := HBW.out.size; simp; omega) (fun q hq => (HROW.out.lt q hq).1))
                have hn4 : (Value.slice av' (L3 + 1) cv').ownBlock ≠ some (w1.heap.size + 1) := by
                  rcases hwh with h | h
                  · rw [h]; exact HI.out.2.2.2.2.1
                  · rw [h]; simp; omega
                have hn2 : (Value.slice av' (L3 + 1) cv').ownBlock ≠ some wr.heap.size := by
                  rcases hwh with h | h
                  · rw [h]; exact HI.out.2.2.2.2.2.1
                  · rw [h]; simp; omega
                have hd4 : ∀ j' y, (lensOf l)[j']? = some y → w4.cell? ⟨w1.heap.size + 1, j', none⟩ = some (.string (bs y)) := fun j' y h =>
                  (World.cell?_of_block (hgrow.block (w1.heap.size + 1) (by simp; omega) (fun e => HI.out.2.2.2.2.1 e.symm))).trans (((below_alloc w3 _).cell (p := ⟨w1.heap.size + 1, j', none⟩) (by show w1.heap.size + 1 < w3.heap.size; omega)).trans (HC4.out j' y h))
                have hd2 : ∀ j' : Nat, j' < 2 → w4.cell? ⟨wr.heap.size, j', none⟩ = some (.int .i64 ((j' : Int) + 1)) := fun j' h =>
                  (World.cell?_of_block (hgrow.block wr.heap.size (by simp; omega) (fun e => HI.out.2.2.2.2.2.1 e.symm))).trans (((below_alloc w3 _).cell (p := ⟨wr.heap.size, j', none⟩) hgi3).trans (HC2.out j' h))
                have hg4 : wr.heap.size < w4.heap.size := by have := hgrow.size; simp at this; omega
                have HN4 := Lib.hid hn4; have HN2 := Lib.hid hn2; have HD4 := Lib.hid hd4; have HD2 := Lib.hid hd2; have HG4 := Lib.hid hg4
                clear hown' hgrow hwh hn4 hn2 hd4 hd2 hg4
                go_wp2_with fail
                go_roundw
                case rel =>
                  refine ⟨j + 1, L3 + 1, av', cv', by go_num, by omega, rfl, by omega, ?_, ?_, R2.out, HG4.out, HN4.out, HN2.out, HD4.out, HD2.out⟩
                  · rw [HTK.out, ← List.append_assoc, List.length_append, ← HI.out.1]; rfl
                  · rw [HTK.out, ← List.append_assoc]
                    have e7 : ∀ (E : List (List UInt8)), strsV (E ++ [y]) = strsV E ++ [.string (bs y)] := fun E => by simp [strsV]
                    rw [e7]
                    exact R1.out
                case measure => simp [intOf] <;> omega
              · obtain rfl : j = 2 := by omega
                have hyt : ys.take 2 = ys := List.take_of_length_le (by rw [HYN.out]; exact Nat.le_refl _)
                have HYT := Lib.hid hyt; clear hyt
                go_wp2_with fail
                go_roundw
                case rel =>
                  have h := HI.out
                  rw [HYT.out, ← HST.out] at h
                  exact ⟨i + 1, L3, a3, c3, by go_num, by omega, rfl, by omega, h.1, h.2.1, h.2.2.1, Nat.lt_trans hh4 h.2.2.2.1, h.2.2.2.2.1, h.2.2.2.2.2.2.1⟩
                case measure => simp [intOf] <;> omega
          · have htw : twoF l x = [] := by unfold twoF; rw [if_neg hc]
            have hcmp2 : ((bs (cutL x)).toList == (bs l).toList) = false := by rw [hcmp, decide_eq_false hc]
            rw [htw, List.append_nil] at HST
            clear htw hstep hcmp hc hxo hx1l hx30 hxm hx1
            go_wp2_with fail
            refine (HWO.out _).mono ?_
            rintro e w2 ⟨rfl, rfl⟩
            go_wp2_with fail
            go_roundw
            case rel =>
              refine ⟨i + 1, L1, av, cv, by go_num, by omega, rfl, by omega, ?_, ?_, HX.out.2.2⟩
              · rw [HST.out]; exact HX.out.1
              · rw [HST.out]; exact HX.out.2.1
            case measure => simp [intOf] <;> omega
        · obtain rfl : i = 4 := by omega
          have hall : ((lensOf l).take 4).flatMap (twoF l) = wdL l := rfl
          have hlen := HX.out.1
          have hown := HX.out.2.1
          rw [hall] at hlen hown
          rw [hlen] at hown
          have hso := sortD_any wr w.heap.size _ (wdL l) hown (by have := HWL.out; omega) HX.out.2.2.1.size
          rw [← hlen] at hso
          have HSO := Lib.hid hso; have HLEN := Lib.hid hlen
          clear hso hown hlen hall
          go_wp2_with fail
          refine HSO.out.mono ?_
          rintro e w3 ⟨rfl, h3, h4⟩
          have H3 := Lib.hid h3; have H4 := Lib.hid h4; clear h3 h4
          go_wp2_with fail
          go_ret2
          refine ⟨_, by rw [HO.out]; rfl, ?_, HX.out.2.2.1.trans H4.out⟩
          rw [HO.out, Option.getD_some, List.length_mergeSort, ← HLEN.out]
          exact H3.out
    · have hd : decide ((1 : Int) ≤ (L : Int) ∧ (L : Int) ≤ 25) = false := decide_eq_false (by omega)
      have ho : wdO l = none := by unfold wdO; rw [if_neg (fun h => h2 (by omega))]
      have HO := Lib.hid ho; have HD := Lib.hid hd
      clear ho hd h1 h2 hL
      go_enter Tryz.func13, Tryz.ntmps13
      go_wp2_with fail
      refine HLO.out.mono ?_
      rintro e w1 ⟨rfl, hb⟩
      have HB := Lib.hid hb; clear hb
      go_wp2_with fail
      refine (isWithin_is false _ _ _ _ HD.out).mono ?_
      rintro e w2 ⟨rfl, rfl⟩
      go_wp2_with fail
      go_ret2
      exact ⟨_, by rw [HO.out]; rfl, by rw [HO.out]; exact World.ownsRow_nil _ _ _ _, HB.out⟩
end Go.Proofs.YtkjmocdhhndlgaaGreatDoor
