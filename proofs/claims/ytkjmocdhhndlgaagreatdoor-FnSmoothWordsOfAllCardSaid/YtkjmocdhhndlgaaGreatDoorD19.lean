/- WordsDerivedTo: the model's. -/
import Derived.Test.YtkjmocdhhndlgaaGreatDoorD18
namespace Go.Proofs.YtkjmocdhhndlgaaGreatDoor
open Go.RowKit Go.BigFrame Go.Shelf
set_option linter.unusedSimpArgs false
set_option linter.unusedVariables false
set_option maxRecDepth 4000

def gWD (l : List UInt8) (i : Nat) : List (List UInt8) := ((lensOf l).take i).flatMap (twoF l)
theorem wd_fresh {l x y : List UInt8} {i t : Nat} (hn : (wdL l).Nodup) (hx : (lensOf l)[i]? = some x) (hy : (twoF l x)[t]? = some y) : y ∉ gWD l i ++ (twoF l x).take t ∧ (twoF l x).take (t + 1) = (twoF l x).take t ++ [y] := by
  obtain ⟨hi, e⟩ := List.getElem?_eq_some_iff.1 hx
  obtain ⟨ht, e2⟩ := List.getElem?_eq_some_iff.1 hy
  have h1 : wdL l = gWD l i ++ (twoF l x ++ ((lensOf l).drop (i + 1)).flatMap (twoF l)) := by
    unfold wdL gWD
    rw [← e, ← List.flatMap_cons, ← List.drop_eq_getElem_cons hi, ← List.flatMap_append, List.take_append_drop]
  have htk : (twoF l x).take (t + 1) = (twoF l x).take t ++ [y] := by rw [List.take_succ_eq_append_getElem ht, e2]
  refine ⟨fun hm => ?_, htk⟩
  have h2 : twoF l x = (twoF l x).take t ++ ([y] ++ (twoF l x).drop (t + 1)) := by
    rw [← List.append_assoc, ← htk, List.take_append_drop]
  rw [h1, h2, List.append_assoc, ← List.append_assoc, List.append_assoc [y]] at hn
  have h3 := (List.pairwise_append.1 hn).2.2 y hm y (by simp)
  exact h3 rfl
set_option maxHeartbeats 4000000 in
theorem specWordsDerivedTo_any (l : List UInt8) (w : World) (hs : l.length ≤ maxLen) :
    Calls Tryz.prog 14 #[.string (bs l)] w fun e w' => AllOk (wdO l) w w' e := by
  obtain ⟨i0, hi, hz0, hz1, hz2⟩ := info_strD
  have hlo := ruLow_any (bs l) w (by rw [bs_size]; exact hs)
  rw [bs_list] at hlo
  have HLO := Lib.hid hlo; clear hlo
  have hsz : (bs l).size = l.length := bs_size l
  unfold maxLen at hs
  obtain ⟨L, hL⟩ : ∃ L, L = l.length := ⟨_, rfl⟩
  rw [← hL] at hsz hs
  cases h1 : lowB l with
  | false =>
    have ho : wdO l = none := by unfold wdO; rw [if_neg (fun h => by rw [h1] at h; cases h.1)]
    have HO := Lib.hid ho
    rw [h1] at HLO
    clear ho h1 hs hL
    go_enter Tryz.func14, Tryz.ntmps14
    go_wp2_with fail
    refine HLO.out.mono ?_
    rintro e w1 ⟨rfl, rfl⟩
    go_wp2_with fail
    go_ret2
    exact ⟨_, by rw [HO.out]; rfl, by rw [HO.out]; exact World.ownsRow_nil _ _ _ _, Below.refl _ _⟩
  | true =>
    rw [h1] at HLO
    by_cases h2 : 1 ≤ L ∧ L ≤ 25
    · have hd : decide ((1 : Int) ≤ (L : Int) ∧ (L : Int) ≤ 25) = true := decide_eq_true (by omega)
      have ho : wdO l = some ((wdL l).mergeSort fun x y => decide (x ≤ y)) := by unfold wdO; rw [if_pos ⟨h1, by omega, by omega⟩]
      have hon : l.all onB = true := by unfold lowB at h1; simp only [Bool.and_eq_true] at h1; exact h1.2
      have hlx := lensOf_on hon (by omega) (by omega)
      have hnd := wd_nodup hon (by omega) (by omega)
      have hwl := wd_len l
      have HO := Lib.hid ho; have HD := Lib.hid hd; have HLX := Lib.hid hlx; have HWL := Lib.hid hwl; have HL := Lib.hid hL; have HND := Lib.hid hnd
      clear ho hd hon hlx hwl h1 hL hnd
      go_enter Tryz.func14, Tryz.ntmps14
      go_wp2_with fail
      refine HLO.out.mono ?_
      rintro e w1 ⟨rfl, rfl⟩
      go_wp2_with fail
      refine (l1In_is true _ _ _ _ HD.out).mono ?_
      rintro e w2 ⟨rfl, rfl⟩
      go_wp2_with fail
      obtain ⟨B1, hB1⟩ : ∃ B1, B1 = w.heap.size + 1 := ⟨_, rfl⟩
      go_loopw [4, 33] (fun v iv wr => ∃ (i L1 : Nat) (a : Option Addr) (c : Nat), iv = .int .i64 (i : Int) ∧ i ≤ 4 ∧ v = .slice a L1 c ∧ L1 ≤ 2 * i ∧ Hid (∃ O : List (List UInt8), L1 = O.length ∧ O.Pairwise (· ≤ ·) ∧ O.Perm (gWD l i) ∧ wr.ownsRow B1 9 1 (.slice a L1 c) L1 (strsV O) ∧ Below w.heap.size w wr ∧ B1 ≤ wr.heap.size ∧ (∀ j y, (lensOf l)[j]? = some y → wr.cell? ⟨w.heap.size, j, none⟩ = some (.string (bs y))))) (fun _ iv _ => 4 - (intOf iv).toNat)
      case atStart =>
        refine ⟨0, 0, _, _, rfl, by omega, rfl, by omega, [], rfl, List.Pairwise.nil, by simp [gWD], World.ownsRow_nil _ _ _ _, below_alloc _ _, by simp; omega, ?_⟩
        intro j y hj
        match j, hj with
        | 0, hj => simp [lensOf] at hj; subst hj; simp [go_sem]
        | 1, hj => simp [lensOf] at hj; subst hj; rw [show (49 :: l) = [49] ++ l from rfl, ← bs_append]; simp [go_sem]; rfl
        | 2, hj => simp [lensOf] at hj; subst hj; rw [← bs_append]; simp [go_sem]; rfl
        | 3, hj => simp [lensOf] at hj; subst hj; rw [show (49 :: (l ++ [49])) = [49] ++ l ++ [49] from rfl, ← bs_append, ← bs_append]; simp [go_sem]; rfl
        | j + 4, hj => simp [lensOf] at hj
      case round =>
        obtain ⟨i, L1, av, cv, rfl, hi4, rfl, hL1, HX⟩ := hrel
        by_cases hlt : i < 4
        · obtain ⟨x, hx1, hxm, hstep⟩ := wd_step l i hlt
          have hcx : wr.cell? ⟨w.heap.size, i, none⟩ = some (.string (bs x)) := by obtain ⟨O, h⟩ := HX.out; exact h.2.2.2.2.2.2 i x hx1
          have hh4 : w.heap.size < wr.heap.size := by obtain ⟨O, h⟩ := HX.out; have := h.2.2.2.2.2.1; omega
          obtain ⟨hxo, hx1l, hx30⟩ := HLX.out x hxm
          have hcmp := bs_ne (a := cutL x) (b := l)
          have hqq : ∀ (f : Int) (W : World), (f = 1 ∨ f = 2) → Calls Tryz.prog 43 #[.string (bs x), .int .i64 f, .int .i64 (3 - f)] W fun e w' => e = .returned (.tuple #[.string (bs (wF x f)), .bool true]) ∧ Below W.heap.size W w' := by
            intro f W hf
            have := specWordOfLengths_any (bs x) f (3 - f) W (by rw [bs_size]; unfold maxLen; omega)
            rw [bs_list, wF_lo hxo hx1l hx30 hf] at this
            exact this
          have hdd : ∀ (f : Int) (W : World), (f = 1 ∨ f = 2) → Calls Tryz.prog 35 #[.string (bs (wF x f))] W fun e w' => e = .returned (.tuple #[.string (bs (cutL x)), .bool true]) ∧ Below W.heap.size W w' := by
            intro f W hf
            have hlw := (wF_low hxo hx30 hf).1
            obtain ⟨p1, p2, _⟩ := low_parts (s := bs (wF x f)) (by rw [bs_list]; exact hlw)
            have := ruDerived_any (bs (wF x f)) W p1 p2
            rw [bs_list, wF_der hxo hf] at this
            exact this
          have hyl : ∀ f : Int, (f = 1 ∨ f = 2) → (bs (wF x f)).size ≤ 60 := fun f hf => by
            have hlw := (wF_low hxo hx30 hf).1
            obtain ⟨p1, p2, _⟩ := low_parts (s := bs (wF x f)) (by rw [bs_list]; exact hlw)
            exact p1
          have HQQ := Lib.hid hqq; have HDD := Lib.hid hdd; have HYL := Lib.hid hyl; have HSTEP : Hid (gWD l (i + 1) = gWD l i ++ twoF l x) := hstep
          have hbx : (bs x).size ≤ 30 := by rw [bs_size]; exact hx30
          have HX1 := Lib.hid hx1
          clear hqq hdd hyl hstep hxo hx1l hx30 hxm hx1
          go_wp2_with fail
          rw [show decide ((i : Int) < 4) = true from decide_eq_true (by omega)]
          go_loopw [4, 7] (fun v fv wi => ∃ (t L3 : Nat) (a3 : Option Addr) (c3 : Nat), fv = .int .i64 ((t : Int) + 1) ∧ t ≤ 2 ∧ v = .slice a3 L3 c3 ∧ L3 ≤ L1 + t ∧ Hid (∃ O : List (List UInt8), L3 = O.length ∧ O.Pairwise (· ≤ ·) ∧ O.Perm (gWD l i ++ (twoF l x).take t) ∧ wi.ownsRow B1 9 1 (.slice a3 L3 c3) L3 (strsV O) ∧ Below wr.heap.size wr wi)) (fun _ fv _ => 3 - (intOf fv).toNat)
          case atStart =>
            obtain ⟨O, h⟩ := HX.out
            refine ⟨0, L1, av, cv, rfl, by omega, rfl, by omega, O, h.1, h.2.1, by rw [List.take_zero, List.append_nil]; exact h.2.2.1, h.2.2.2.1, Below.refl _ _⟩
          case round =>
            rename World => wi
            obtain ⟨t, L3, a3, c3, rfl, ht2, rfl, hL3, HI⟩ := hrel
            by_cases htt : t < 2
            · have hf : ((t : Int) + 1) = 1 ∨ ((t : Int) + 1) = 2 := by omega
              have hq := fun (W : World) => HQQ.out ((t : Int) + 1) W hf
              have hd := fun (W : World) => HDD.out ((t : Int) + 1) W hf
              have hyl := HYL.out ((t : Int) + 1) hf
              have hyt : cutL x = l → (twoF l x)[t]? = some (wF x ((t : Int) + 1)) := by
                intro hc
                unfold twoF
                rw [if_pos hc]
                have h01 : t = 0 ∨ t = 1 := by omega
                rcases h01 with h0 | h0
                · rw [h0, show (((0 : Nat) : Int) + 1) = 1 by decide]; simp only [List.getElem?_cons_zero]
                · rw [h0, show (((1 : Nat) : Int) + 1) = 2 by decide]; simp only [List.getElem?_cons_succ, List.getElem?_cons_zero]
              obtain ⟨y, hy⟩ : ∃ y, y = wF x ((t : Int) + 1) := ⟨_, rfl⟩
              rw [← hy] at hq hd hyl hyt
              have HQ := Lib.hid hq; have HD2 := Lib.hid hd; have HYT := Lib.hid hyt
              clear hq hd hyt hy hf
              by_cases hc : cutL x = l
              · have hcmp2 : ((bs (cutL x)).toList == (bs l).toList) = true := by rw [hcmp, decide_eq_true hc]
                obtain ⟨hfr, htk⟩ := wd_fresh HND.out HX1.out (HYT.out hc)
                have HFR := Lib.hid hfr; have HTK := Lib.hid htk
                clear hcmp hc hfr htk
                obtain ⟨O, hO⟩ := HI.out
                have HO2 := Lib.hid hO; clear hO
                have hyO : y ∉ O := fun h => HFR.out (HO2.out.2.2.1.mem_iff.1 h)
                have HYO := Lib.hid hyO; clear hyO
                go_wp2_with fail
                refine (HQ.out _).mono ?_
                rintro e w3 ⟨rfl, hb3⟩
                have HB3 := Lib.hid hb3; clear hb3
                go_wp2_with fail
                refine (HD2.out _).mono ?_
                rintro e w4 ⟨rfl, hb4⟩
                have HB4 := Lib.hid (below_trans HB3.out hb4); clear hb4
                go_wp2_with fail
                refine (l1HasSD_any w4 B1 L3 _ O y HYO.out HO2.out.1 (by omega) (own_below HO2.out.2.2.2.1 HB4.out)).mono ?_
                rintro e w5 ⟨rfl, hb5⟩
                have HB5 := Lib.hid (below_trans HB4.out hb5); clear hb5
                have HOW := Lib.hid (own_below HO2.out.2.2.2.1 HB5.out)
                have hB15 : B1 ≤ w5.heap.size := by
                  obtain ⟨_, h⟩ := HX.out
                  have h1 := h.2.2.2.2.2.1
                  have h2 := HO2.out.2.2.2.2.size
                  have h3 := HB5.out.size
                  omega
                have HBW5 : Hid (Below wr.heap.size wr w5) := below_trans HO2.out.2.2.2.2 HB5.out
                have hbyl : (bs y).size ≤ 60 := hyl
                clear hyl
                rcases own_open HOW.out with ⟨e0, h0, hO0⟩ | ⟨g, cap, e0, hBg, hg, hn, hcp, _, hce, hfz⟩
                · injection e0 with e1 e2 e3
                  subst e1; subst e2; subst e3
                  have hOn : O = [] := List.eq_nil_of_length_eq_zero HO2.out.1.symm
                  have HON := Lib.hid hOn; clear hOn hO0 h0
                  go_wp2_with fail
                  refine wp_loop_rounds 1 ?_
                  rw [rounds_succ]
                  go_wp2_with fail
                  refine (l1OwnSD_nil w5).mono ?_
                  rintro e w6 ⟨v6, rfl, hown6, hb6⟩
                  obtain ⟨q6, d6, rfl⟩ := own_slice hown6
                  go_wp2_with (first
                    | (refine wpList_app _ rfl (.tmp 83) (.tmp 85) 29 rfl w5.heap.size 9 i0 (.string ⟨#[]⟩) 16 Tryz.underlying29 hi hz0 hz1 hz2 rfl _ 0 [] rfl (own_below hown6 (below_alloc _ _)) ⟨w6.heap.size, 0, none⟩ 1 1 [.string (bs y)] rfl rfl (by intro j u hu; cases j with | zero => (simp at hu; subst hu; simp [go_sem, Addr.add]) | succ j => simp at hu) (by intro z hz; simp at hz; subst hz; rfl) (by unfold maxLen; omega) (by omega) (by have := hb6.size; simp; omega) ?_; intro v7 w7 hown7 hgr7 hwh7; have hb7 : Below w5.heap.size w5 w7 := (below_trans hb6 (below_alloc w6 _)).grown hgr7 (by have := hb6.size; simp; omega) (fun r e => (hown6.lt r e).1); rw [Nat.zero_add, List.nil_append] at hown7; obtain ⟨q7, d7, rfl⟩ := own_slice hown7; have hd7 : 1 ≤ d7 := (by rcases own_open hown7 with ⟨e, h, _⟩ | ⟨_, _, e, _, _, h6, _⟩ <;> first | (cases h; done) | (simp at e; omega)))
                    | (refine wpList_appD0 _ rfl (.tmp 87) (.tmp 90) 29 rfl 9 i0 Tryz.underlying29 hi q7 1 d7 rfl rfl hd7 ?_))
                  have HO7 := Lib.hid hown7; have HB7 := Lib.hid hb7
                  clear hown6 hb6 hown7 hgr7 hwh7 hb7 hd7
                  go_roundw
                  case rel =>
                    have hp := HO2.out.2.2.1
                    rw [HON.out] at hp
                    refine ⟨t + 1, 1, q7, d7, by go_num, by omega, rfl, by omega, [y], rfl, List.pairwise_singleton _ _, ?_, own_mono HO7.out hB15, below_trans HBW5.out HB7.out⟩
                    rw [HTK.out, ← List.append_assoc]
                    exact hp.append_right [y]
                  case measure => simp [intOf] <;> omega
                · injection e0 with e1 e2 e3
                  subst e1; subst e3
                  have hce2 : ∀ j (hj : j < O.length), w5.cell? ⟨g, j, none⟩ = some (.string (bs O[j])) := fun j hj => by
                    have := hce j (by rw [strsV_len]; exact hj)
                    simpa [strsV] using this
                  have HCE := Lib.hid hce2; clear hce hce2 hfz
                  unfold maxLen at hcp
                  go_wp2_with fail
                  go_loop [12] (fun kv => ∃ k : Nat, kv = .int .i64 (k : Int) ∧ k ≤ L3 ∧ Hid (∀ j (hj : j < O.length), j < k → O[j] < y)) (fun kv => L3 - (intOf kv).toNat)
                  case atStart => exact ⟨0, rfl, Nat.zero_le _, fun j hj hk => by omega⟩
                  case round =>
                    obtain ⟨k, rfl, hkL, HK⟩ := hrel
                    by_cases hk : k < L3
                    · have hkO : k < O.length := by rw [← HO2.out.1]; exact hk
                      have hcz := HCE.out k hkO
                      obtain ⟨z, hz⟩ : ∃ z, z = O[k] := ⟨_, rfl⟩
                      rw [← hz] at hcz
                      have hcmpz := cmpD z y
                      by_cases hzy : z < y
                      · have hcmp3 : Op.bytesLess (bs z).toList (bs y).toList = true := by rw [hcmpz]; exact decide_eq_true hzy
                        have hnew : Hid (∀ j (hj : j < O.length), j < k + 1 → O[j] < y) := fun j hj hkj => by
                          by_cases e : j = k
                          · subst e; rw [← hz]; exact hzy
                          · exact HK.out j hj (by omega)
                        clear hcmpz hzy hz hkO
                        go_wp2_with fail
                        go_round
                        case rel => exact ⟨k + 1, by go_num, by omega, hnew.out⟩
                        case measure => simp [intOf] <;> omega
                      · have hcmp3 : Op.bytesLess (bs z).toList (bs y).toList = false := by rw [hcmpz]; exact decide_eq_false hzy
                        have hins := insD O y k (by omega) HO2.out.2.1 HK.out (fun h => by rw [← hz]; exact hzy)
                        have HINS := Lib.hid hins
                        clear hcmpz hzy hz hkO hins
                        obtain ⟨e, rfl⟩ : ∃ e, c3 = k + (e + 1) := ⟨c3 - k - 1, by omega⟩
                        have hb0 : (0 : Int) ≤ (k : Int) := by omega
                        have hbc : (k : Int) ≤ ((k + (e + 1) : Nat) : Int) := by omega
                        have hbi : (k : Int) ≤ (L3 : Int) := by omega
                        have hadd : (⟨g, 0, none⟩ : Addr).add k = ⟨g, k, none⟩ := by rw [add_plainD, Nat.zero_add]
                        have hsub : ((L3 : Int) - (k : Int)).toNat = L3 - k := by omega
                        have hlA : (O.take k).length = k := by rw [List.length_take]; have := HO2.out.1; omega
                        have hcA : ∀ j (hj : j < (O.take k).length), w5.cell? ⟨g, j, none⟩ = some (.string (bs (O.take k)[j])) := fun j hj => by
                          rw [List.length_take] at hj
                          rw [HCE.out j (by omega), List.getElem_take]
                        have hnB : ∀ (W : World), Below w5.heap.size w5 W → ∀ j u, (strsV (O.drop k))[j]? = some u → W.cell? ((⟨g, k, none⟩ : Addr).add j) = some u := by
                          intro W hbW j u hj
                          rw [add_plainD]
                          obtain ⟨hjl, e⟩ := List.getElem?_eq_some_iff.1 hj
                          have hjl' : k + j < O.length := by simp [strsV] at hjl; omega
                          rw [hbW.cell (p := ⟨g, k + j, none⟩) hg, HCE.out (k + j) hjl', ← e]
                          simp [strsV]
                        have hlB : (strsV (O.drop k)).length = L3 - k := by simp [strsV]; have := HO2.out.1; omega
                        have hcat : strsV (O.take k) ++ [.string (bs y)] ++ strsV (O.drop k) = strsV (O.take k ++ y :: O.drop k) := by simp [strsV]
                        have HLA := Lib.hid hlA; have HCA := Lib.hid hcA; have HNB := Lib.hid hnB; have HLB := Lib.hid hlB; have HCAT := Lib.hid hcat
                        clear hlA hcA hnB hlB hcat
                        go_wp2_with fail
                        refine (l1OwnSD_any w5 g k (k + (e + 1)) (O.take k) HLA.out.symm (by omega) HCA.out).mono ?_
                        rintro e0 w6 ⟨v6, rfl, hown6, hb6⟩
                        obtain ⟨q6, d6, rfl⟩ := own_slice hown6
                        go_wp2_with (first
                          | (refine wpList_app _ rfl (.tmp 83) (.tmp 85) 29 rfl w5.heap.size 9 i0 (.string ⟨#[]⟩) 16 Tryz.underlying29 hi hz0 hz1 hz2 rfl _ k _ rfl (own_below hown6 (below_alloc _ _)) ⟨w6.heap.size, 0, none⟩ 1 1 [.string (bs y)] rfl rfl (by intro j u hu; cases j with | zero => (simp at hu; subst hu; simp [go_sem, Addr.add]) | succ j => simp at hu) (by intro z hz; simp at hz; subst hz; rfl) (by unfold maxLen; omega) (by omega) (by have := hb6.size; simp; omega) ?_; intro v7 w7 hown7 hgr7 hwh7; have hb7 : Below w5.heap.size w5 w7 := (below_trans hb6 (below_alloc w6 _)).grown hgr7 (by have := hb6.size; simp; omega) (fun r e => (hown6.lt r e).1); obtain ⟨q7, d7, rfl⟩ := own_slice hown7)
                          | (refine wpList_app _ rfl (.tmp 87) (.tmp 90) 29 rfl w5.heap.size 9 i0 (.string ⟨#[]⟩) 16 Tryz.underlying29 hi hz0 hz1 hz2 rfl _ (k + 1) _ rfl hown7 ⟨g, k, none⟩ (L3 - k) (e + 1) (strsV (O.drop k)) rfl HLB.out (HNB.out _ hb7) (strsV_one _) (by unfold maxLen; omega) (by omega) (by have := hb7.size; omega) ?_; intro v8 w8 hown8 hgr8 hwh8; have hb8 : Below w5.heap.size w5 w8 := hb7.grown hgr8 (by have := hb7.size; omega) (fun r e => (hown7.lt r e).1); rw [show k + 1 + (L3 - k) = L3 + 1 from by omega, HCAT.out] at hown8; obtain ⟨q8, d8, rfl⟩ := own_slice hown8))
                        have HO8 := Lib.hid hown8; have HB8 := Lib.hid hb8
                        clear hown6 hb6 hown7 hgr7 hwh7 hb7 hown8 hgr8 hwh8 hb8
                        go_roundw
                        case rel =>
                          refine ⟨t + 1, L3 + 1, q8, d8, by go_num, by omega, rfl, by omega, O.take k ++ y :: O.drop k, ?_, HINS.out.1, ?_, own_mono HO8.out hB15, below_trans HBW5.out HB8.out⟩
                          · have := HINS.out.2.length_eq; rw [this]; simp; exact HO2.out.1
                          · rw [HTK.out, ← List.append_assoc]
                            exact HINS.out.2.trans (HO2.out.2.2.1.append_right [y])
                        case measure => simp [intOf] <;> omega
                    · obtain rfl : k = L3 := by omega
                      have hins := insD O y k (by have := HO2.out.1; omega) HO2.out.2.1 HK.out (fun h => by have := HO2.out.1; omega)
                      have HINS := Lib.hid hins
                      clear hins
                      by_cases hck : c3 = k
                      · obtain rfl : k = c3 := hck.symm
                        have hb0 : (0 : Int) ≤ (k : Int) := by omega
                        have hadd : (⟨g, 0, none⟩ : Addr).add k = ⟨g, k, none⟩ := by rw [add_plainD, Nat.zero_add]
                        have hsub : ((k : Int) - (k : Int)).toNat = 0 := by omega
                        have hlA : (O.take k).length = k := by rw [List.length_take]; have := HO2.out.1; omega
                        have hcA : ∀ j (hj : j < (O.take k).length), w5.cell? ⟨g, j, none⟩ = some (.string (bs (O.take k)[j])) := fun j hj => by
                          rw [List.length_take] at hj
                          rw [HCE.out j (by omega), List.getElem_take]
                        have hnB : ∀ (W : World), Below w5.heap.size w5 W → ∀ j u, (strsV (O.drop k))[j]? = some u → W.cell? ((⟨g, k, none⟩ : Addr).add j) = some u := by
                          intro W hbW j u hj
                          rw [add_plainD]
                          obtain ⟨hjl, e⟩ := List.getElem?_eq_some_iff.1 hj
                          have hjl' : k + j < O.length := by simp [strsV] at hjl; omega
                          rw [hbW.cell (p := ⟨g, k + j, none⟩) hg, HCE.out (k + j) hjl', ← e]
                          simp [strsV]
                        have hlB : (strsV (O.drop k)).length = k - k := by simp [strsV]; have := HO2.out.1; omega
                        have hcat : strsV (O.take k) ++ [.string (bs y)] ++ strsV (O.drop k) = strsV (O.take k ++ y :: O.drop k) := by simp [strsV]
                        have HLA := Lib.hid hlA; have HCA := Lib.hid hcA; have HNB := Lib.hid hnB; have HLB := Lib.hid hlB; have HCAT := Lib.hid hcat
                        clear hlA hcA hnB hlB hcat
                        go_wp2_with fail
                        refine (l1OwnSD_any w5 g k k (O.take k) HLA.out.symm (by omega) HCA.out).mono ?_
                        rintro e0 w6 ⟨v6, rfl, hown6, hb6⟩
                        obtain ⟨q6, d6, rfl⟩ := own_slice hown6
                        go_wp2_with (first
                          | (refine wpList_app _ rfl (.tmp 83) (.tmp 85) 29 rfl w5.heap.size 9 i0 (.string ⟨#[]⟩) 16 Tryz.underlying29 hi hz0 hz1 hz2 rfl _ k _ rfl (own_below hown6 (below_alloc _ _)) ⟨w6.heap.size, 0, none⟩ 1 1 [.string (bs y)] rfl rfl (by intro j u hu; cases j with | zero => (simp at hu; subst hu; simp [go_sem, Addr.add]) | succ j => simp at hu) (by intro z hz; simp at hz; subst hz; rfl) (by unfold maxLen; omega) (by omega) (by have := hb6.size; simp; omega) ?_; intro v7 w7 hown7 hgr7 hwh7; have hb7 : Below w5.heap.size w5 w7 := (below_trans hb6 (below_alloc w6 _)).grown hgr7 (by have := hb6.size; simp; omega) (fun r e => (hown6.lt r e).1); obtain ⟨q7, d7, rfl⟩ := own_slice hown7)
                          | (refine wpList_app _ rfl (.tmp 87) (.tmp 90) 29 rfl w5.heap.size 9 i0 (.string ⟨#[]⟩) 16 Tryz.underlying29 hi hz0 hz1 hz2 rfl _ (k + 1) _ rfl hown7 ⟨g, 0, none⟩ 0 0 (strsV (O.drop k)) rfl (by rw [HLB.out]; omega) (fun j u hj => by have h0 := HLB.out; rw [Nat.sub_self] at h0; rw [List.eq_nil_of_length_eq_zero h0] at hj; simp at hj) (strsV_one _) (by unfold maxLen; omega) (by omega) (by have := hb7.size; omega) ?_; intro v8 w8 hown8 hgr8 hwh8; have hb8 : Below w5.heap.size w5 w8 := hb7.grown hgr8 (by have := hb7.size; omega) (fun r e => (hown7.lt r e).1); rw [Nat.add_zero, HCAT.out] at hown8; obtain ⟨q8, d8, rfl⟩ := own_slice hown8))
                        have HO8 := Lib.hid hown8; have HB8 := Lib.hid hb8
                        clear hown6 hb6 hown7 hgr7 hwh7 hb7 hown8 hgr8 hwh8 hb8
                        go_roundw
                        case rel =>
                          refine ⟨t + 1, k + 1, q8, d8, by go_num, by omega, rfl, by omega, O.take k ++ y :: O.drop k, ?_, HINS.out.1, ?_, own_mono HO8.out hB15, below_trans HBW5.out HB8.out⟩
                          · have := HINS.out.2.length_eq; rw [this]; simp; exact HO2.out.1
                          · rw [HTK.out, ← List.append_assoc]
                            exact HINS.out.2.trans (HO2.out.2.2.1.append_right [y])
                        case measure => simp [intOf] <;> omega
                      · obtain ⟨e, rfl⟩ : ∃ e, c3 = k + (e + 1) := ⟨c3 - k - 1, by omega⟩
                        clear hck
                        have hb0 : (0 : Int) ≤ (k : Int) := by omega
                        have hbc : (k : Int) ≤ ((k + (e + 1) : Nat) : Int) := by omega
                        have hadd : (⟨g, 0, none⟩ : Addr).add k = ⟨g, k, none⟩ := by rw [add_plainD, Nat.zero_add]
                        have hsub : ((k : Int) - (k : Int)).toNat = 0 := by omega
                        have hlA : (O.take k).length = k := by rw [List.length_take]; have := HO2.out.1; omega
                        have hcA : ∀ j (hj : j < (O.take k).length), w5.cell? ⟨g, j, none⟩ = some (.string (bs (O.take k)[j])) := fun j hj => by
                          rw [List.length_take] at hj
                          rw [HCE.out j (by omega), List.getElem_take]
                        have hnB : ∀ (W : World), Below w5.heap.size w5 W → ∀ j u, (strsV (O.drop k))[j]? = some u → W.cell? ((⟨g, k, none⟩ : Addr).add j) = some u := by
                          intro W hbW j u hj
                          rw [add_plainD]
                          obtain ⟨hjl, e⟩ := List.getElem?_eq_some_iff.1 hj
                          have hjl' : k + j < O.length := by simp [strsV] at hjl; omega
                          rw [hbW.cell (p := ⟨g, k + j, none⟩) hg, HCE.out (k + j) hjl', ← e]
                          simp [strsV]
                        have hlB : (strsV (O.drop k)).length = k - k := by simp [strsV]; have := HO2.out.1; omega
                        have hcat : strsV (O.take k) ++ [.string (bs y)] ++ strsV (O.drop k) = strsV (O.take k ++ y :: O.drop k) := by simp [strsV]
                        have HLA := Lib.hid hlA; have HCA := Lib.hid hcA; have HNB := Lib.hid hnB; have HLB := Lib.hid hlB; have HCAT := Lib.hid hcat
                        clear hlA hcA hnB hlB hcat
                        go_wp2_with fail
                        refine (l1OwnSD_any w5 g k (k + (e + 1)) (O.take k) HLA.out.symm (by omega) HCA.out).mono ?_
                        rintro e0 w6 ⟨v6, rfl, hown6, hb6⟩
                        obtain ⟨q6, d6, rfl⟩ := own_slice hown6
                        go_wp2_with (first
                          | (refine wpList_app _ rfl (.tmp 83) (.tmp 85) 29 rfl w5.heap.size 9 i0 (.string ⟨#[]⟩) 16 Tryz.underlying29 hi hz0 hz1 hz2 rfl _ k _ rfl (own_below hown6 (below_alloc _ _)) ⟨w6.heap.size, 0, none⟩ 1 1 [.string (bs y)] rfl rfl (by intro j u hu; cases j with | zero => (simp at hu; subst hu; simp [go_sem, Addr.add]) | succ j => simp at hu) (by intro z hz; simp at hz; subst hz; rfl) (by unfold maxLen; omega) (by omega) (by have := hb6.size; simp; omega) ?_; intro v7 w7 hown7 hgr7 hwh7; have hb7 : Below w5.heap.size w5 w7 := (below_trans hb6 (below_alloc w6 _)).grown hgr7 (by have := hb6.size; simp; omega) (fun r e => (hown6.lt r e).1); obtain ⟨q7, d7, rfl⟩ := own_slice hown7)
                          | (refine wpList_app _ rfl (.tmp 87) (.tmp 90) 29 rfl w5.heap.size 9 i0 (.string ⟨#[]⟩) 16 Tryz.underlying29 hi hz0 hz1 hz2 rfl _ (k + 1) _ rfl hown7 ⟨g, k, none⟩ 0 (e + 1) (strsV (O.drop k)) rfl (by rw [HLB.out]; omega) (HNB.out _ hb7) (strsV_one _) (by unfold maxLen; omega) (by omega) (by have := hb7.size; omega) ?_; intro v8 w8 hown8 hgr8 hwh8; have hb8 : Below w5.heap.size w5 w8 := hb7.grown hgr8 (by have := hb7.size; omega) (fun r e => (hown7.lt r e).1); rw [Nat.add_zero, HCAT.out] at hown8; obtain ⟨q8, d8, rfl⟩ := own_slice hown8))
                        have HO8 := Lib.hid hown8; have HB8 := Lib.hid hb8
                        clear hown6 hb6 hown7 hgr7 hwh7 hb7 hown8 hgr8 hwh8 hb8
                        go_roundw
                        case rel =>
                          refine ⟨t + 1, k + 1, q8, d8, by go_num, by omega, rfl, by omega, O.take k ++ y :: O.drop k, ?_, HINS.out.1, ?_, own_mono HO8.out hB15, below_trans HBW5.out HB8.out⟩
                          · have := HINS.out.2.length_eq; rw [this]; simp; exact HO2.out.1
                          · rw [HTK.out, ← List.append_assoc]
                            exact HINS.out.2.trans (HO2.out.2.2.1.append_right [y])
                        case measure => simp [intOf] <;> omega
              · have hcmp2 : ((bs (cutL x)).toList == (bs l).toList) = false := by rw [hcmp, decide_eq_false hc]
                have htw : twoF l x = [] := by unfold twoF; rw [if_neg hc]
                have HTW := Lib.hid htw
                clear hcmp hc htw
                go_wp2_with fail
                refine (HQ.out _).mono ?_
                rintro e w3 ⟨rfl, hb3⟩
                have HB3 := Lib.hid hb3; clear hb3
                go_wp2_with fail
                refine (HD2.out _).mono ?_
                rintro e w4 ⟨rfl, hb4⟩
                have HB4 := Lib.hid (below_trans HB3.out hb4); clear hb4
                go_wp2_with fail
                go_roundw
                case rel =>
                  obtain ⟨O, h⟩ := HI.out
                  refine ⟨t + 1, L3, a3, c3, by go_num, by omega, rfl, by omega, O, h.1, h.2.1, ?_, own_below h.2.2.2.1 HB4.out, below_trans h.2.2.2.2 HB4.out⟩
                  have hp := h.2.2.1
                  rw [HTW.out, List.take_nil] at hp ⊢
                  exact hp
                case measure => simp [intOf] <;> omega
            · obtain rfl : t = 2 := by omega
              have htw2 : (twoF l x).take 2 = twoF l x := List.take_of_length_le (by unfold twoF; split <;> simp)
              have HT2 := Lib.hid htw2; clear htw2
              go_wp2_with fail
              go_roundw
              case rel =>
                obtain ⟨O, h⟩ := HI.out
                obtain ⟨O', h'⟩ := HX.out
                refine ⟨i + 1, L3, a3, c3, by go_num, by omega, rfl, by omega, O, h.1, h.2.1, ?_, h.2.2.2.1, below_trans h'.2.2.2.2.1 h.2.2.2.2, Nat.le_trans h'.2.2.2.2.2.1 h.2.2.2.2.size, fun j y hj => (h.2.2.2.2.cell (p := ⟨w.heap.size, j, none⟩) hh4).trans (h'.2.2.2.2.2.2 j y hj)⟩
                have hp := h.2.2.1
                rw [HT2.out, ← HSTEP.out] at hp
                exact hp
              case measure => simp [intOf] <;> omega
        · obtain rfl : i = 4 := by omega
          go_wp2_with fail
          go_ret2
          obtain ⟨O, h⟩ := HX.out
          have hall : gWD l 4 = wdL l := rfl
          have hp := h.2.2.1
          rw [hall] at hp
          have hsd := sortedD hp h.2.1
          refine ⟨_, by rw [HO.out]; rfl, ?_, h.2.2.2.2.1⟩
          rw [HO.out, Option.getD_some, ← hsd, ← h.1]
          exact own_mono h.2.2.2.1 (by omega)
    · have hd : decide ((1 : Int) ≤ (L : Int) ∧ (L : Int) ≤ 25) = false := decide_eq_false (by omega)
      have ho : wdO l = none := by unfold wdO; rw [if_neg (fun h => h2 (by omega))]
      have HO := Lib.hid ho; have HD := Lib.hid hd
      clear ho hd h2 hL h1
      go_enter Tryz.func14, Tryz.ntmps14
      go_wp2_with fail
      refine HLO.out.mono ?_
      rintro e w1 ⟨rfl, rfl⟩
      go_wp2_with fail
      refine (l1In_is false _ _ _ _ HD.out).mono ?_
      rintro e w2 ⟨rfl, rfl⟩
      go_wp2_with fail
      go_ret2
      exact ⟨_, by rw [HO.out]; rfl, by rw [HO.out]; exact World.ownsRow_nil _ _ _ _, Below.refl _ _⟩
end Go.Proofs.YtkjmocdhhndlgaaGreatDoor
