/- Chapter 7: the law WayOfCounting. -/
import Derived.Test.YtampjipbemmicaaDoor81
import Derived.Deep.RegionWith
import Derived.Deep.RegionHeld3
namespace Go.Proofs.YtampjipbemmicaaDoor
open Go.RowKit Go.BigFrame Go.Deep
set_option linter.unusedSimpArgs false
set_option linter.unusedVariables false
set_option maxRecDepth 4000

theorem totalSS_le4 : ∀ (ws : List (List Int)), (∀ m ∈ ws, m.length ≤ 4) → totalSS ws ≤ 4 * ws.length
  | [], _ => by simp [totalSS]
  | a :: t, h => by
    have h1 := totalSS_le4 t (fun m hm => h m (by simp [hm]))
    have h2 := h a (by simp)
    have e : totalSS (a :: t) = a.length + totalSS t := by simp [totalSS]
    rw [e, List.length_cons]; omega
theorem wayO_total (ns : List (List UInt8)) (fr : List UInt8) (xs : List Int) (n : Int) : totalSS ((wayO ns fr xs n).getD []) ≤ 200 := by
  unfold wayO
  by_cases h : toldB ns fr xs = true ∧ 0 ≤ n ∧ n ≤ 30
  · rw [if_pos h]
    cases e : wayQ ns fr n.toNat xs with
    | none => simp [totalSS]
    | some ws =>
      obtain ⟨h1, h2⟩ := wayQ_mem h.1 _ _ e
      have h4 := (toldB_parts h.1).2.2.1
      have := totalSS_le4 ws (fun m hm => by have := (h2 m hm).1; omega)
      show totalSS ws ≤ 200
      omega
  · rw [if_neg h]; simp [totalSS]
/-- Rows whose blocks lie in a stretch of memory. -/
def RowsIn (v : Value) (vs : List Value) (lo hi : Nat) : Prop := Within v lo hi ∧ ∀ (i : Nat) (u : Value), vs[i]? = some u → Within u lo hi
theorem rowsIn_of {w : World} {B : Nat} {v : Value} {vs : List Value} {nss : List (List Int)} (h : IntsRA w B v vs nss) : RowsIn v vs B w.heap.size :=
  ⟨h.outer.lt, fun i u hu => by
    have hi : i < nss.length := by rw [h.len]; exact get_lt hu
    exact intsA_ltN (h.inner i u _ hu (List.getElem?_eq_getElem hi))⟩
theorem intsRA_keep {w w' : World} {B lo hi : Nat} {v : Value} {vs : List Value} {nss : List (List Int)} (h : IntsRA w B v vs nss) (hr : RowsIn v vs lo hi) (hk : ∀ k, lo ≤ k → k < hi → w'.heap[k]? = w.heap[k]?) : IntsRA w' B v vs nss :=
  ⟨own_block h.outer (fun g hg => hk g (hr.1 g hg).1 (hr.1 g hg).2), h.len, fun i u xs h1 h2 => intsA_farN (h.inner i u xs h1 h2) (fun k e => hk k (hr.2 i u h1 k e).1 (hr.2 i u h1 k e).2), h.apart, h.alone⟩
theorem range_far {v : Value} {lo hi lo2 hi2 : Nat} {w w' : World} (hv : Within v lo hi) (hd : hi ≤ lo2 ∨ hi2 ≤ lo) (hl : hi2 ≤ w.heap.size) (hk : FarK v w w') : ∀ k, lo2 ≤ k → k < hi2 → w'.heap[k]? = w.heap[k]? := by
  intro k a b
  refine hk k (fun e2 => ?_) (by omega)
  obtain ⟨c, d⟩ := hv k e2
  omega

set_option maxHeartbeats 4000000 in
theorem law_WayOfCounting (u : Value) (ns : List (List UInt8)) (fr : List UInt8) (v : Value) (xs : List Int) (n : Int) (w : World) (h : ArgS w u ns) (hf : fr.length ≤ 9223372036854775807) (ha : ArgL w v xs) :
    Calls Tryd.prog 9 #[.agg #[u, .string (bs fr)], v, .int .i64 n] w fun e w' => e = .returned (.bool true) ∧ Below w.heap.size w w' := by
  obtain ⟨M, hM⟩ : ∃ M, M = xs.length := ⟨_, rfl⟩
  have hsz := fun (W : World) (hb : Below w.heap.size w W) => szLanguage_any W u ns fr 1048576 (argS_below h hb) hf (Nat.le_refl _)
  by_cases hx : M ≤ 1048576
  · by_cases hn : szLg ns fr ≤ 1048576
    · obtain ⟨m, hm⟩ : ∃ m : Nat, m = 1048576 - szLg ns fr := ⟨_, rfl⟩
      simp only [if_pos hn, ← hm] at hsz
      have HSZ := Lib.hid hsz
      have hN : ns.length ≤ 1048576 := by unfold szLg at hn; omega
      have hT : szT ns ≤ 1048576 := by unfold szLg at hn; omega
      have HT := Lib.hid (fun (W : World) (hb : Below w.heap.size w W) => toLanguage_any W u ns fr (argS_below h hb) hN)
      have HTI := Lib.hid (fun (W : World) (hb : Below w.heap.size w W) => toIntL_any W v xs (argL_below ha hb) (by omega))
      have HSP := Lib.hid (fun (W : World) (B B2 : Nat) (v1 v2 : Value) (hs : Strs W B v1 ns) (hi : IntsA W B2 v2 xs) => specWayOfCounting_any W B2 v1 v2 ns fr xs n (strsO_argS hs hT) hf hi)
      have HIM := Lib.hid (fun (W : World) (B B2 : Nat) (v1 v2 : Value) (hs : Strs W B v1 ns) (hi : IntsA W B2 v2 xs) => implWayOfCounting_any W B2 v1 v2 ns fr xs n (strsO_argS hs hT) hf hi)
      have HEQ := Lib.hid (fun (W : World) (Ba Bb : Nat) (va vb : Value) (ha : Strs W Ba va ns) (hb : Strs W Bb vb ns) => eqLanguage_same W Ba Bb va vb ns fr (strsO_of ha) (strsO_of hb))
      have HEI := Lib.hid (fun (W : World) (Ba Bb : Nat) (va vb : Value) (ha : IntsA W Ba va xs) (hb : IntsA W Bb vb xs) => eqIntA_same W Ba Bb va vb xs ha hb)
      rw [← hM] at HTI
      obtain ⟨A2, C2, hv, hC2, hCm2, _⟩ := id ha
      rw [← hM] at hv
      obtain ⟨O, hO⟩ : ∃ O, O = wayO ns fr xs n := ⟨_, rfl⟩
      obtain ⟨ys, hys⟩ : ∃ ys, ys = O.getD [] := ⟨_, rfl⟩
      obtain ⟨y, hy⟩ : ∃ y, y = O.isSome := ⟨_, rfl⟩
      have hlen : totalSS ys ≤ 200 := by rw [hys, hO]; exact wayO_total ns fr xs n
      have HLEN := Lib.hid hlen
      unfold RowsOk at HSP HIM
      rw [← hO, ← hys, ← hy] at HSP HIM
      have e2 : (y != y) = false := by simp
      obtain ⟨k1, hk1⟩ : ∃ k1, k1 = 1 + ns.length := ⟨_, rfl⟩
      obtain ⟨k2, hk2⟩ : ∃ k2, k2 = k1 + xs.length := ⟨_, rfl⟩
      obtain ⟨tt, htt⟩ : ∃ tt, tt = 1 + totalSS ys := ⟨_, rfl⟩
      have HK1 := Lib.hid hk1; have HK2 := Lib.hid hk2; have HTT := Lib.hid htt
      have hb1 : k1 ≤ 1048577 := by omega
      have hb2 : k2 ≤ 2097153 := by omega
      have hk0 : ¬ ((k2 : Int) < 0) := by omega
      have ht0 : ¬ ((tt : Int) < 0) := by omega
      have htm : ((tt : Int) != (tt : Int)) = false := by simp
      have HBD := Lib.hid (show ns.length ≤ 1048576 ∧ xs.length ≤ 1048576 ∧ totalSS ys ≤ 200 from ⟨hN, by omega, hlen⟩)
      clear hO hys hy hlen hk1 hk2 htt hb1 hb2
      obtain ⟨N, hNN⟩ : ∃ N, N = ns.length := ⟨_, rfl⟩
      have HN := Lib.hid hNN; have HMM := Lib.hid hM
      clear hsz hm hn hT hN h hNN ha hM
      subst hv
      go_enter Tryd.func9, Tryd.ntmps9
      go_wp2_with fail
      refine (HSZ.out _ (below_alloc _ _)).mono ?_
      rintro e w1 ⟨rfl, hb⟩
      have hx1 := (twoAt_new w u (.string (bs fr)) 24).below hb
      have HB1 := Lib.hid (below_trans (below_alloc _ _) hb)
      obtain ⟨c0, c1, _, _⟩ := hx1.cells
      have HX1 := Lib.hid hx1; clear hb hx1
      go_wp2_with fail
      refine (HT.out _ HB1.out).mono ?_
      rintro e w2 ⟨v2, rfl, hs2, hb2⟩
      have hx2 := HX1.out.below hb2
      have HB2 := Lib.hid (below_trans HB1.out hb2)
      obtain ⟨d0, d1, _, _⟩ := hx2.cells
      have HX2 := Lib.hid hx2; have HS2 := Lib.hid hs2; clear hx2 hb2 hs2 c0 c1
      go_wp2_with fail
      refine (HTI.out _ HB2.out).mono ?_
      rintro e w3 ⟨rfl, hi3, hb3, _⟩
      have hx3 := HX2.out.below hb3
      have HB3 := Lib.hid (below_trans HB2.out hb3)
      obtain ⟨c0, c1, _, _⟩ := hx3.cells
      have HX3 := Lib.hid hx3; have HS3 := Lib.hid (strs_below HS2.out hb3); have HI3 := Lib.hid hi3; clear hx3 hb3 hi3 d0 d1
      go_wp2_with fail
      refine (HSP.out _ _ _ _ _ HS3.out HI3.out).mono ?_
      rintro e w4 ⟨vS, vsS, rfl, hi4, hb4⟩
      have hx4 := HX3.out.below hb4
      have HB4 := Lib.hid (below_trans HB3.out hb4)
      have HZ34 := Lib.hid hb4.size
      have HU4 : Hid (RowsIn vS vsS w3.heap.size w4.heap.size) := Lib.hid (rowsIn_of hi4)
      have HW4 := Lib.hid hi4
      obtain ⟨d0, d1, _, _⟩ := hx4.cells
      have HX4 := Lib.hid hx4; clear hx4 hb4 c0 c1 hi4
      go_wp2_with fail
      refine (HT.out _ HB4.out).mono ?_
      rintro e w5 ⟨v5, rfl, hs5, hb5⟩
      obtain ⟨a5, cp5, rfl⟩ := strs_slice hs5 HN.out
      have HX5 := Lib.hid (HX4.out.below hb5)
      have HB5 := Lib.hid (below_trans HB4.out hb5)
      have HS5 := Lib.hid hs5
      have HZ35 := Lib.hid (Nat.le_trans HZ34.out hb5.size); have HZ45 := Lib.hid hb5.size; have HU5 : Hid (Within (.slice a5 N cp5) w4.heap.size w5.heap.size) := Lib.hid (World.ownsRow.lt hs5); have HW5 := Lib.hid (intsRA_below HW4.out hb5)
      clear hb5 hs5 d0 d1
      go_wp2_with fail
      refine (HTI.out _ (below_trans HB5.out (below_alloc _ _))).mono ?_
      rintro e w6 ⟨rfl, hi6, hb6, hlt6⟩
      simp only [World.size_alloc] at hlt6
      have HLT6 := Lib.hid hlt6; clear hlt6
      have hb56 : Below w5.heap.size w5 w6 := below_trans (below_alloc _ _) hb6
      have hy6 : TwoAt w6 w5.heap.size (.slice a5 N cp5) (.string (bs fr)) 27 := (twoAt_new w5 _ _ _).below hb6
      have HX6 := Lib.hid (HX5.out.below hb56)
      have HB6 := Lib.hid (below_trans HB5.out hb56)
      have HS6 := Lib.hid (strs_below HS5.out hb56)
      have hz6 := hb6.size; simp only [World.size_alloc] at hz6; have HZ56 := Lib.hid hz6; clear hz6; have HW6 := Lib.hid (intsRA_below HW5.out hb56)
      simp only [World.size_alloc] at hi6
      have HI6 := Lib.hid hi6
      have HY6 := Lib.hid hy6
      have HLT := Lib.hid (show w3.heap.size ≤ w5.heap.size from HZ35.out)
      obtain ⟨g0, g1, _, _⟩ := hy6.cells
      clear hb6 hb56 hy6 hi6
      go_wp2_with fail
      refine (HIM.out _ _ _ _ _ HS6.out HI6.out).mono ?_
      rintro e w7 ⟨vI, vsI, rfl, hi7, hb7⟩
      have hx7 := HX6.out.below hb7
      have hy7 := HY6.out.below hb7
      have HB7 := Lib.hid (below_trans HB6.out hb7)
      have HZ67 := Lib.hid hb7.size
      have HS7 := Lib.hid (strs_below HS6.out hb7)
      have HI7 := Lib.hid (intsA_below HI6.out hb7)
      have HU7 : Hid (RowsIn vI vsI w6.heap.size w7.heap.size) := Lib.hid (rowsIn_of hi7)
      have HG7 := Lib.hid hi7
      have HW7 := Lib.hid (intsRA_below HW6.out hb7)
      obtain ⟨c0, c1, _, _⟩ := hx7.cells
      obtain ⟨k0, k1', _, _⟩ := hy7.cells
      have HX7 := Lib.hid hx7; have HY7 := Lib.hid hy7
      clear hb7 hx7 hy7 hi7 g0 g1
      go_wp2_with fail
      refine (eqIntSA_same w7 _ _ vI vS _ _ ys HG7.out HW7.out).mono ?_
      rintro e w7' ⟨rfl, hb7'⟩
      have hx7' := HX7.out.below hb7'
      have hy7' := HY7.out.below hb7'
      have HB7' := Lib.hid (below_trans HB7.out hb7')
      have HZ77 := Lib.hid hb7'.size
      have HS7' := Lib.hid (strs_below HS7.out hb7')
      have HI7' := Lib.hid (intsA_below HI7.out hb7')
      have HG7' := Lib.hid (intsRA_below HG7.out hb7')
      have HW7' := Lib.hid (intsRA_below HW7.out hb7')
      clear c0 c1 k0 k1'
      obtain ⟨c0, c1, _, _⟩ := hx7'.cells
      obtain ⟨k0, k1', _, _⟩ := hy7'.cells
      have HX7' := Lib.hid hx7'; have HY7' := Lib.hid hy7'
      clear hb7' hx7' hy7' 
      go_wp2_with fail
      go_region_with (first
        | (go_at_call 16; (with_reducible refine (HT.out _ HB7'.out.drew).mono ?_); rintro e w8 ⟨v8, rfl, hs8, hb8⟩; have hy8 := HY7'.out.drew.below hb8; obtain ⟨q0, q1, _, _⟩ := hy8.cells; have HS8 := Lib.hid hs8; have HB8 := Lib.hid hb8; clear hs8 hb8 hy8)
        | (go_at_call 18; (with_reducible refine (HEQ.out _ _ _ _ _ (strs_below HS7'.out (below_trans (below_drew _) HB8.out)) HS8.out).mono ?_); rintro e w9 ⟨rfl, hb9⟩; have HB9 := Lib.hid hb9; clear hb9))
      all_goals
        have HB79 := Lib.hid (below_trans (below_trans (below_drew w7') HB8.out) HB9.out)
        go_wp2_with fail
        refine (HTI.out _ (below_trans HB7'.out HB79.out)).mono ?_
        rintro e w10 ⟨rfl, hi10, hb10, _⟩
        have HI10 := Lib.hid hi10
        have HB710 := Lib.hid (below_trans HB79.out hb10)
        clear hi10 hb10
        go_wp2_with fail
        refine (HEI.out _ _ _ _ _ (intsA_below HI7'.out HB710.out) HI10.out).mono ?_
        rintro e w11 ⟨rfl, hb11⟩
        have hb711 := below_trans HB710.out hb11
        have HB11 := Lib.hid (below_trans HB7'.out hb711)
        have HS11 := Lib.hid (strs_below HS7'.out hb711); have HI11 := Lib.hid (intsA_below HI7'.out hb711); have HG11 := Lib.hid (intsRA_below HG7'.out hb711); have HW11 := Lib.hid (intsRA_below HW7'.out hb711)
        have hy11 := HY7'.out.below hb711
        have HX11 := Lib.hid (HX7'.out.below hb711)
        have HZ711 := Lib.hid hb711.size
        obtain ⟨r0, r1, _, _⟩ := hy11.cells
        clear hb11 hb711 hy11 c0 c1
        have HZ := Lib.hid (show w.heap.size < w4.heap.size ∧ w3.heap.size ≤ w4.heap.size ∧ w4.heap.size ≤ w5.heap.size ∧ w5.heap.size + 1 ≤ w6.heap.size ∧ w6.heap.size ≤ w7.heap.size ∧ w7.heap.size ≤ w11.heap.size from ⟨HX4.out.lt, HZ34.out, HZ45.out, HZ56.out, HZ67.out, Nat.le_trans HZ77.out HZ711.out⟩)
        have HU6 : Hid (Within (.slice (some ⟨w5.heap.size + 1, 0, none⟩) M M) w5.heap.size w6.heap.size) := Lib.hid (within_slice _ _ _ _ _ (by omega) HLT6.out)
        go_wp2_with fail
        refine (markLanguageK_any w11 w4.heap.size 1 _ ns fr HS11.out (by have := HZ.out; omega) (by have := HBD.out; omega)).mono ?_
        rintro e w12 ⟨rfl, hs12, hb12, hf12⟩
        rw [← HK1.out]
        have HI12 := Lib.hid (intsA_farN HI11.out (Within.far HU5.out HU6.out (by omega) (by have := HZ.out; omega) hf12))
        have HG12 := Lib.hid (intsRA_keep HG11.out HU7.out (range_far HU5.out (by have := HZ.out; omega) (by have := HZ.out; omega) hf12))
        have HW12 := Lib.hid (intsRA_keep HW11.out HU4.out (range_far HU5.out (by omega) (by have := HZ.out; omega) hf12))
        have HX12 := Lib.hid (HX11.out.belowB hb12 HZ.out.1)
        have HB12 := Lib.hid (HB11.out.trans (hb12.mono (by have := HZ.out; omega)))
        have HL12 := Lib.hid hb12.size
        clear hs12 hb12 hf12 r0 r1
        go_wp2_with fail
        refine (markIntA_any w12 _ k1 _ xs HI12.out (by have := HBD.out; have := HK1.out; omega)).mono ?_
        rintro e w13 ⟨rfl, _, hb13, hf13⟩
        rw [← HK2.out]
        have HG13 := Lib.hid (intsRA_keep HG12.out HU7.out (range_far HU6.out (by omega) (by have := HZ.out; have := HL12.out; omega) hf13))
        have HW13 := Lib.hid (intsRA_keep HW12.out HU4.out (range_far HU6.out (by have := HZ.out; omega) (by have := HZ.out; have := HL12.out; omega) hf13))
        have HX13 := Lib.hid (HX12.out.belowB hb13 (by have := HZ.out; omega))
        have HB13 := Lib.hid (HB12.out.trans (hb13.mono (by have := HZ.out; omega)))
        have HL13 := Lib.hid (Nat.le_trans HL12.out hb13.size)
        clear hb13 hf13
        go_wp2_with fail
        refine (eqIntSA_same w13 _ _ vI vS _ _ ys HG13.out HW13.out).mono ?_
        rintro e w14 ⟨rfl, hb14⟩
        have HG14 := Lib.hid (intsRA_below HG13.out hb14); have HW14 := Lib.hid (intsRA_below HW13.out hb14); have HX14 := Lib.hid (HX13.out.below hb14); have HB14 := Lib.hid (below_trans HB13.out hb14)
        have HL14 := Lib.hid (Nat.le_trans HL13.out hb14.size)
        clear hb14
        go_wp2_with fail
        refine (markIntSA_any w14 _ 1 vI vsI ys HG14.out (by have := HBD.out; omega)).mono ?_
        rintro e w15 ⟨rfl, hg15, hb15⟩
        rw [← HTT.out]
        have HG15 := Lib.hid hg15
        have HW15 := Lib.hid (intsRA_keep HW14.out HU4.out (fun k a b => hb15.block k (by have := HZ.out; omega)))
        have HX15 := Lib.hid (HX14.out.belowB hb15 (by have := HZ.out; omega))
        have HB15 := Lib.hid (HB14.out.trans (hb15.mono (by have := HZ.out; omega)))
        clear hg15 hb15
        go_wp2_with fail
        refine (heldIntSA_any w15 _ 1 vI vsI ys HG15.out (by have := HBD.out; omega)).mono ?_
        rintro e w16 ⟨rfl, hb16⟩
        rw [← HTT.out]
        have hx16 := HX15.out.below hb16
        have HG16 := Lib.hid (intsRA_below HG15.out hb16); have HW16 := Lib.hid (intsRA_below HW15.out hb16); have HB16 := Lib.hid (below_trans HB15.out hb16)
        obtain ⟨c0, c1, _, _⟩ := hx16.cells
        clear hb16 hx16
        go_wp2_with fail
        refine (HT.out _ HB16.out).mono ?_
        rintro e w17 ⟨v17, rfl, hs17, hb17⟩
        have HS17 := Lib.hid hs17; have HG17 := Lib.hid (intsRA_below HG16.out hb17); have HW17 := Lib.hid (intsRA_below HW16.out hb17); have HB17 := Lib.hid (below_trans HB16.out hb17)
        clear hs17 hb17 c0 c1
        go_wp2_with fail
        refine (HTI.out _ HB17.out).mono ?_
        rintro e w18 ⟨rfl, hi18, hb18, _⟩
        have HI18 := Lib.hid hi18; have HS18 := Lib.hid (strs_below HS17.out hb18); have HG18 := Lib.hid (intsRA_below HG17.out hb18); have HW18 := Lib.hid (intsRA_below HW17.out hb18); have HB18 := Lib.hid (below_trans HB17.out hb18)
        clear hi18 hb18
        go_wp2_with fail
        refine (HIM.out _ _ _ _ _ HS18.out HI18.out).mono ?_
        rintro e w19 ⟨vH, vsH, rfl, hh19, hb19⟩
        have HH19 := Lib.hid hh19; have HG19 := Lib.hid (intsRA_below HG18.out hb19); have HW19 := Lib.hid (intsRA_below HW18.out hb19); have HB19 := Lib.hid (below_trans HB18.out hb19)
        clear hh19 hb19
        go_wp2_with fail
        refine (eqIntSA_same w19 _ _ vH vS _ _ ys HH19.out HW19.out).mono ?_
        rintro e w20 ⟨rfl, hb20⟩
        have HG20 := Lib.hid (intsRA_below HG19.out hb20); have HB20 := Lib.hid (below_trans HB19.out hb20)
        clear hb20
        go_wp2_with fail
        refine (heldIntSA_any w20 _ 1 vI vsI ys HG20.out (by have := HBD.out; omega)).mono ?_
        rintro e w21 ⟨rfl, hb21⟩
        rw [← HTT.out]
        have HB21 := Lib.hid (below_trans HB20.out hb21)
        clear hb21
        go_wp2_with fail
        go_ret
        exact ⟨rfl, HB21.out⟩
    · simp only [if_neg hn] at hsz
      have HSZ := Lib.hid hsz
      obtain ⟨A2, C2, rfl, hC2, hCm2, _⟩ := ha
      rw [← hM] at hC2 ⊢
      clear hsz hM
      go_enter Tryd.func9, Tryd.ntmps9
      go_wp2_with fail
      refine (HSZ.out _ (below_alloc _ _)).mono ?_
      rintro e w1 ⟨rfl, hb⟩
      have HB := Lib.hid hb; clear hb
      go_wp2_with fail
      go_ret
      exact ⟨rfl, below_trans (below_alloc _ _) HB.out⟩
  · obtain ⟨A2, C2, rfl, hC2, hCm2, _⟩ := ha
    rw [← hM] at hC2 ⊢
    clear hsz hM
    go_enter Tryd.func9, Tryd.ntmps9
    go_wp2_with fail
    go_ret
    exact ⟨rfl, below_alloc _ _⟩
end Go.Proofs.YtampjipbemmicaaDoor
