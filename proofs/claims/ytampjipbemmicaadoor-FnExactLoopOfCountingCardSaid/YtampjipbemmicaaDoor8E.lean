/- Chapter 7: the law of LoopOfCounting. -/
import Derived.Test.YtampjipbemmicaaDoor8D
import Derived.Test.YtampjipbemmicaaDoor7H
import Derived.Deep.RegionWith
import Derived.Deep.RegionHeld3
namespace Go.Proofs.YtampjipbemmicaaDoor
open Go.RowKit Go.BigFrame Go.Deep
set_option linter.unusedSimpArgs false
set_option linter.unusedVariables false
set_option maxRecDepth 4000


set_option maxHeartbeats 4000000 in
theorem law_LoopOfCounting (u : Value) (ns : List (List UInt8)) (fr : List UInt8) (v : Value) (xs : List Int) (w : World) (h : ArgS w u ns) (hf : fr.length ≤ 9223372036854775807) (ha : ArgL w v xs) :
    Calls Tryd.prog 10 #[.agg #[u, .string (bs fr)], v] w fun e w' => e = .returned (.bool true) ∧ Below w.heap.size w w' := by
  obtain ⟨M, hM⟩ : ∃ M, M = xs.length := ⟨_, rfl⟩
  have hsz := fun (W : World) (hb : Below w.heap.size w W) => szLanguage_any W u ns fr 1048576 (argS_below h hb) hf (Nat.le_refl _)
  by_cases hx : M ≤ 1048576
  · by_cases hn : szLg ns fr ≤ 1048576
    · obtain ⟨m, hm⟩ : ∃ m : Nat, m = 1048576 - szLg ns fr := ⟨_, rfl⟩
      simp only [if_pos hn, ← hm] at hsz
      have HSZ := Lib.hid hsz
      have hN : ns.length ≤ 1048576 := by unfold szLg at hn; omega
      have hT : szT ns ≤ 1048576 := by unfold szLg at hn; omega
      obtain ⟨K, hK⟩ : ∃ K : Nat, 10010 ≤ K := ⟨10010, Nat.le_refl _⟩
      have HT := Lib.hid (fun (W : World) (hb : Below w.heap.size w W) => toLanguage_any W u ns fr (argS_below h hb) hN)
      have HTI := Lib.hid (fun (W : World) (hb : Below w.heap.size w W) => toIntL_any W v xs (argL_below ha hb) (by omega))
      have HSP := Lib.hid (fun (W : World) (B B2 : Nat) (v1 v2 : Value) (hs : Strs W B v1 ns) (hi : IntsA W B2 v2 xs) => specLoopOfCounting_any W B2 v1 v2 ns fr xs K hK (strsO_argS hs hT) hf hi)
      have HIM := Lib.hid (fun (W : World) (B B2 : Nat) (v1 v2 : Value) (hs : Strs W B v1 ns) (hi : IntsA W B2 v2 xs) => implLoopOfCounting_any W B2 v1 v2 ns fr xs K hK (strsO_argS hs hT) hf hi)
      have HEQ := Lib.hid (fun (W : World) (Ba Bb : Nat) (va vb : Value) (ha : Strs W Ba va ns) (hb : Strs W Bb vb ns) => eqLanguage_same W Ba Bb va vb ns fr (strsO_of ha) (strsO_of hb))
      have HEI := Lib.hid (fun (W : World) (Ba Bb : Nat) (va vb : Value) (ha : IntsA W Ba va xs) (hb : IntsA W Bb vb xs) => eqIntA_same W Ba Bb va vb xs ha hb)
      rw [← hM] at HTI
      obtain ⟨A2, C2, hv, hC2, hCm2, _⟩ := id ha
      rw [← hM] at hv
      generalize loopO ns fr K xs = O at *
      unfold loopQV at HSP HIM
      generalize tailQ O = X at *
      generalize cycQ O = Y at *
      generalize O.isSome = Z at *
      have e1 : ((X : Int) != X) = false := by simp
      have e2 : ((Y : Int) != Y) = false := by simp
      have e3 : (Z != Z) = false := by simp
      obtain ⟨N, hNN⟩ : ∃ N, N = ns.length := ⟨_, rfl⟩
      have HN := Lib.hid hNN; have HMM := Lib.hid hM
      clear hsz hm hn hT hN h hNN ha hM
      subst hv
      go_enter Tryd.func10, Tryd.ntmps10
      go_wp2_with fail
      refine (HSZ.out _ (below_alloc _ _)).mono ?_
      rintro e w1 ⟨rfl, hb⟩
      have hx1 := (twoAt_new w u (.string (bs fr)) 24).below hb
      have HB1 := Lib.hid (below_trans (below_alloc _ _) hb)
      obtain ⟨c0, c1, _, _⟩ := hx1.cells
      have HX1 := Lib.hid hx1; clear hb hx1
      go_wp2_with fail
      refine (HT.out _ HB1.out).mono ?_
      rintro e w2 ⟨v2, rfl, hs2, hb2⟩
      have hx2 := HX1.out.below hb2
      have HB2 := Lib.hid (below_trans HB1.out hb2)
      obtain ⟨d0, d1, _, _⟩ := hx2.cells
      have HX2 := Lib.hid hx2; have HS2 := Lib.hid hs2; clear hx2 hb2 hs2 c0 c1
      go_wp2_with fail
      refine (HTI.out _ HB2.out).mono ?_
      rintro e w3 ⟨rfl, hi3, hb3, _⟩
      have hx3 := HX2.out.below hb3
      have HB3 := Lib.hid (below_trans HB2.out hb3)
      obtain ⟨c0, c1, _, _⟩ := hx3.cells
      have HX3 := Lib.hid hx3; have HS3 := Lib.hid (strs_below HS2.out hb3); have HI3 := Lib.hid hi3; clear hx3 hb3 hi3 d0 d1
      go_wp2_with fail
      refine (HSP.out _ _ _ _ _ HS3.out HI3.out).mono ?_
      rintro e w4 ⟨rfl, hb4⟩
      have hx4 := HX3.out.below hb4
      have HB4 := Lib.hid (below_trans HB3.out hb4)
      have HZ34 := Lib.hid hb4.size
      obtain ⟨d0, d1, _, _⟩ := hx4.cells
      have HX4 := Lib.hid hx4; clear hx4 hb4 c0 c1
      go_wp2_with fail
      refine (HT.out _ HB4.out).mono ?_
      rintro e w5 ⟨v5, rfl, hs5, hb5⟩
      obtain ⟨a5, cp5, rfl⟩ := strs_slice hs5 HN.out
      have HX5 := Lib.hid (HX4.out.below hb5)
      have HB5 := Lib.hid (below_trans HB4.out hb5)
      have HS5 := Lib.hid hs5
      have HZ35 := Lib.hid (Nat.le_trans HZ34.out hb5.size)
      clear hb5 hs5 d0 d1
      go_wp2_with fail
      refine (HTI.out _ (below_trans HB5.out (below_alloc _ _))).mono ?_
      rintro e w6 ⟨rfl, hi6, hb6, _⟩
      have hb56 : Below w5.heap.size w5 w6 := below_trans (below_alloc _ _) hb6
      have hy6 : TwoAt w6 w5.heap.size (.slice a5 N cp5) (.string (bs fr)) 27 := (twoAt_new w5 _ _ _).below hb6
      have HX6 := Lib.hid (HX5.out.below hb56)
      have HB6 := Lib.hid (below_trans HB5.out hb56)
      have HS6 := Lib.hid (strs_below HS5.out hb56)
      skip
      simp only [World.size_alloc] at hi6
      have HI6 := Lib.hid hi6
      have HY6 := Lib.hid hy6
      have HLT := Lib.hid (show w3.heap.size ≤ w5.heap.size from HZ35.out)
      obtain ⟨g0, g1, _, _⟩ := hy6.cells
      clear hb6 hb56 hy6 hi6
      go_wp2_with fail
      refine (HIM.out _ _ _ _ _ HS6.out HI6.out).mono ?_
      rintro e w7 ⟨rfl, hb7⟩
      have hx7 := HX6.out.below hb7
      have hy7 := HY6.out.below hb7
      have HB7 := Lib.hid (below_trans HB6.out hb7)
      have HS7 := Lib.hid (strs_below HS6.out hb7)
      have HI7 := Lib.hid (intsA_below HI6.out hb7)
      obtain ⟨c0, c1, _, _⟩ := hx7.cells
      obtain ⟨k0, k1, _, _⟩ := hy7.cells
      have HX7 := Lib.hid hx7; have HY7 := Lib.hid hy7
      clear hb7 hx7 hy7 g0 g1
      go_wp2_with fail
      go_region_with (first
        | (go_at_call 16; (with_reducible refine (HT.out _ HB7.out.drew).mono ?_); rintro e w8 ⟨v8, rfl, hs8, hb8⟩; have hy8 := HY7.out.drew.below hb8; obtain ⟨q0, q1, _, _⟩ := hy8.cells; have HS8 := Lib.hid hs8; have HB8 := Lib.hid hb8; clear hs8 hb8 hy8)
        | (go_at_call 18; (with_reducible refine (HEQ.out _ _ _ _ _ (strs_below HS7.out (below_trans (below_drew _) HB8.out)) HS8.out).mono ?_); rintro e w9 ⟨rfl, hb9⟩; have HB9 := Lib.hid hb9; clear hb9))
      all_goals
        have HB79 := Lib.hid (below_trans (below_trans (below_drew w7) HB8.out) HB9.out)
        go_wp2_with fail
        refine (HTI.out _ (below_trans HB7.out HB79.out)).mono ?_
        rintro e w10 ⟨rfl, hi10, hb10, _⟩
        have HI10 := Lib.hid hi10
        have HB710 := Lib.hid (below_trans HB79.out hb10)
        clear hi10 hb10
        go_wp2_with fail
        refine (HEI.out _ _ _ _ _ (intsA_below HI7.out HB710.out) HI10.out).mono ?_
        rintro e w11 ⟨rfl, hb11⟩
        have HB11 := Lib.hid (below_trans (below_trans HB7.out HB710.out) hb11)
        clear hb11
        go_wp2_with fail
        go_ret
        exact ⟨rfl, HB11.out⟩
    · simp only [if_neg hn] at hsz
      have HSZ := Lib.hid hsz
      obtain ⟨A2, C2, rfl, hC2, hCm2, _⟩ := ha
      rw [← hM] at hC2 ⊢
      clear hsz hM
      go_enter Tryd.func10, Tryd.ntmps10
      go_wp2_with fail
      refine (HSZ.out _ (below_alloc _ _)).mono ?_
      rintro e w1 ⟨rfl, hb⟩
      have HB := Lib.hid hb; clear hb
      go_wp2_with fail
      go_ret
      exact ⟨rfl, below_trans (below_alloc _ _) HB.out⟩
  · obtain ⟨A2, C2, rfl, hC2, hCm2, _⟩ := ha
    rw [← hM] at hC2 ⊢
    clear hsz hM
    go_enter Tryd.func10, Tryd.ntmps10
    go_wp2_with fail
    go_ret
    exact ⟨rfl, below_alloc _ _⟩
end Go.Proofs.YtampjipbemmicaaDoor
