/- Chapter 7: the law of IsLanguage. -/
import Derived.Test.YtampjipbemmicaaDoor7G
import Derived.Deep.RegionWith
import Derived.Deep.RegionHeld3
namespace Go.Proofs.YtampjipbemmicaaDoor
open Go.RowKit Go.BigFrame Go.Deep
set_option linter.unusedSimpArgs false
set_option linter.unusedVariables false
set_option maxRecDepth 4000

theorem strsO_argS {w : World} {B : Nat} {v : Value} {ls : List (List UInt8)} (h : Strs w B v ls) (hl : szT ls ≤ 1048576) : ArgS w v ls := argS_of h (fun l hm => by have := szT_mem ls l hm; omega)

/-- Two cells lie in a block. -/
def TwoAt (w : World) (g : Nat) (a b : Value) (T : TypeId) : Prop := w.heap[g]? = some (.cells #[a, b] T (0, 0))
theorem TwoAt.cells {w : World} {g : Nat} {a b : Value} {T : TypeId} (h : TwoAt w g a b T) : w.cell? ⟨g, 0, none⟩ = some a ∧ w.cell? ⟨g, 1, none⟩ = some b ∧ w.frozen? ⟨g, 0, none⟩ = false ∧ w.frozen? ⟨g, 1, none⟩ = false := two_obj h
theorem TwoAt.lt {w : World} {g : Nat} {a b : Value} {T : TypeId} (h : TwoAt w g a b T) : g < w.heap.size := (Array.getElem?_eq_some_iff.1 h).1
theorem TwoAt.below {w w' : World} {g : Nat} {a b : Value} {T : TypeId} (h : TwoAt w g a b T) (hb : Below w.heap.size w w') : TwoAt w' g a b T := (hb.block g h.lt).trans h
theorem TwoAt.drew {w : World} {g : Nat} {a b : Value} {T : TypeId} (h : TwoAt w g a b T) : TwoAt w.drew g a b T := h
theorem twoAt_new (w : World) (a b : Value) (T : TypeId) : TwoAt (w.alloc (.cells #[a, b] T)) w.heap.size a b T := heap_alloc_new w _
theorem strs_below {w w' : World} {B : Nat} {v : Value} {ls : List (List UInt8)} (h : Strs w B v ls) (hb : Below w.heap.size w w') : Strs w' B v ls := own_below h hb
theorem strs_slice {w : World} {B N : Nat} {v : Value} {ls : List (List UInt8)} (h : Strs w B v ls) (hN : N = ls.length) : ∃ a c, v = .slice a N c := by
  subst hN; exact own_slice h

set_option maxHeartbeats 2000000 in
theorem law_IsLanguage (u : Value) (ns : List (List UInt8)) (fr : List UInt8) (w : World) (h : ArgS w u ns) (hf : fr.length ≤ 9223372036854775807) :
    Calls Tryd.prog 3 #[.agg #[u, .string (bs fr)]] w fun e w' => e = .returned (.bool true) ∧ Below w.heap.size w w' := by
  have hsz := fun (W : World) (hb : Below w.heap.size w W) => szLanguage_any W u ns fr 1048576 (argS_below h hb) hf (Nat.le_refl _)
  by_cases hn : szLg ns fr ≤ 1048576
  · obtain ⟨m, hm⟩ : ∃ m : Nat, m = 1048576 - szLg ns fr := ⟨_, rfl⟩
    simp only [if_pos hn, ← hm] at hsz
    have HSZ := Lib.hid hsz
    have hN : ns.length ≤ 1048576 := by unfold szLg at hn; omega
    have hT : szT ns ≤ 1048576 := by unfold szLg at hn; omega
    have HT := Lib.hid (fun (W : World) (hb : Below w.heap.size w W) => toLanguage_any W u ns fr (argS_below h hb) hN)
    have HSP := Lib.hid (fun (W : World) (B : Nat) (v : Value) (hs : Strs W B v ns) => specIsLanguage_any W v ns fr (strsO_argS hs hT) hf)
    have HIM := Lib.hid (fun (W : World) (B : Nat) (v : Value) (hs : Strs W B v ns) => implIsLanguage_any W v ns fr (strsO_argS hs hT) hf)
    have HEQ := Lib.hid (fun (W : World) (Ba Bb : Nat) (va vb : Value) (ha : Strs W Ba va ns) (hb : Strs W Bb vb ns) => eqLanguage_same W Ba Bb va vb ns fr (strsO_of ha) (strsO_of hb))
    generalize langB ns fr = G at *
    obtain ⟨N, hNN⟩ : ∃ N, N = ns.length := ⟨_, rfl⟩
    have HN := Lib.hid hNN; clear hNN
    have e1 : (G != G) = false := by simp
    clear hsz hm hn hT hN h
    go_enter Tryd.func3, Tryd.ntmps3
    go_wp2_with fail
    refine (HSZ.out _ (below_alloc _ _)).mono ?_
    rintro e w1 ⟨rfl, hb⟩
    have hx1 := (twoAt_new w u (.string (bs fr)) 24).below hb
    have HB1 := Lib.hid (below_trans (below_alloc _ _) hb)
    obtain ⟨c0, c1, _, _⟩ := hx1.cells
    have HX1 := Lib.hid hx1; clear hb hx1
    go_wp2_with fail
    refine (HT.out _ HB1.out).mono ?_
    rintro e w2 ⟨v2, rfl, hs2, hb2⟩
    have hx2 := HX1.out.below hb2
    have HB2 := Lib.hid (below_trans HB1.out hb2)
    obtain ⟨d0, d1, _, _⟩ := hx2.cells
    have HX2 := Lib.hid hx2; have HS2 := Lib.hid hs2; clear hx2 hb2 hs2 c0 c1
    go_wp2_with fail
    refine (HSP.out _ _ _ HS2.out).mono ?_
    rintro e w3 ⟨rfl, hb3⟩
    have hx3 := HX2.out.below hb3
    have HB3 := Lib.hid (below_trans HB2.out hb3)
    obtain ⟨c0, c1, _, _⟩ := hx3.cells
    have HX3 := Lib.hid hx3; clear hx3 hb3 d0 d1
    go_wp2_with fail
    refine (HT.out _ HB3.out).mono ?_
    rintro e w4 ⟨v4, rfl, hs4, hb4⟩
    have hx4 := HX3.out.below hb4
    have HB4 := Lib.hid (below_trans HB3.out hb4)
    obtain ⟨d0, d1, _, _⟩ := hx4.cells
    obtain ⟨a4, cp4, rfl⟩ := strs_slice hs4 HN.out
    have HX4 := Lib.hid hx4; have HS4 := Lib.hid hs4; clear hx4 hb4 hs4 c0 c1
    go_wp2_with fail
    refine (HIM.out _ _ _ (strs_below HS4.out (below_alloc _ _))).mono ?_
    rintro e w6 ⟨rfl, hb6⟩
    have hb46 : Below w4.heap.size w4 w6 := below_trans (below_alloc _ _) hb6
    have hy6 : TwoAt w6 w4.heap.size (.slice a4 N cp4) (.string (bs fr)) 27 := (twoAt_new w4 _ _ _).below hb6
    have hx6 : TwoAt w6 w.heap.size u (.string (bs fr)) 24 := TwoAt.below (HX4.out) hb46
    have hs6 := strs_below HS4.out hb46
    have HB6 := Lib.hid (below_trans HB4.out hb46)
    have HX6 := Lib.hid hx6; have HY6 := Lib.hid hy6; have HS6 := Lib.hid hs6
    obtain ⟨c0, c1, _, _⟩ := hx6.cells
    obtain ⟨g0, g1, _, _⟩ := hy6.cells
    clear hb6 hb46 hx6 hy6 hs6 d0 d1
    go_wp2_with fail
    go_region_with (first
      | (go_at_call 16; (with_reducible refine (HT.out _ HB6.out.drew).mono ?_); rintro e w7 ⟨v7, rfl, hs7, hb7⟩; have hy7 := HY6.out.drew.below hb7; obtain ⟨q0, q1, _, _⟩ := hy7.cells; have HS7 := Lib.hid hs7; have HB7 := Lib.hid hb7; clear hs7 hb7 hy7)
      | (go_at_call 18; (with_reducible refine (HEQ.out _ _ _ _ _ (strs_below HS6.out (below_trans (below_drew _) HB7.out)) HS7.out).mono ?_); rintro e w8 ⟨rfl, hb8⟩; have HB8 := Lib.hid hb8; clear hb8))
    all_goals
      go_wp2_with fail
      go_ret
      exact ⟨rfl, below_trans (below_trans (below_trans HB6.out (below_drew _)) HB7.out) HB8.out⟩
  · simp only [if_neg hn] at hsz
    have HSZ := Lib.hid hsz
    clear hsz
    go_enter Tryd.func3, Tryd.ntmps3
    go_wp2_with fail
    refine (HSZ.out _ (below_alloc _ _)).mono ?_
    rintro e w1 ⟨rfl, hb⟩
    have HB := Lib.hid hb; clear hb
    go_wp2_with fail
    go_ret
    exact ⟨rfl, below_trans (below_alloc _ _) HB.out⟩
end Go.Proofs.YtampjipbemmicaaDoor
