/- Chapter 9: Solutions on both sides; its law. -/
import Derived.Test.YtplcdofpikdigaaDoorof
import Derived.Test.YtplcdofpikdigaaDoorE3
namespace Go.Proofs.YtplcdofpikdigaaDoor
open Go.RowKit Go.BigFrame
set_option linter.unusedSimpArgs false
set_option linter.unusedVariables false
set_option maxRecDepth 4000

set_option maxHeartbeats 1000000 in
theorem specSolutions_any (W S : List UInt8) (D : Int) (w : World) (hW : W.length ≤ maxLen) (hS : S.length ≤ maxLen) :
    Calls Tryd.prog 12 #[pzV W S D] w fun e w' => SolOk (solO W S D 200) w w' e := by
  have h := fun W0 => asked_post W S D W0 hW hS
  unfold solB200 solL200 at h
  have H := Lib.hid h
  unfold SolOk
  generalize solO W S D 200 = o at *
  generalize hv : pzV W S D = v at *
  unfold pzV at hv
  subst hv
  clear h
  cases o with
  | none =>
    go_enter Tryd.func12, Tryd.ntmps12
    go_wp2_with fail
    refine (H.out _).mono ?_
    rintro e w1 ⟨a, n, c, rfl, _, hb⟩
    have HB := Lib.hid (below_trans (below_alloc _ _) hb); clear hb
    go_wp2_with fail
    go_ret2
    exact ⟨none, 0, rfl, ⟨by simp [strA], .inl ⟨rfl, rfl⟩⟩, HB.out, fun _ => ⟨rfl, rfl⟩⟩
  | some L =>
    go_enter Tryd.func12, Tryd.ntmps12
    go_wp2_with fail
    refine (H.out _).mono ?_
    rintro e w1 ⟨a, n, c, rfl, hx, hb⟩
    obtain ⟨hn, ho⟩ := hx rfl
    have HO := Lib.hid (own_mono ho (B' := w.heap.size) (by simp)); have HN := Lib.hid hn
    have HB := Lib.hid (below_trans (below_alloc _ _) hb); clear hb hx hn ho
    go_wp2_with fail
    go_ret2
    have hn := HN.out
    simp only [Option.getD_some] at hn
    subst hn
    exact ⟨a, c, rfl, HO.out, HB.out, fun h => by cases h⟩

set_option maxHeartbeats 4000000 in
theorem law_Solutions (W S : List UInt8) (D : Int) (w : World) (hW : W.length ≤ maxLen) (hS : S.length ≤ maxLen) :
    Calls Tryd.prog 3 #[pzV W S D] w fun e w' => e = .returned (.bool true) ∧ Below w.heap.size w w' := by
  have hsz := fun (W0 : World) => szPuzzle_any W0 W S D hW hS
  obtain ⟨t, ht⟩ : ∃ t, t = bs W := ⟨_, rfl⟩
  obtain ⟨u, hu⟩ : ∃ u, u = bs S := ⟨_, rfl⟩
  by_cases hn : W.length + S.length ≤ 1048576
  · obtain ⟨m, hm⟩ : ∃ m : Nat, m = 1048576 - (W.length + S.length) := ⟨_, rfl⟩
    simp only [if_pos hn, ← hm] at hsz
    have hT := fun (W0 : World) => toPuzzle_any W0 W S D
    have hSP := fun (W0 : World) => specSolutions_any W S D W0 (by first | omega | (unfold maxLen; omega)) (by first | omega | (unfold maxLen; omega))
    have hIM := fun (W0 : World) => implSolutions_any W S D W0 (by first | omega | (unfold maxLen; omega)) (by first | omega | (unfold maxLen; omega))
    have hle := solL_le W S D
    unfold solL200 at hle
    unfold SolOk at hSP hIM
    obtain ⟨y, hy⟩ : ∃ y, y = (solO W S D 200).isSome := ⟨_, rfl⟩
    obtain ⟨ns, hns⟩ : ∃ ns, ns = (solO W S D 200).getD [] := ⟨_, rfl⟩
    rw [← hns] at hle hSP hIM
    rw [← hy] at hSP hIM
    simp only [pzV, ← ht, ← hu] at hsz hT hSP hIM ⊢
    obtain ⟨N, hN⟩ : ∃ N, N = ns.length := ⟨_, rfl⟩
    rw [← hN] at hSP hIM hle
    have HSZ := Lib.hid hsz; have HT := Lib.hid hT; have HSP := Lib.hid hSP; have HIM := Lib.hid hIM; have HN := Lib.hid hN
    have e2 : (y != y) = false := by simp
    obtain ⟨tt, htt⟩ : ∃ tt, tt = 1 + N := ⟨_, rfl⟩
    have ht2 : tt ≤ 1000000 := by omega
    have ht1 : 1 ≤ tt := by omega
    have e1 : ((tt : Int) != (tt : Int)) = false := by simp
    have HTT := Lib.hid htt
    have hst : ∀ (W0 : World) (B : Nat) (a : Option Addr) (c : Nat), W0.ownsRow B 9 1 (.slice a N c) N (strA ns) → Strs W0 B (.slice a N c) ns := fun W0 B a c h => by
      unfold Strs
      rw [← HN.out]; exact h
    have HST := Lib.hid hst
    clear hsz hT hSP hIM hm hn ht hu hW hS hns hy hN htt hst
    go_enter Tryd.func3, Tryd.ntmps3
    go_wp2_with fail
    refine (HSZ.out _).mono ?_
    rintro e w1 ⟨rfl, hb⟩
    have hx1 := (threeAt_new w (.string t) (.string u) (.int .i64 D) 23).below hb
    have HB1 := Lib.hid (below_trans (below_alloc _ _) hb)
    obtain ⟨c0, c1, c2, _, _, _⟩ := hx1.cells
    have HX1 := Lib.hid hx1; clear hb hx1
    go_wp2_with fail
    refine (HT.out _).mono ?_
    rintro e w2 ⟨rfl, hb⟩
    have HX2 := Lib.hid (HX1.out.below hb)
    have HB2 := Lib.hid (below_trans HB1.out hb)
    clear hb c0 c1 c2
    go_wp2_with fail
    refine (HSP.out _).mono ?_
    rintro e w3 ⟨a0, k0, rfl, ho, hb, _⟩
    have hx3 := HX2.out.below hb
    have HB3 := Lib.hid (below_trans HB2.out hb)
    obtain ⟨c0, c1, c2, _, _, _⟩ := hx3.cells
    have HX3 := Lib.hid hx3
    have A1 := Lib.hid (HST.out _ _ _ _ ho)
    clear hb hx3 ho
    go_wp2_with fail
    refine (HT.out _).mono ?_
    rintro e w4 ⟨rfl, hb⟩
    have HX4 := Lib.hid (HX3.out.below hb)
    have HB4 := Lib.hid (below_trans HB3.out hb)
    have A1 := Lib.hid (show Strs w4 _ _ _ from own_below A1.out hb)
    clear hb c0 c1 c2
    go_wp2_with fail
    have A14 := A1
    refine (HIM.out _).mono ?_
    rintro e w5 ⟨a1, k1, rfl, ho, hb, _⟩
    have K5 := Lib.hid hb
    have A2 := Lib.hid (HST.out _ _ _ _ ho)
    clear hb ho
    go_wp2_with fail
    refine (eqStringS_same w5 _ _ _ _ ns A2.out (own_below A14.out K5.out)).mono ?_
    rintro e w6 ⟨rfl, hb⟩
    have K6 := Lib.hid (below_trans K5.out hb)
    have A2 := Lib.hid (show Strs w6 _ _ _ from own_below A2.out hb)
    clear hb
    go_wp2_with fail
    refine (markStringS_any w6 _ 1 _ ns A2.out K6.out.size (by have := HN.out; omega)).mono ?_
    rintro e w7 ⟨rfl, h4, h5⟩
    rw [← HN.out, ← HTT.out]
    rw [← HN.out] at h4
    have A4 := Lib.hid h4
    have K7 := Lib.hid (K6.out.trans h5)
    clear h4 h5
    go_wp2_with fail
    refine (heldStringS_any w7 _ 1 N _ A4.out (by omega)).mono ?_
    rintro e w8 ⟨rfl, hb⟩
    rw [← HTT.out]
    have K8 := Lib.hid (K7.out.trans (hb.mono K7.out.size))
    have A8 := Lib.hid (show Strs w8 _ _ _ from own_below A4.out hb)
    obtain ⟨c0, c1, c2, _, _, _⟩ := (HX4.out.below K8.out).cells
    clear hb
    go_wp2_with fail
    refine (HT.out _).mono ?_
    rintro e w9 ⟨rfl, hb⟩
    have K9 := Lib.hid (K8.out.trans (hb.mono K8.out.size))
    have A9 := Lib.hid (show Strs w9 _ _ _ from own_below A8.out hb)
    clear hb c0 c1 c2
    go_wp2_with fail
    refine (HIM.out _).mono ?_
    rintro e w10 ⟨a2, k2, rfl, ho, hb, _⟩
    have K10 := Lib.hid (K9.out.trans (hb.mono K9.out.size))
    have A10 := Lib.hid (show Strs w10 _ _ _ from own_below A9.out hb)
    have A6 := Lib.hid (HST.out _ _ _ _ ho)
    clear hb ho
    go_wp2_with fail
    refine (eqStringS_same w10 _ _ _ _ ns A6.out (own_below A14.out K10.out)).mono ?_
    rintro e w11 ⟨rfl, hb⟩
    have K11 := Lib.hid (K10.out.trans (hb.mono K10.out.size))
    have A11 := Lib.hid (show Strs w11 _ _ _ from own_below A10.out hb)
    clear hb
    go_wp2_with fail
    refine (heldStringS_any w11 _ 1 N _ A11.out (by omega)).mono ?_
    rintro e w12 ⟨rfl, hb⟩
    rw [← HTT.out]
    have K12 := Lib.hid (K11.out.trans (hb.mono K11.out.size))
    clear hb
    go_wp2_with fail
    go_ret
    exact ⟨rfl, below_trans HB4.out K12.out⟩
  · simp only [if_neg hn] at hsz
    simp only [pzV, ← ht, ← hu] at hsz ⊢
    have HSZ := Lib.hid hsz
    clear hsz ht hu
    go_enter Tryd.func3, Tryd.ntmps3
    go_wp2_with fail
    refine (HSZ.out _).mono ?_
    rintro e w1 ⟨rfl, hb⟩
    have HB := Lib.hid hb; clear hb
    go_wp2_with fail
    go_ret
    exact ⟨rfl, below_trans (below_alloc _ _) HB.out⟩
end Go.Proofs.YtplcdofpikdigaaDoor
