/- Chapter 9: the law of OpenSaid. -/
import Derived.Test.Ytplcdofpikdigaaqa
namespace Go.Proofs.Ytplcdofpikdigaa
open Go.RowKit Go.BigFrame Go.Deep
set_option linter.unusedSimpArgs false
set_option linter.unusedVariables false
set_option maxRecDepth 4000

set_option maxHeartbeats 4000000 in
theorem law_OpenSaid (W S : List UInt8) (D : Int) (a0 : Int) (w : World) (hW : W.length ≤ maxLen) (hS : S.length ≤ maxLen) :
    Calls Try.prog 8 #[pzV W S D, .int .i64 a0] w fun e w' => e = .returned (.bool true) ∧ Below w.heap.size w w' := by
  have hsz := fun (W0 : World) => szPuzzle_any W0 W S D hW hS
  obtain ⟨t, ht⟩ : ∃ t, t = bs W := ⟨_, rfl⟩
  obtain ⟨u, hu⟩ : ∃ u, u = bs S := ⟨_, rfl⟩
  by_cases hn : W.length + S.length ≤ 1048576
  · obtain ⟨m, hm⟩ : ∃ m : Nat, m = 1048576 - (W.length + S.length) := ⟨_, rfl⟩
    simp only [if_pos hn, ← hm] at hsz
    have hT := fun (W0 : World) => toPuzzle_any W0 W S D
    have hSP := fun (W0 : World) => specOpenSaid_any W S D a0 W0 (by first | omega | (unfold maxLen; omega)) (by first | omega | (unfold maxLen; omega))
    have hIM := fun (W0 : World) => implOpenSaid_any W S D a0 W0 (by first | omega | (unfold maxLen; omega)) (by first | omega | (unfold maxLen; omega))
    have hEQ := fun (W0 : World) => eqPuzzle_same W0 (rWOpenSaid W S D a0) (rSOpenSaid W S D a0) (rDOpenSaid W S D a0)
    obtain ⟨x, hx⟩ : ∃ x, x = bs (rWOpenSaid W S D a0) := ⟨_, rfl⟩
    obtain ⟨y, hy⟩ : ∃ y, y = bs (rSOpenSaid W S D a0) := ⟨_, rfl⟩
    obtain ⟨z, hz⟩ : ∃ z, z = rDOpenSaid W S D a0 := ⟨_, rfl⟩
    obtain ⟨r1, hr1⟩ : ∃ r, r = rBOpenSaid W S D a0 := ⟨_, rfl⟩
    simp only [pzV, ← ht, ← hu, ← hx, ← hy, ← hz, ← hr1] at hsz hT hSP hIM hEQ ⊢
    have HSZ := Lib.hid hsz; have HT := Lib.hid hT; have HSP := Lib.hid hSP; have HIM := Lib.hid hIM; have HEQ := Lib.hid hEQ
    have e1 : (r1 != r1) = false := by simp
    clear hsz hT hSP hIM hm hn ht hu hW hS hEQ hx hy hz hr1
    go_enter Try.func8, Try.ntmps8
    go_wp2_with fail
    refine (HSZ.out _).mono ?_
    rintro e w1 ⟨rfl, hb⟩
    have hx1 := (threeAt_new w (.string t) (.string u) (.int .i64 D) 23).below hb
    have HB1 := Lib.hid (below_trans (below_alloc _ _) hb)
    obtain ⟨c0, c1, c2, _, _, _⟩ := hx1.cells
    have HX1 := Lib.hid hx1; clear hb hx1
    go_wp2_with fail
    refine (HT.out _).mono ?_
    rintro e w2 ⟨rfl, hb⟩
    have hx2 := HX1.out.below hb
    have HB2 := Lib.hid (below_trans HB1.out hb)
    obtain ⟨d0, d1, d2, _, _, _⟩ := hx2.cells
    have HX2 := Lib.hid hx2; clear hb hx2 c0 c1 c2
    go_wp2_with fail
    refine (HSP.out _).mono ?_
    rintro e w3 ⟨rfl, hb⟩
    have hx3 := HX2.out.below hb
    have HB3 := Lib.hid (below_trans HB2.out hb)
    have HA3 := Lib.hid (threeAt_new w3 (.string x) (.string y) (.int .i64 z) 26)
    obtain ⟨c0, c1, c2, _, _, _⟩ := hx3.cells
    have hlt3 := hx3.lt
    clear hb hx3 d0 d1 d2
    go_wp2_with fail
    refine (HT.out _).mono ?_
    rintro e w5 ⟨rfl, hb⟩
    have HB5 := Lib.hid (below_trans HB3.out (below_trans (below_alloc _ _) hb))
    have HS5 := Lib.hid (HA3.out.below hb)
    clear hb c0 c1 c2 hlt3
    go_wp2_with fail
    refine (HIM.out _).mono ?_
    rintro e w6 ⟨rfl, hb⟩
    have hs6 := HS5.out.below hb
    obtain ⟨d0, d1, d2, _, _, _⟩ := hs6.cells
    have hlt6 := hs6.lt
    have HB6 := Lib.hid (below_trans HB5.out hb)
    clear hb hs6
    go_wp2_with fail
    refine (HEQ.out _).mono ?_
    rintro e w8 ⟨rfl, hb⟩
    have HB8 := Lib.hid (below_trans HB6.out (below_trans (below_alloc _ _) hb))
    clear hb
    go_wp2_with fail
    go_ret
    exact ⟨rfl, HB8.out⟩
  · simp only [if_neg hn] at hsz
    simp only [pzV, ← ht, ← hu] at hsz ⊢
    have HSZ := Lib.hid hsz
    clear hsz ht hu
    go_enter Try.func8, Try.ntmps8
    go_wp2_with fail
    refine (HSZ.out _).mono ?_
    rintro e w1 ⟨rfl, hb⟩
    have HB := Lib.hid hb; clear hb
    go_wp2_with fail
    go_ret
    exact ⟨rfl, below_trans (below_alloc _ _) HB.out⟩
end Go.Proofs.Ytplcdofpikdigaa
