/- Chapter 9: the model's OpenPlace, OpenSaid, FillGap; the laws of the three. -/
import Derived.Test.YtplcdofpikdigaaDoorq8
namespace Go.Proofs.YtplcdofpikdigaaDoor
open Go.RowKit Go.BigFrame Go.Deep
set_option linter.unusedSimpArgs false
set_option linter.unusedVariables false
set_option maxRecDepth 4000

set_option maxHeartbeats 4000000 in
theorem specOpenPlace_any (W S : List UInt8) (D at' : Int) (w : World) (hW : W.length ≤ 1048576) (hS : S.length ≤ 1048576) :
    Calls Tryd.prog 41 #[pzV W S D, .int .i64 at'] w fun e w' => e = .returned (.tuple #[pzV (rWOpenPlace W S D at') (rSOpenPlace W S D at') (rDOpenPlace W S D at'), .bool (rBOpenPlace W S D at')]) ∧ Below w.heap.size w w' := by
  show Calls Tryd.prog 41 #[pzV W S D, .int .i64 at'] w fun e w' => e = .returned (.tuple #[pzIf (rBOpenPlace W S D at') (W.set at'.toNat 46) S D, .bool (rBOpenPlace W S D at')]) ∧ Below w.heap.size w w'
  have hG := fun (W0 : World) => pzGood_any W S D W0 (by unfold maxLen; omega) (by unfold maxLen; omega)
  obtain ⟨G, hGG⟩ : ∃ G, G = rBOpenPlace W S D at' := ⟨_, rfl⟩
  rw [← hGG]
  unfold rBOpenPlace layB at hGG
  obtain ⟨v1, hv1⟩ : ∃ b, b = pzB W S D := ⟨_, rfl⟩
  rw [← hv1] at hGG; simp only [← hv1] at hG
  have hD4 : v1 = true → D ≤ 4 := fun h => (pzS_parts (pzB_parts (hv1.symm.trans h)).1).2.1
  clear hv1
  obtain ⟨n, hn⟩ : ∃ n, n = W.length := ⟨_, rfl⟩
  have hnn : n ≤ 1048576 := by omega
  unfold pzV at hG ⊢
  cases v1 with
  | false =>
    obtain rfl : G = false := by rw [hGG]; simp
    rw [pzIf_false]
    generalize bs W = t at *
    generalize bs S = u at *
    have HG := Lib.hid hG
    have HT := Lib.hid (twoP_new w (.string t) (.string u) (.int .i64 D))
    clear hG hGG hD4 hW hS hn
    go_enter Tryd.func41, Tryd.ntmps41
    go_wp2_with fail
    refine (HG.out _).mono ?_
    rintro e w1 ⟨rfl, hb⟩
    have ht := HT.out.later hb
    obtain ⟨c0, c1, c2, f0, f1, f2⟩ := ht.res.cells
    have HB := Lib.hid ht.below
    clear hb ht
    go_wp2_with fail
    refine bodyPost_ret (v := .tuple #[.agg #[.string ⟨#[]⟩, .string ⟨#[]⟩, .int .i64 0], .bool false]) ?_ rfl ⟨rfl, three_below HB.out (by omega) _ _ _⟩
    simp [results, Tryd.results41, go_sem, c0, c1, c2]
  | true =>
    have hD := hD4 rfl
    obtain ⟨v2, hv2⟩ : ∃ b, b = decide ((0 : Int) ≤ at' ∧ at' ≤ (W.length : Int) - 1) := ⟨_, rfl⟩
    have HI := Lib.hid (fun (W0 : World) => l1In_is v2 at' 0 ((n : Int) - 1) W0 (by rw [hv2, hn]))
    rw [← hv2] at hGG
    have hsz : (bs W).size = n := by rw [bs_size, hn]
    cases v2 with
    | false =>
      obtain rfl : G = false := by rw [hGG]; simp
      rw [pzIf_false]
      generalize bs W = t at *
      generalize bs S = u at *
      have HG := Lib.hid hG
      have HT := Lib.hid (twoP_new w (.string t) (.string u) (.int .i64 D))
      clear hG hGG hD4 hW hS hn hv2
      go_enter Tryd.func41, Tryd.ntmps41
      go_wp2_with fail
      refine (HG.out _).mono ?_
      rintro e w1 ⟨rfl, hb⟩
      have ht := HT.out.later hb
      obtain ⟨d0, d1, d2, _, _, _⟩ := ht.arg.cells
      obtain ⟨c0, c1, c2, f0, f1, f2⟩ := ht.res.cells
      have HB := Lib.hid ht.below
      clear hb ht
      go_wp2_with fail
      refine (HI.out _).mono ?_
      rintro e w2 ⟨rfl, rfl⟩
      go_wp2_with fail
      refine bodyPost_ret (v := .tuple #[.agg #[.string ⟨#[]⟩, .string ⟨#[]⟩, .int .i64 0], .bool false]) ?_ rfl ⟨rfl, three_below HB.out (by omega) _ _ _⟩
      simp [results, Tryd.results41, go_sem, c0, c1, c2]
    | true =>
      have h1 : (0 : Int) ≤ at' ∧ at' ≤ (W.length : Int) - 1 := of_decide_eq_true hv2.symm
      obtain ⟨k, rfl⟩ := Int.eq_ofNat_of_zero_le h1.1
      have hk : k < W.length := by omega
      rw [Int.toNat_natCast] at hGG ⊢
      have hkn : k < n := by omega
      have hP := fun (W0 : World) => pzPut_any W k 46 W0 hk (by omega)
      rw [show bs [46] = ⟨#[46]⟩ from rfl] at hP
      obtain ⟨t, ht⟩ : ∃ t, t = bs W := ⟨_, rfl⟩
      obtain ⟨u, hu⟩ : ∃ u, u = bs S := ⟨_, rfl⟩
      have hk' : k < t.size := by rw [ht, bs_size]; exact hk
      have hgd : W.getD k 0 = t[k] := by
        have : t[k] = W[k] := by subst t; exact getQ _ k _ _
        rw [this]; simp [List.getD, hk]
      rw [hgd] at hGG
      obtain ⟨gx, hgx⟩ : ∃ gx, gx = decide (t[k].toNat = 46) := ⟨_, rfl⟩
      have hx2 : ((t[k].toNat : Int) == 46) = gx := by
        rw [hgx, Bool.eq_iff_iff]; simp; omega
      have hx3 : ((t[k].toNat : Int) != 46) = !gx := by
        rw [bne, hx2]
      rw [← hgx] at hGG
      rw [show decide ((46 : UInt8).toNat = 46) = true from rfl] at hGG
      simp only [← ht, ← hu] at hG ⊢
      simp only [← ht] at hP
      have HSZ : t.size = n := by rw [ht]; exact hsz
      revert hGG hx2 hx3
      cases gx <;> intro hGG hx2 hx3
      case true =>
        obtain rfl : G = false := by rw [hGG]; simp
        rw [pzIf_false]
        have HG := Lib.hid hG
        have HT := Lib.hid (twoP_new w (.string t) (.string u) (.int .i64 D))
        clear hG hGG hD4 hW hS hn hv2 h1 hgd hgx ht hu hsz hP
        go_enter Tryd.func41, Tryd.ntmps41
        go_wp2_with fail
        refine (HG.out _).mono ?_
        rintro e w1 ⟨rfl, hb⟩
        have ht := HT.out.later hb
        obtain ⟨d0, d1, d2, _, _, _⟩ := ht.arg.cells
        obtain ⟨c0, c1, c2, f0, f1, f2⟩ := ht.res.cells
        have HT1 := Lib.hid ht
        have HB := Lib.hid ht.below
        clear hb ht
        go_wp2_with fail
        refine (HI.out _).mono ?_
        rintro e w2 ⟨rfl, rfl⟩
        go_wp2_with fail
        refine bodyPost_ret (v := .tuple #[.agg #[.string ⟨#[]⟩, .string ⟨#[]⟩, .int .i64 0], .bool false]) ?_ rfl ⟨rfl, three_below HB.out (by omega) _ _ _⟩
        simp [results, Tryd.results41, go_sem, c0, c1, c2]
      case false =>
        obtain rfl : G = true := by rw [hGG]; rfl
        rw [show pzIf true (W.set k 46) S D = .agg #[.string (bs (W.set k 46)), .string (bs S), .int .i64 D] from rfl, ← hu]
        generalize bs (W.set k 46) = R at *
        have HG := Lib.hid hG; have HP := Lib.hid hP
        have HT := Lib.hid (twoP_new w (.string t) (.string u) (.int .i64 D))
        clear hG hGG hD4 hW hS hn hv2 h1 hgd hgx ht hu hsz hP
        go_enter Tryd.func41, Tryd.ntmps41
        go_wp2_with fail
        refine (HG.out _).mono ?_
        rintro e w1 ⟨rfl, hb⟩
        have ht := HT.out.later hb
        obtain ⟨d0, d1, d2, _, _, _⟩ := ht.arg.cells
        obtain ⟨c0, c1, c2, f0, f1, f2⟩ := ht.res.cells
        have HT1 := Lib.hid ht
        have HB := Lib.hid ht.below
        clear hb ht
        go_wp2_with fail
        refine (HI.out _).mono ?_
        rintro e w2 ⟨rfl, rfl⟩
        go_wp2_with fail
        go_region_with (go_at_call 62; refine (HP.out _).mono ?_; rintro e w5 ⟨rfl, m5, hm5⟩; have hb5 := hm5 ▸ belowN w1.drew.heap.size w1.drew m5; have ht5 := HT1.out.drew.later hb5; obtain ⟨j0, j1, j2, _, _, _⟩ := ht5.arg.cells; obtain ⟨k0, k1, k2, _, _, _⟩ := ht5.res.cells; have HB5 := Lib.hid ht5.below; clear hb5 ht5 hm5)
        all_goals
          go_wp2_with fail
          refine bodyPost_ret (v := .tuple #[.agg #[.string R, .string u, .int .i64 D], .bool true]) ?_ rfl ⟨rfl, three_below HB5.out (by omega) _ _ _⟩
          simp [results, Tryd.results41, go_sem, k0, k1, k2]
end Go.Proofs.YtplcdofpikdigaaDoor
