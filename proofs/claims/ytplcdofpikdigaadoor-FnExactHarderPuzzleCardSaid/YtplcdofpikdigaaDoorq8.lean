/- Chapter 9: the model's pzPut; OpenPlace, OpenSaid, FillGap (the model), the program's OpenSaid. -/
import Derived.Test.YtplcdofpikdigaaDoorq7
import Derived.Test.YtplcdofpikdigaaDoorq3
import Derived.Test.YtplcdofpikdigaaDoorA4
namespace Go.Proofs.YtplcdofpikdigaaDoor
open Go.RowKit Go.BigFrame Go.Deep
set_option linter.unusedSimpArgs false
set_option linter.unusedVariables false
set_option maxRecDepth 4000

set_option maxHeartbeats 2000000 in
theorem implOpenSaid_any (W S : List UInt8) (D : Int) (at' : Int) (w : World) (hW : W.length ≤ 1048576) (hS : S.length ≤ 1048576) :
    Calls Tryd.prog 48 #[pzV W S D, .int .i64 at'] w fun e w' => e = .returned (.tuple #[pzV (rWOpenSaid W S D at') (rSOpenSaid W S D at') (rDOpenSaid W S D at'), .bool (rBOpenSaid W S D at')]) ∧ Below w.heap.size w w' := by
  have hL := fun (W0 : World) => laySign_any S at' 46 W0 (by unfold maxLen; omega)
  have hI := fun (W0 : World) => implIsPuzzle_any W S D W0 (by unfold maxLen; omega) (by unfold maxLen; omega)
  have hC := fun (W0 : World) => cloneQ_any (bs W) W0 (by rw [bs_size]; omega)
  show Calls Tryd.prog 48 #[pzV W S D, .int .i64 at'] w fun e w' => e = .returned (.tuple #[pzIf (rBOpenSaid W S D at') W (S.set at'.toNat 46) D, .bool (rBOpenSaid W S D at')]) ∧ Below w.heap.size w w'
  unfold rBOpenSaid
  obtain ⟨b1, hb1⟩ : ∃ b, b = layB S at' 46 := ⟨_, rfl⟩
  obtain ⟨b2, hb2⟩ : ∃ b, b = pzB W S D := ⟨_, rfl⟩
  rw [← hb1, ← hb2]; simp only [← hb1] at hL; simp only [← hb2] at hI
  rw [show ((46 : UInt8).toNat : Int) = 46 from rfl] at hL
  clear hb1 hb2 hW hS
  unfold pzV at hI ⊢
  cases b1 with
  | false =>
    rw [Bool.false_and, pzIf_false]
    simp only [Bool.false_eq_true, if_false] at hL
    generalize bs W = t at *
    generalize bs S = u at *
    have HL := Lib.hid hL
    have HT := Lib.hid (twoP_new w (.string t) (.string u) (.int .i64 D))
    clear hL hI hC
    go_enter Tryd.func48, Tryd.ntmps48
    go_wp2_with fail
    refine (HL.out _).mono ?_
    rintro e w1 ⟨rfl, hb⟩
    have ht := HT.out.later hb
    obtain ⟨c0, c1, c2, f0, f1, f2⟩ := ht.res.cells
    have HB := Lib.hid ht.below
    clear hb ht
    go_wp2_with fail
    refine bodyPost_ret (v := .tuple #[.agg #[.string ⟨#[]⟩, .string ⟨#[]⟩, .int .i64 0], .bool false]) ?_ rfl ⟨rfl, three_below HB.out (by omega) _ _ _⟩
    simp [results, Tryd.results48, go_sem, c0, c1, c2]
  | true =>
    rw [Bool.true_and]
    simp only [if_true] at hL
    cases b2 with
    | false =>
      rw [pzIf_false]
      generalize bs (S.set at'.toNat 46) = R at *
      generalize bs W = t at *
      generalize bs S = u at *
      have HL := Lib.hid hL; have HI := Lib.hid hI
      have HT := Lib.hid (twoP_new w (.string t) (.string u) (.int .i64 D))
      clear hL hI hC
      go_enter Tryd.func48, Tryd.ntmps48
      go_wp2_with fail
      refine (HL.out _).mono ?_
      rintro e w1 ⟨rfl, hb⟩
      have ht := HT.out.later hb
      obtain ⟨d0, d1, d2, _, _, _⟩ := ht.arg.cells
      have HT1 := Lib.hid ht
      clear hb ht
      go_wp2_with fail
      refine (HI.out _).mono ?_
      rintro e w2 ⟨rfl, hb⟩
      have ht := HT1.out.later hb
      obtain ⟨c0, c1, c2, f0, f1, f2⟩ := ht.res.cells
      have HB := Lib.hid ht.below
      clear hb ht
      go_wp2_with fail
      refine bodyPost_ret (v := .tuple #[.agg #[.string ⟨#[]⟩, .string ⟨#[]⟩, .int .i64 0], .bool false]) ?_ rfl ⟨rfl, three_below HB.out (by omega) _ _ _⟩
      simp [results, Tryd.results48, go_sem, c0, c1, c2]
    | true =>
      rw [show pzIf true W (S.set at'.toNat 46) D = .agg #[.string (bs W), .string (bs (S.set at'.toNat 46)), .int .i64 D] from rfl]
      generalize bs (S.set at'.toNat 46) = R at *
      generalize bs W = t at *
      generalize bs S = u at *
      have HL := Lib.hid hL; have HI := Lib.hid hI; have HC := Lib.hid hC
      have HT := Lib.hid (twoP_new w (.string t) (.string u) (.int .i64 D))
      clear hL hI hC
      go_enter Tryd.func48, Tryd.ntmps48
      go_wp2_with fail
      refine (HL.out _).mono ?_
      rintro e w1 ⟨rfl, hb⟩
      have ht := HT.out.later hb
      obtain ⟨d0, d1, d2, _, _, _⟩ := ht.arg.cells
      have HT1 := Lib.hid ht
      clear hb ht
      go_wp2_with fail
      refine (HI.out _).mono ?_
      rintro e w2 ⟨rfl, hb⟩
      have ht := HT1.out.later hb
      obtain ⟨e0, e1, e2, _, _, _⟩ := ht.arg.cells
      have HT2 := Lib.hid ht
      clear hb ht d0 d1 d2
      go_wp2_with fail
      go_region_with (go_at_call 45; refine (HC.out _).mono ?_; rintro e w3 ⟨rfl, hb⟩; have ht := HT2.out.drew.later hb; obtain ⟨d0, d1, d2, _, _, _⟩ := ht.arg.cells; obtain ⟨c0, c1, c2, f0, f1, f2⟩ := ht.res.cells; have HB := Lib.hid ht.below; clear ht hb)
      all_goals
        go_wp2_with fail
        refine bodyPost_ret (v := .tuple #[.agg #[.string t, .string R, .int .i64 D], .bool true]) ?_ rfl ⟨rfl, three_below HB.out (by omega) _ _ _⟩
        simp [results, Tryd.results48, go_sem, c0, c1, c2]

theorem set_cut (l : List UInt8) (k : Nat) (c : UInt8) (h : k < l.length) : l.take k ++ [c] ++ l.drop (k + 1) = l.set k c := by
  rw [List.set_eq_take_append_cons_drop, if_pos h]; simp
set_option maxHeartbeats 1000000 in
theorem pzPut_any (l : List UInt8) (k : Nat) (c : UInt8) (w : World) (hk : k < l.length) (hl : l.length ≤ 1048576) :
    Calls Tryd.prog 62 #[.string (bs l), .int .i64 (k : Int), .string (bs [c])] w fun e w' => e = .returned (.string (bs (l.set k c))) ∧ ∃ m, w' = w.drewN m := by
  obtain ⟨t, ht⟩ : ∃ t, t = bs l := ⟨_, rfl⟩
  obtain ⟨u, hu⟩ : ∃ u, u = bs [c] := ⟨_, rfl⟩
  obtain ⟨n, hn⟩ : ∃ n, n = l.length := ⟨_, rfl⟩
  have htn : t.size = n := by rw [ht, bs_size, hn]
  have hun : u.size = 1 := by rw [hu, bs_size]; rfl
  obtain ⟨R, hR⟩ : ∃ R, R = bs (l.set k c) := ⟨_, rfl⟩
  have hR2 : R = t.extract 0 k ++ u ++ t.extract (k + 1) n := by
    rw [hR]; symm; apply bs_eq
    rw [list_append, list_append, list_extract, list_extract, ht, hu, bs_list, bs_list, ← set_cut l k c hk]
    rw [List.take_of_length_le (l := l.drop (k + 1)) (by rw [List.length_drop]; omega)]
    simp
  rw [← ht, ← hu, ← hR]
  rw [← hn] at hk hl
  have HR := Lib.hid hR2
  clear ht hu hn hR hR2
  obtain ⟨k1, hk1⟩ : ∃ k1, k1 = k + 1 := ⟨_, rfl⟩
  rw [← hk1] at HR
  have hkz : (k : Int) + 1 = (k1 : Int) := by omega
  have hk1n : k1 ≤ n := by omega
  have hkn : k ≤ n := by omega
  clear hk1
  go_enter Tryd.func62, Tryd.ntmps62
  go_wp2_with fail
  go_quiet (fail)
  go_wp2_with fail
  go_ret
  exact ⟨ret_str HR.out.symm, nq, rfl⟩
end Go.Proofs.YtplcdofpikdigaaDoor
