/- Chapter 9: CountSolutions, FirstSolution on both sides; their laws. -/
import Derived.Test.YtplcdofpikdigaaDooroe
namespace Go.Proofs.YtplcdofpikdigaaDoor
open Go.RowKit Go.BigFrame
set_option linter.unusedSimpArgs false
set_option linter.unusedVariables false
set_option maxRecDepth 4000

theorem ask_sol (W S : List UInt8) (D : Int) : askB W S D = (solO W S D 200).isSome ∧ (askB W S D = true → askL W S D = (solO W S D 200).getD []) := by
  unfold askB askL solO
  by_cases h : pzB W S D = true
  · by_cases h2 : (solsL W S D.toNat).length ≤ 200
    · simp only [h, h2, Bool.true_and, decide_true, and_self, if_true, Option.isSome_some, Option.getD_some, true_implies, true_and]
      rw [List.take_of_length_le (by omega)]
    · simp [h, h2]
  · simp [h]
def solB200 (W S : List UInt8) (D : Int) : Bool := (solO W S D 200).isSome
def solL200 (W S : List UInt8) (D : Int) : List (List UInt8) := (solO W S D 200).getD []
theorem solL_none (W S : List UInt8) (D : Int) (h : solB200 W S D = false) : solL200 W S D = [] := by
  unfold solB200 at h; unfold solL200
  cases ho : solO W S D 200 with
  | none => rfl
  | some x => rw [ho] at h; cases h
theorem solL_le (W S : List UInt8) (D : Int) : (solL200 W S D).length ≤ 200 := by
  unfold solL200 solO
  split
  · rename_i h; simpa using h.2
  · simp
/-- What both sides know. -/
theorem asked_post (W S : List UInt8) (D : Int) (w : World) (hW : W.length ≤ maxLen) (hS : S.length ≤ maxLen) :
    Calls Tryd.prog 33 #[pzV W S D] w fun e w' => ∃ a n c, e = .returned (.tuple #[.slice a n c, .bool (solB200 W S D)]) ∧ (solB200 W S D = true → n = (solL200 W S D).length ∧ w'.ownsRow w.heap.size 9 1 (.slice a n c) n (strA (solL200 W S D))) ∧ Below w.heap.size w w' := by
  refine (pzAsked_any W S D w hW hS).mono ?_
  rintro e w' ⟨a, c, rfl, ho, hb⟩
  have h := ask_sol W S D
  refine ⟨a, _, c, by unfold solB200; rw [h.1], fun h2 => ?_, hb⟩
  have h3 : askL W S D = solL200 W S D := h.2 (by rw [h.1]; exact h2)
  rw [h3] at ho ⊢
  exact ⟨rfl, ho⟩

set_option maxHeartbeats 1000000 in
theorem implSolutions_any (W S : List UInt8) (D : Int) (w : World) (hW : W.length ≤ maxLen) (hS : S.length ≤ maxLen) :
    Calls Tryd.prog 14 #[pzV W S D] w fun e w' => SolOk (solO W S D 200) w w' e := by
  have h := fun W0 => solutionsUpTo_any W S D 200 W0 hW hS (by omega)
  have H := Lib.hid h
  generalize hv : pzV W S D = v at *
  unfold pzV at hv
  subst hv
  clear h
  go_enter Tryd.func14, Tryd.ntmps14
  go_wp2_with fail
  refine (H.out _).mono ?_
  rintro e w1 ⟨a, c, rfl, r⟩
  have R := Lib.hid r
  clear r
  go_wp2_with fail
  go_ret2
  exact ⟨a, c, rfl, own_mono R.out.1 (by simp), below_trans (below_alloc _ _) R.out.2.1, R.out.2.2⟩

def r0CountSolutions (W S : List UInt8) (D : Int) : Int := ((solL200 W S D).length : Int)
def r1CountSolutions (W S : List UInt8) (D : Int) : Bool := solB200 W S D
set_option maxHeartbeats 1000000 in
theorem specCountSolutions_any (W S : List UInt8) (D : Int) (w : World) (hW : W.length ≤ maxLen) (hS : S.length ≤ maxLen) :
    Calls Tryd.prog 18 #[pzV W S D] w fun e w' => e = .returned (.tuple #[.int .i64 (r0CountSolutions W S D), .bool (r1CountSolutions W S D)]) ∧ Below w.heap.size w w' := by
  have H := Lib.hid (fun W0 => asked_post W S D W0 hW hS)
  unfold r0CountSolutions r1CountSolutions
  have hn := solL_none W S D
  generalize solB200 W S D = b at *
  generalize solL200 W S D = L at *
  generalize hv : pzV W S D = v at *
  unfold pzV at hv
  subst hv
  cases b with
  | false =>
    rw [hn rfl]
    clear hn
    go_enter Tryd.func18, Tryd.ntmps18
    go_wp2_with fail
    refine (H.out _).mono ?_
    rintro e w1 ⟨a, n, c, rfl, _, hb⟩
    have HB := Lib.hid (below_trans (below_alloc _ _) hb); clear hb
    go_wp2_with fail
    go_ret2
    exact ⟨rfl, HB.out⟩
  | true =>
    clear hn
    go_enter Tryd.func18, Tryd.ntmps18
    go_wp2_with fail
    refine (H.out _).mono ?_
    rintro e w1 ⟨a, n, c, rfl, hx, hb⟩
    have HX := Lib.hid (hx (by simp)).1
    have HB := Lib.hid (below_trans (below_alloc _ _) hb); clear hb hx
    go_wp2_with fail
    go_ret2
    exact ⟨by first | rfl | (rw [← HX.out]; rfl), HB.out⟩
set_option maxHeartbeats 1000000 in
theorem implCountSolutions_any (W S : List UInt8) (D : Int) (w : World) (hW : W.length ≤ maxLen) (hS : S.length ≤ maxLen) :
    Calls Tryd.prog 19 #[pzV W S D] w fun e w' => e = .returned (.tuple #[.int .i64 (r0CountSolutions W S D), .bool (r1CountSolutions W S D)]) ∧ Below w.heap.size w w' := by
  have H := Lib.hid (fun W0 => implSolutions_any W S D W0 hW hS)
  unfold r0CountSolutions r1CountSolutions solB200 solL200
  generalize solO W S D 200 = o at *
  generalize hv : pzV W S D = v at *
  unfold pzV at hv
  subst hv
  go_enter Tryd.func19, Tryd.ntmps19
  go_wp2_with fail
  refine (H.out _).mono ?_
  rintro e w1 ⟨a, c, rfl, _, hb, _⟩
  have HB := Lib.hid (below_trans (below_alloc _ _) hb); clear hb
  go_wp2_with fail
  go_ret2
  exact ⟨rfl, HB.out⟩
set_option maxHeartbeats 4000000 in
theorem law_CountSolutions (W S : List UInt8) (D : Int) (w : World) (hW : W.length ≤ maxLen) (hS : S.length ≤ maxLen) :
    Calls Tryd.prog 4 #[pzV W S D] w fun e w' => e = .returned (.bool true) ∧ Below w.heap.size w w' := by
  have hsz := fun (W0 : World) => szPuzzle_any W0 W S D hW hS
  obtain ⟨t, ht⟩ : ∃ t, t = bs W := ⟨_, rfl⟩
  obtain ⟨u, hu⟩ : ∃ u, u = bs S := ⟨_, rfl⟩
  by_cases hn : W.length + S.length ≤ 1048576
  · obtain ⟨m, hm⟩ : ∃ m : Nat, m = 1048576 - (W.length + S.length) := ⟨_, rfl⟩
    simp only [if_pos hn, ← hm] at hsz
    have hT := fun (W0 : World) => toPuzzle_any W0 W S D
    have hSP := fun (W0 : World) => specCountSolutions_any W S D W0 (by first | omega | (unfold maxLen; omega)) (by first | omega | (unfold maxLen; omega))
    have hIM := fun (W0 : World) => implCountSolutions_any W S D W0 (by first | omega | (unfold maxLen; omega)) (by first | omega | (unfold maxLen; omega))
    obtain ⟨r0, hr0⟩ : ∃ r, r = r0CountSolutions W S D := ⟨_, rfl⟩
    obtain ⟨r1, hr1⟩ : ∃ r, r = r1CountSolutions W S D := ⟨_, rfl⟩
    simp only [pzV, ← ht, ← hu, ← hr0, ← hr1] at hsz hT hSP hIM ⊢
    have HSZ := Lib.hid hsz; have HT := Lib.hid hT; have HSP := Lib.hid hSP; have HIM := Lib.hid hIM
    have e0 : (r0 != r0) = false := by simp
    have e1 : (r1 != r1) = false := by simp
    clear hsz hT hSP hIM hm hn ht hu hW hS hr0 hr1
    go_enter Tryd.func4, Tryd.ntmps4
    go_wp2_with fail
    refine (HSZ.out _).mono ?_
    rintro e w1 ⟨rfl, hb⟩
    have hx1 := (threeAt_new w (.string t) (.string u) (.int .i64 D) 23).below hb
    have HB1 := Lib.hid (below_trans (below_alloc _ _) hb)
    obtain ⟨c0, c1, c2, _, _, _⟩ := hx1.cells
    have HX1 := Lib.hid hx1; clear hb hx1
    go_wp2_with fail
    refine (HT.out _).mono ?_
    rintro e w2 ⟨rfl, hb⟩
    have hx2 := HX1.out.below hb
    have HB2 := Lib.hid (below_trans HB1.out hb)
    obtain ⟨d0, d1, d2, _, _, _⟩ := hx2.cells
    have HX2 := Lib.hid hx2; clear hb hx2 c0 c1 c2
    go_wp2_with fail
    refine (HSP.out _).mono ?_
    rintro e w3 ⟨rfl, hb⟩
    have hx3 := HX2.out.below hb
    have HB3 := Lib.hid (below_trans HB2.out hb)
    obtain ⟨c0, c1, c2, _, _, _⟩ := hx3.cells
    clear hb hx3 d0 d1 d2
    go_wp2_with fail
    refine (HT.out _).mono ?_
    rintro e w4 ⟨rfl, hb⟩
    have HB4 := Lib.hid (below_trans HB3.out hb)
    clear hb c0 c1 c2
    go_wp2_with fail
    refine (HIM.out _).mono ?_
    rintro e w5 ⟨rfl, hb⟩
    have HB5 := Lib.hid (below_trans HB4.out hb)
    clear hb
    go_wp2_with fail
    go_ret
    exact ⟨rfl, HB5.out⟩
  · simp only [if_neg hn] at hsz
    simp only [pzV, ← ht, ← hu] at hsz ⊢
    have HSZ := Lib.hid hsz
    clear hsz ht hu
    go_enter Tryd.func4, Tryd.ntmps4
    go_wp2_with fail
    refine (HSZ.out _).mono ?_
    rintro e w1 ⟨rfl, hb⟩
    have HB := Lib.hid hb; clear hb
    go_wp2_with fail
    go_ret
    exact ⟨rfl, below_trans (below_alloc _ _) HB.out⟩
end Go.Proofs.YtplcdofpikdigaaDoor
