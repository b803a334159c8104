/- Chapter 9: FirstSolution on both sides; its law. -/
import Derived.Test.YtplcdofpikdigaaDoorof
namespace Go.Proofs.YtplcdofpikdigaaDoor
open Go.RowKit Go.BigFrame
set_option linter.unusedSimpArgs false
set_option linter.unusedVariables false
set_option maxRecDepth 4000

def r0FirstSolution (W S : List UInt8) (D : Int) : List UInt8 := (solL200 W S D).headD []
def r1FirstSolution (W S : List UInt8) (D : Int) : Bool := !(solL200 W S D).isEmpty
/-- The first of a row of texts. -/
theorem row_first {w : World} {B : Nat} {a : Option Addr} {n c : Nat} {ls : List (List UInt8)} (h : w.ownsRow B 9 1 (.slice a n c) n (strA ls)) (hn : n = ls.length) (h0 : 0 < n) :
    ∃ g, a = some ⟨g, 0, none⟩ ∧ g < w.heap.size ∧ ∀ i, i < n → w.cell? ⟨g, i, none⟩ = some (.string (bs (ls.getD i []))) := by
  rcases own_open h with ⟨_, h2, _⟩ | ⟨g, cap, hv, _, hg, _, _, hl, hc, _⟩
  · omega
  · injection hv with e1 e2 e3
    refine ⟨g, e1, hg, fun i hi => ?_⟩
    have hi' : i < (strA ls).length := by rw [strA_len]; omega
    rw [hc i hi']
    have hi2 : i < ls.length := by omega
    simp [strA, List.getD, hi2]
set_option maxHeartbeats 1000000 in
theorem specFirstSolution_any (W S : List UInt8) (D : Int) (w : World) (hW : W.length ≤ maxLen) (hS : S.length ≤ maxLen) :
    Calls Tryd.prog 20 #[pzV W S D] w fun e w' => e = .returned (.tuple #[.string (bs (r0FirstSolution W S D)), .bool (r1FirstSolution W S D)]) ∧ Below w.heap.size w w' := by
  have H := Lib.hid (fun W0 => asked_post W S D W0 hW hS)
  unfold r0FirstSolution r1FirstSolution
  have hn := solL_none W S D
  have hle := solL_le W S D
  generalize solB200 W S D = b at *
  generalize solL200 W S D = L at *
  generalize hv : pzV W S D = v at *
  unfold pzV at hv
  subst hv
  cases b with
  | false =>
    rw [hn rfl]
    clear hn
    go_enter Tryd.func20, Tryd.ntmps20
    go_wp2_with fail
    refine (H.out _).mono ?_
    rintro e w1 ⟨a, n, c, rfl, _, hb⟩
    have HB := Lib.hid (below_trans (below_alloc _ _) hb); clear hb
    go_wp2_with fail
    go_ret2
    exact ⟨rfl, HB.out⟩
  | true =>
    clear hn
    cases L with
    | nil =>
      go_enter Tryd.func20, Tryd.ntmps20
      go_wp2_with fail
      refine (H.out _).mono ?_
      rintro e w1 ⟨a, n, c, rfl, hx, hb⟩
      obtain rfl : n = 0 := (hx (by simp)).1
      have HB := Lib.hid (below_trans (below_alloc _ _) hb); clear hb hx
      go_wp2_with fail
      go_ret2
      exact ⟨rfl, HB.out⟩
    | cons x L =>
      go_enter Tryd.func20, Tryd.ntmps20
      go_wp2_with fail
      refine (H.out _).mono ?_
      rintro e w1 ⟨a, n, c, rfl, hx, hb⟩
      obtain ⟨hnl, hown⟩ := hx (by simp)
      have hn0 : 0 < n := by rw [hnl]; simp
      obtain ⟨g, rfl, hg, hcell⟩ := row_first hown hnl hn0
      have hc0 := hcell 0 hn0
      have hnz : ((n : Int) == 0) = false := by simp; omega
      have hnz2 : (0 : Int) < (n : Int) := by omega
      have HB := Lib.hid (below_trans (below_alloc _ _) hb); clear hb hx hown hcell hnl
      simp only [List.getD_cons_zero] at hc0
      go_wp2_with fail
      go_ret2
      exact ⟨rfl, HB.out⟩
set_option maxHeartbeats 1000000 in
theorem implFirstSolution_any (W S : List UInt8) (D : Int) (w : World) (hW : W.length ≤ maxLen) (hS : S.length ≤ maxLen) :
    Calls Tryd.prog 21 #[pzV W S D] w fun e w' => e = .returned (.tuple #[.string (bs (r0FirstSolution W S D)), .bool (r1FirstSolution W S D)]) ∧ Below w.heap.size w w' := by
  have H := Lib.hid (fun W0 => implSolutions_any W S D W0 hW hS)
  have hle := solL_le W S D
  unfold r0FirstSolution r1FirstSolution solL200 at *
  unfold SolOk at H
  generalize (solO W S D 200).getD [] = L at *
  generalize solO W S D 200 = o at *
  generalize hv : pzV W S D = v at *
  unfold pzV at hv
  subst hv
  cases L with
  | nil =>
    go_enter Tryd.func21, Tryd.ntmps21
    go_wp2_with fail
    refine (H.out _).mono ?_
    rintro e w1 ⟨a, c, rfl, _, hb, _⟩
    have HB := Lib.hid (below_trans (below_alloc _ _) hb); clear hb
    go_wp2_with fail
    go_ret2
    exact ⟨rfl, HB.out⟩
  | cons x L =>
    go_enter Tryd.func21, Tryd.ntmps21
    go_wp2_with fail
    refine (H.out _).mono ?_
    rintro e w1 ⟨a, c, rfl, hown, hb, _⟩
    obtain ⟨n, hn⟩ : ∃ n, n = (x :: L).length := ⟨_, rfl⟩
    rw [← hn] at hown ⊢
    have hn0 : 0 < n := by rw [hn]; simp
    obtain ⟨g, rfl, hg, hcell⟩ := row_first hown hn hn0
    have hc0 := hcell 0 hn0
    have hnz : ((n : Int) == 0) = false := by simp; omega
    have hnz2 : (0 : Int) < (n : Int) := by omega
    have HB := Lib.hid (below_trans (below_alloc _ _) hb); clear hb hown hcell hn
    simp only [List.getD_cons_zero] at hc0
    go_wp2_with fail
    go_ret2
    exact ⟨rfl, HB.out⟩
set_option maxHeartbeats 4000000 in
theorem law_FirstSolution (W S : List UInt8) (D : Int) (w : World) (hW : W.length ≤ maxLen) (hS : S.length ≤ maxLen) :
    Calls Tryd.prog 5 #[pzV W S D] w fun e w' => e = .returned (.bool true) ∧ Below w.heap.size w w' := by
  have hsz := fun (W0 : World) => szPuzzle_any W0 W S D hW hS
  obtain ⟨t, ht⟩ : ∃ t, t = bs W := ⟨_, rfl⟩
  obtain ⟨u, hu⟩ : ∃ u, u = bs S := ⟨_, rfl⟩
  by_cases hn : W.length + S.length ≤ 1048576
  · obtain ⟨m, hm⟩ : ∃ m : Nat, m = 1048576 - (W.length + S.length) := ⟨_, rfl⟩
    simp only [if_pos hn, ← hm] at hsz
    have hT := fun (W0 : World) => toPuzzle_any W0 W S D
    have hSP := fun (W0 : World) => specFirstSolution_any W S D W0 (by first | omega | (unfold maxLen; omega)) (by first | omega | (unfold maxLen; omega))
    have hIM := fun (W0 : World) => implFirstSolution_any W S D W0 (by first | omega | (unfold maxLen; omega)) (by first | omega | (unfold maxLen; omega))
    obtain ⟨r0, hr0⟩ : ∃ r, r = bs (r0FirstSolution W S D) := ⟨_, rfl⟩
    obtain ⟨r1, hr1⟩ : ∃ r, r = r1FirstSolution W S D := ⟨_, rfl⟩
    simp only [pzV, ← ht, ← hu, ← hr0, ← hr1] at hsz hT hSP hIM ⊢
    have HSZ := Lib.hid hsz; have HT := Lib.hid hT; have HSP := Lib.hid hSP; have HIM := Lib.hid hIM
    have e0 : (r0.toList != r0.toList) = false := by simp
    have e1 : (r1 != r1) = false := by simp
    clear hsz hT hSP hIM hm hn ht hu hW hS hr0 hr1
    go_enter Tryd.func5, Tryd.ntmps5
    go_wp2_with fail
    refine (HSZ.out _).mono ?_
    rintro e w1 ⟨rfl, hb⟩
    have hx1 := (threeAt_new w (.string t) (.string u) (.int .i64 D) 23).below hb
    have HB1 := Lib.hid (below_trans (below_alloc _ _) hb)
    obtain ⟨c0, c1, c2, _, _, _⟩ := hx1.cells
    have HX1 := Lib.hid hx1; clear hb hx1
    go_wp2_with fail
    refine (HT.out _).mono ?_
    rintro e w2 ⟨rfl, hb⟩
    have hx2 := HX1.out.below hb
    have HB2 := Lib.hid (below_trans HB1.out hb)
    obtain ⟨d0, d1, d2, _, _, _⟩ := hx2.cells
    have HX2 := Lib.hid hx2; clear hb hx2 c0 c1 c2
    go_wp2_with fail
    refine (HSP.out _).mono ?_
    rintro e w3 ⟨rfl, hb⟩
    have hx3 := HX2.out.below hb
    have HB3 := Lib.hid (below_trans HB2.out hb)
    obtain ⟨c0, c1, c2, _, _, _⟩ := hx3.cells
    clear hb hx3 d0 d1 d2
    go_wp2_with fail
    refine (HT.out _).mono ?_
    rintro e w4 ⟨rfl, hb⟩
    have HB4 := Lib.hid (below_trans HB3.out hb)
    clear hb c0 c1 c2
    go_wp2_with fail
    refine (HIM.out _).mono ?_
    rintro e w5 ⟨rfl, hb⟩
    have HB5 := Lib.hid (below_trans HB4.out hb)
    clear hb
    go_wp2_with fail
    go_ret
    exact ⟨rfl, HB5.out⟩
  · simp only [if_neg hn] at hsz
    simp only [pzV, ← ht, ← hu] at hsz ⊢
    have HSZ := Lib.hid hsz
    clear hsz ht hu
    go_enter Tryd.func5, Tryd.ntmps5
    go_wp2_with fail
    refine (HSZ.out _).mono ?_
    rintro e w1 ⟨rfl, hb⟩
    have HB := Lib.hid hb; clear hb
    go_wp2_with fail
    go_ret
    exact ⟨rfl, below_trans (below_alloc _ _) HB.out⟩
end Go.Proofs.YtplcdofpikdigaaDoor
