/- Chapter 9: PuzzleText of the model and of the program. -/
import Derived.Test.YtplcdofpikdigaaDoorq3
import Derived.Test.YtplcdofpikdigaaDoorA4
import Derived.Test.YtplcdofpikdigaaDoorS
import Derived.Deep.RegionHeld3
namespace Go.Proofs.YtplcdofpikdigaaDoor
open Go.RowKit Go.BigFrame Go.Deep
set_option linter.unusedSimpArgs false
set_option linter.unusedVariables false
set_option maxRecDepth 4000

def ptL (W S : List UInt8) (D : Int) : List UInt8 := W ++ [58] ++ S ++ [58] ++ [UInt8.ofNat (48 + D.toNat)]
def r0PuzzleText (W S : List UInt8) (D : Int) : List UInt8 := if pzB W S D = true then ptL W S D else []
def r1PuzzleText (W S : List UInt8) (D : Int) : Bool := pzB W S D

set_option maxHeartbeats 4000000 in
theorem pzText_any (W S : List UInt8) (D : Int) (w : World) (hW : W.length ≤ 8) (hS : S.length ≤ 16) (h1 : 1 ≤ D) (h4 : D ≤ 4) :
    Calls Tryd.prog 50 #[pzV W S D] w fun e w' => e = .returned (.string (bs (ptL W S D))) ∧ Below w.heap.size w w' := by
  have hnum := fun (W0 : World) => l1Num_any 9 D W0 (by omega) (by omega) (by omega)
  rw [numL_one D.toNat (by omega)] at hnum
  obtain ⟨t, ht⟩ : ∃ t, t = bs W := ⟨_, rfl⟩
  obtain ⟨u, hu⟩ : ∃ u, u = bs S := ⟨_, rfl⟩
  obtain ⟨r, hr⟩ : ∃ r, r = bs [UInt8.ofNat (48 + D.toNat)] := ⟨_, rfl⟩
  have htn : t.size ≤ 8 := by rw [ht, bs_size]; exact hW
  have hun : u.size ≤ 16 := by rw [hu, bs_size]; exact hS
  have hrn : r.size = 1 := by rw [hr, bs_size]; rfl
  have hc : (bs [58]).size = 1 := by rw [bs_size]; rfl
  have HEQ : Hid (bs (ptL W S D) = t ++ bs [58] ++ u ++ bs [58] ++ r) := Lib.hid (by
    rw [ht, hu, hr]; simp only [bs_append]; rfl)
  unfold pzV
  rw [← ht, ← hu]
  rw [← hr] at hnum
  have HNUM := Lib.hid hnum
  clear hnum ht hu hr hW hS h1 h4
  generalize bs (ptL W S D) = z at *
  go_enter Tryd.func50, Tryd.ntmps50
  have hS : ∀ W : World, Below (w.alloc (.cells #[.string t, .string u, .int .i64 D] 28)).heap.size (w.alloc (.cells #[.string t, .string u, .int .i64 D] 28)) W → W.cell? ⟨w.heap.size, 0, none⟩ = some (.string t) ∧ W.cell? ⟨w.heap.size, 1, none⟩ = some (.string u) ∧ W.cell? ⟨w.heap.size, 2, none⟩ = some (.int .i64 D) ∧ ¬ 9223372036854775807 < t.size + 1 ∧ ¬ 9223372036854775807 < t.size + 1 + u.size ∧ ¬ 9223372036854775807 < t.size + 1 + u.size + 1 ∧ ¬ 9223372036854775807 < t.size + 1 + u.size + 1 + 1 := fun W hW => by
    obtain ⟨c0, c1, c2, _, _, _⟩ := ((threeAt_new w (.string t) (.string u) (.int .i64 D) 28).below hW).cells
    exact ⟨c0, c1, c2, by omega, by omega, by omega, by omega⟩
  have HS := Lib.hid hS
  clear hS
  go_wp2_with fail
  go_region_held3 (fun W : World => W.cell? ⟨w.heap.size, 0, none⟩ = some (.string t) ∧ W.cell? ⟨w.heap.size, 1, none⟩ = some (.string u) ∧ W.cell? ⟨w.heap.size, 2, none⟩ = some (.int .i64 D) ∧ ¬ 9223372036854775807 < t.size + 1 ∧ ¬ 9223372036854775807 < t.size + 1 + u.size ∧ ¬ 9223372036854775807 < t.size + 1 + u.size + 1 ∧ ¬ 9223372036854775807 < t.size + 1 + u.size + 1 + 1) (first | exact HS.out _ (below_drew _) | exact HS.out _ (below_trans (below_drew _) hb5) | assumption) (first | (go_at_call 57; refine (HNUM.out _).mono ?_; rintro e w5 ⟨rfl, hb5⟩))
  all_goals
    go_wp2_with fail
    go_ret
    exact ⟨ret_str HEQ.out.symm, below_trans (below_trans (below_alloc _ _) (below_drew _)) hb5⟩

set_option maxHeartbeats 4000000 in
theorem specPuzzleText_any (W S : List UInt8) (D : Int) (w : World) (hW : W.length ≤ maxLen) (hS : S.length ≤ maxLen) :
    Calls Tryd.prog 31 #[pzV W S D] w fun e w' => e = .returned (.tuple #[.string (bs (r0PuzzleText W S D)), .bool (r1PuzzleText W S D)]) ∧ Below w.heap.size w w' := by
  have H := Lib.hid (fun W' => pzGood_any W S D W' hW hS)
  have HP : Hid (pzB W S D = true → ∀ W' : World, Calls Tryd.prog 50 #[pzV W S D] W' fun e w' => e = .returned (.string (bs (ptL W S D))) ∧ Below W'.heap.size W' w') := Lib.hid (fun hg W' => by
    have hp := pzS_parts (pzB_parts hg).1
    exact pzText_any W S D W' (by omega) (by omega) (by omega) (by omega))
  unfold r0PuzzleText r1PuzzleText
  generalize pzB W S D = b at *
  generalize hv : pzV W S D = v at *
  unfold pzV at hv
  subst hv
  cases b with
  | false =>
    clear HP
    rw [if_neg (by simp)]
    go_enter Tryd.func31, Tryd.ntmps31
    go_wp2_with fail
    refine (H.out _).mono ?_
    rintro e w1 ⟨rfl, hb⟩
    have HB := Lib.hid hb; clear hb
    go_wp2_with fail
    go_ret2
    exact ⟨rfl, below_trans (below_alloc _ _) HB.out⟩
  | true =>
    have HQ := Lib.hid (HP.out rfl); clear HP
    rw [if_pos rfl]
    generalize bs (ptL W S D) = z at *
    go_enter Tryd.func31, Tryd.ntmps31
    go_wp2_with fail
    refine (H.out _).mono ?_
    rintro e w1 ⟨rfl, hb⟩
    have hx1 := (threeAt_new w (.string (bs W)) (.string (bs S)) (.int .i64 D) 28).below hb
    obtain ⟨c0, c1, c2, _, _, _⟩ := hx1.cells
    have HB := Lib.hid hb; clear hb hx1
    go_wp2_with fail
    refine (HQ.out _).mono ?_
    rintro e w2 ⟨rfl, hb⟩
    have HB2 := Lib.hid hb; clear hb
    go_wp2_with fail
    go_ret2
    exact ⟨rfl, below_trans (below_alloc _ _) (below_trans HB.out HB2.out)⟩

theorem dig_small (D : Int) (h1 : 1 ≤ D) (h4 : D ≤ 4) : Lib.decDigits D.toNat = [UInt8.ofNat (48 + D.toNat)] := by
  rw [Lib.decDigits, dif_pos (by omega)]

set_option maxHeartbeats 1000000 in
theorem itoa_small (D : Int) (w : World) (h1 : 1 ≤ D) (h4 : D ≤ 4) :
    Calls Tryd.prog 52 #[.int .i64 D] w fun e w' => e = .returned (.string (bs [UInt8.ofNat (48 + D.toNat)])) ∧ w' = w := by
  have hF : ∀ W : World, Calls Tryd.prog 76 #[.int .i64 D, .int .i64 10] W fun e w' => e = .returned (.string (bs [UInt8.ofNat (48 + D.toNat)])) ∧ w' = W := fun W => by
    have h := Tryd.internal_strconv_FormatInt_10_small D.toNat (by omega) W
    rw [dig_small D h1 h4, Int.toNat_of_nonneg (by omega)] at h
    exact h
  generalize bs [UInt8.ofNat (48 + D.toNat)] = r at *
  have HF := Lib.hid hF; clear hF
  have hI : ∀ W : World, Calls Tryd.prog 69 #[.int .i64 D] W fun e w' => e = .returned (.string r) ∧ w' = W := fun W => by
    go_enter Tryd.func69, Tryd.ntmps69
    go_wp2_with fail
    refine (HF.out _).mono ?_
    rintro e w1 ⟨rfl, rfl⟩
    go_wp2_with fail
    go_ret
    exact ⟨rfl, rfl⟩
  have HI := Lib.hid hI; clear hI HF
  go_enter Tryd.func52, Tryd.ntmps52
  go_wp2_with fail
  refine (HI.out _).mono ?_
  rintro e w1 ⟨rfl, rfl⟩
  go_wp2_with fail
  go_ret
  exact ⟨rfl, rfl⟩

set_option maxHeartbeats 4000000 in
theorem implPuzzleText_any (W S : List UInt8) (D : Int) (w : World) (hW : W.length ≤ maxLen) (hS : S.length ≤ maxLen) :
    Calls Tryd.prog 32 #[pzV W S D] w fun e w' => e = .returned (.tuple #[.string (bs (r0PuzzleText W S D)), .bool (r1PuzzleText W S D)]) ∧ Below w.heap.size w w' := by
  unfold r0PuzzleText r1PuzzleText
  by_cases hg : pzB W S D = true
  · have hp := pzS_parts (pzB_parts hg).1
    have HN : Hid (∀ W' : World, Calls Tryd.prog 52 #[.int .i64 D] W' fun e w' => e = .returned (.string (bs [UInt8.ofNat (48 + D.toNat)])) ∧ w' = W') := Lib.hid (fun W' => itoa_small D W' (by omega) (by omega))
    have H : Hid (∀ W' : World, Calls Tryd.prog 51 #[pzV W S D] W' fun e w' => e = .returned (.bool true) ∧ Below W'.heap.size W' w') := Lib.hid (fun W' => by
      have h := implIsPuzzle_any W S D W' hW hS
      rw [hg] at h
      exact h)
    rw [hg]
    obtain ⟨t, ht⟩ : ∃ t, t = bs W := ⟨_, rfl⟩
    obtain ⟨u, hu⟩ : ∃ u, u = bs S := ⟨_, rfl⟩
    obtain ⟨r, hr⟩ : ∃ r, r = bs [UInt8.ofNat (48 + D.toNat)] := ⟨_, rfl⟩
    have htn : t.size ≤ 8 := by rw [ht, bs_size]; omega
    have hun : u.size ≤ 16 := by rw [hu, bs_size]; omega
    have hrn : r.size = 1 := by rw [hr, bs_size]; rfl
    have hc : (bs [58]).size = 1 := by rw [bs_size]; rfl
    have HEQ : Hid (bs (ptL W S D) = t ++ bs [58] ++ u ++ bs [58] ++ r) := Lib.hid (by
      rw [ht, hu, hr]; simp only [bs_append]; rfl)
    rw [← hr] at HN
    rw [if_pos rfl]
    unfold pzV at H ⊢
    rw [← ht, ← hu] at H ⊢
    clear ht hu hr hW hS hp hg
    generalize bs (ptL W S D) = z at *
    go_enter Tryd.func32, Tryd.ntmps32
    go_wp2_with fail
    refine (H.out _).mono ?_
    rintro e w1 ⟨rfl, hb⟩
    have hx1 := (threeAt_new w (.string t) (.string u) (.int .i64 D) 28).below hb
    have hS : ∀ W : World, W.heap = w1.heap → W.cell? ⟨w.heap.size, 0, none⟩ = some (.string t) ∧ W.cell? ⟨w.heap.size, 1, none⟩ = some (.string u) ∧ W.cell? ⟨w.heap.size, 2, none⟩ = some (.int .i64 D) ∧ ¬ 9223372036854775807 < t.size + 1 ∧ ¬ 9223372036854775807 < t.size + 1 + u.size ∧ ¬ 9223372036854775807 < t.size + 1 + u.size + 1 ∧ ¬ 9223372036854775807 < t.size + 1 + u.size + 1 + 1 := fun W hW => by
      obtain ⟨c0, c1, c2, _, _, _⟩ := hx1.cells
      exact ⟨(World.cell?_of_block (w := w1) (by rw [hW])).trans c0, (World.cell?_of_block (w := w1) (by rw [hW])).trans c1, (World.cell?_of_block (w := w1) (by rw [hW])).trans c2, by omega, by omega, by omega, by omega⟩
    have HS := Lib.hid hS
    have HB := Lib.hid hb; clear hb hx1 hS
    go_wp2_with fail
    go_region_held3 (fun W : World => W.cell? ⟨w.heap.size, 0, none⟩ = some (.string t) ∧ W.cell? ⟨w.heap.size, 1, none⟩ = some (.string u) ∧ W.cell? ⟨w.heap.size, 2, none⟩ = some (.int .i64 D) ∧ ¬ 9223372036854775807 < t.size + 1 ∧ ¬ 9223372036854775807 < t.size + 1 + u.size ∧ ¬ 9223372036854775807 < t.size + 1 + u.size + 1 ∧ ¬ 9223372036854775807 < t.size + 1 + u.size + 1 + 1) (first | exact HS.out _ rfl | assumption) (first | (go_at_call 52; refine (HN.out _).mono ?_; rintro e w5 ⟨rfl, rfl⟩))
    all_goals
      go_wp2_with fail
      go_ret2
      exact ⟨by rw [HEQ.out]; rfl, below_trans (below_trans (below_alloc _ _) HB.out) (below_drew _)⟩
  · have hg' : pzB W S D = false := by simpa using hg
    have H : Hid (∀ W' : World, Calls Tryd.prog 51 #[pzV W S D] W' fun e w' => e = .returned (.bool false) ∧ Below W'.heap.size W' w') := Lib.hid (fun W' => by
      have h := implIsPuzzle_any W S D W' hW hS
      rw [hg'] at h
      exact h)
    rw [hg', if_neg (by simp)]
    clear hg hg' hW hS
    generalize hv : pzV W S D = v at *
    unfold pzV at hv
    subst hv
    go_enter Tryd.func32, Tryd.ntmps32
    go_wp2_with fail
    refine (H.out _).mono ?_
    rintro e w1 ⟨rfl, hb⟩
    have HB := Lib.hid hb; clear hb
    go_wp2_with fail
    go_ret2
    exact ⟨rfl, below_trans (below_alloc _ _) HB.out⟩
set_option maxHeartbeats 4000000 in
theorem law_PuzzleText (W S : List UInt8) (D : Int) (w : World) (hW : W.length ≤ maxLen) (hS : S.length ≤ maxLen) :
    Calls Tryd.prog 10 #[pzV W S D] w fun e w' => e = .returned (.bool true) ∧ Below w.heap.size w w' := by
  have hsz := fun (W0 : World) => szPuzzle_any W0 W S D hW hS
  obtain ⟨t, ht⟩ : ∃ t, t = bs W := ⟨_, rfl⟩
  obtain ⟨u, hu⟩ : ∃ u, u = bs S := ⟨_, rfl⟩
  by_cases hn : W.length + S.length ≤ 1048576
  · obtain ⟨m, hm⟩ : ∃ m : Nat, m = 1048576 - (W.length + S.length) := ⟨_, rfl⟩
    simp only [if_pos hn, ← hm] at hsz
    have hT := fun (W0 : World) => toPuzzle_any W0 W S D
    have hSP := fun (W0 : World) => specPuzzleText_any W S D W0 (by first | omega | (unfold maxLen; omega)) (by first | omega | (unfold maxLen; omega))
    have hIM := fun (W0 : World) => implPuzzleText_any W S D W0 (by first | omega | (unfold maxLen; omega)) (by first | omega | (unfold maxLen; omega))
    obtain ⟨r0, hr0⟩ : ∃ r, r = bs (r0PuzzleText W S D) := ⟨_, rfl⟩
    obtain ⟨r1, hr1⟩ : ∃ r, r = r1PuzzleText W S D := ⟨_, rfl⟩
    simp only [pzV, ← ht, ← hu, ← hr0, ← hr1] at hsz hT hSP hIM ⊢
    have HSZ := Lib.hid hsz; have HT := Lib.hid hT; have HSP := Lib.hid hSP; have HIM := Lib.hid hIM
    have e0 : (r0.toList != r0.toList) = false := by simp
    have e1 : (r1 != r1) = false := by simp
    clear hsz hT hSP hIM hm hn ht hu hW hS hr0 hr1
    go_enter Tryd.func10, Tryd.ntmps10
    go_wp2_with fail
    refine (HSZ.out _).mono ?_
    rintro e w1 ⟨rfl, hb⟩
    have hx1 := (threeAt_new w (.string t) (.string u) (.int .i64 D) 23).below hb
    have HB1 := Lib.hid (below_trans (below_alloc _ _) hb)
    obtain ⟨c0, c1, c2, _, _, _⟩ := hx1.cells
    have HX1 := Lib.hid hx1; clear hb hx1
    go_wp2_with fail
    refine (HT.out _).mono ?_
    rintro e w2 ⟨rfl, hb⟩
    have hx2 := HX1.out.below hb
    have HB2 := Lib.hid (below_trans HB1.out hb)
    obtain ⟨d0, d1, d2, _, _, _⟩ := hx2.cells
    have HX2 := Lib.hid hx2; clear hb hx2 c0 c1 c2
    go_wp2_with fail
    refine (HSP.out _).mono ?_
    rintro e w3 ⟨rfl, hb⟩
    have hx3 := HX2.out.below hb
    have HB3 := Lib.hid (below_trans HB2.out hb)
    obtain ⟨c0, c1, c2, _, _, _⟩ := hx3.cells
    clear hb hx3 d0 d1 d2
    go_wp2_with fail
    refine (HT.out _).mono ?_
    rintro e w4 ⟨rfl, hb⟩
    have HB4 := Lib.hid (below_trans HB3.out hb)
    clear hb c0 c1 c2
    go_wp2_with fail
    refine (HIM.out _).mono ?_
    rintro e w5 ⟨rfl, hb⟩
    have HB5 := Lib.hid (below_trans HB4.out hb)
    clear hb
    go_wp2_with fail
    go_ret
    exact ⟨rfl, HB5.out⟩
  · simp only [if_neg hn] at hsz
    simp only [pzV, ← ht, ← hu] at hsz ⊢
    have HSZ := Lib.hid hsz
    clear hsz ht hu
    go_enter Tryd.func10, Tryd.ntmps10
    go_wp2_with fail
    refine (HSZ.out _).mono ?_
    rintro e w1 ⟨rfl, hb⟩
    have HB := Lib.hid hb; clear hb
    go_wp2_with fail
    go_ret
    exact ⟨rfl, below_trans (below_alloc _ _) HB.out⟩
end Go.Proofs.YtplcdofpikdigaaDoor
