/- Chapter 9: SureWord on both sides; its law. -/
import Derived.Test.YtplcdofpikdigaaDoorog
import Derived.Test.YtplcdofpikdigaaDooroi
namespace Go.Proofs.YtplcdofpikdigaaDoor
open Go.RowKit Go.BigFrame
set_option linter.unusedSimpArgs false
set_option linter.unusedVariables false
set_option maxRecDepth 4000

theorem sol_mem {W S : List UInt8} {D : Int} {s : List UInt8} (h : s ∈ solL200 W S D) : pzB W S D = true ∧ s ∈ compl D.toNat W ∧ s.length = W.length ∧ (sayL s).length = S.length := by
  unfold solL200 solO at h
  split at h
  · rename_i hh
    rw [Option.getD_some, solsL, List.mem_filter] at h
    obtain ⟨_, h2, h3⟩ := solB_iff.1 h.2
    exact ⟨hh.1, h.1, (fitsB_iff.1 h2).1, (fitsB_iff.1 h3).1⟩
  · simp at h
/-- The texts of a row, of one length. -/
theorem txts_row {w : World} {g N n : Nat} {L : List (List UInt8)} (hN : N = L.length) (hg : g < w.heap.size) (hc : ∀ i, i < N → w.cell? ⟨g, i, none⟩ = some (.string (bs (L.getD i [])))) (hl : ∀ s ∈ L, s.length = n) : TxtsR w g N n L :=
  ⟨hc, fun j hj => by
    have hj' : j < L.length := by omega
    have e : L.getD j [] = L[j] := by simp [List.getD, hj']
    rw [e]; exact hl _ (List.getElem_mem hj'), hg⟩
def r0SureWord (W S : List UInt8) (D : Int) : List UInt8 := comL (solL200 W S D)
def r1SureWord (W S : List UInt8) (D : Int) : Bool := !(solL200 W S D).isEmpty
theorem comL_nil : comL [] = [] := rfl

set_option maxHeartbeats 1000000 in
theorem specSureWord_any (W S : List UInt8) (D : Int) (w : World) (hW : W.length ≤ maxLen) (hS : S.length ≤ maxLen) :
    Calls Tryd.prog 22 #[pzV W S D] w fun e w' => e = .returned (.tuple #[.string (bs (r0SureWord W S D)), .bool (r1SureWord W S D)]) ∧ Below w.heap.size w w' := by
  have H := Lib.hid (fun W0 => asked_post W S D W0 hW hS)
  unfold r0SureWord r1SureWord
  have hn := solL_none W S D
  have hle := solL_le W S D
  have hlen : ∀ s ∈ solL200 W S D, s.length = W.length := fun s h => (sol_mem h).2.2.1
  have hW8 : ∀ s ∈ solL200 W S D, W.length ≤ 1000 := fun s h => by have := pzS_parts (pzB_parts (sol_mem h).1).1; omega
  generalize solB200 W S D = b at *
  generalize solL200 W S D = L at *
  generalize hv : pzV W S D = v at *
  unfold pzV at hv
  subst hv
  cases b with
  | false =>
    rw [hn rfl]
    clear hn hlen hW8
    go_enter Tryd.func22, Tryd.ntmps22
    go_wp2_with fail
    refine (H.out _).mono ?_
    rintro e w1 ⟨a, n, c, rfl, _, hb⟩
    have HB := Lib.hid (below_trans (below_alloc _ _) hb); clear hb
    go_wp2_with fail
    go_ret2
    exact ⟨rfl, HB.out⟩
  | true =>
    clear hn
    cases L with
    | nil =>
      clear hlen hW8
      go_enter Tryd.func22, Tryd.ntmps22
      go_wp2_with fail
      refine (H.out _).mono ?_
      rintro e w1 ⟨a, n, c, rfl, hx, hb⟩
      obtain rfl : n = 0 := (hx (by simp)).1
      have HB := Lib.hid (below_trans (below_alloc _ _) hb); clear hb hx
      go_wp2_with fail
      go_ret2
      exact ⟨rfl, HB.out⟩
    | cons x L =>
      have hn8 := hW8 x (by simp)
      obtain ⟨K, hK⟩ : ∃ K, K = x :: L := ⟨_, rfl⟩
      have he : (!(x :: L).isEmpty) = true := rfl
      rw [he, ← hK]
      rw [← hK] at hle hlen H
      have hKp : 1 ≤ K.length := by rw [hK]; simp
      have HL := Lib.hid hlen
      clear hW8 hK hlen he
      go_enter Tryd.func22, Tryd.ntmps22
      go_wp2_with fail
      refine (H.out _).mono ?_
      rintro e w1 ⟨a, n, c, rfl, hx, hb⟩
      obtain ⟨hnl, hown⟩ := hx (by simp)
      have hn0 : 0 < n := by omega
      obtain ⟨g, rfl, hg, hcell⟩ := row_first hown hnl hn0
      have HT := Lib.hid (txts_row hnl hg hcell HL.out)
      have HC := Lib.hid (fun (w2 : World) (h : Below w1.heap.size w1 w2) => pzSure_any K g n W.length c w2 hnl (by omega) (by omega) hn8 (HT.out.below h))
      have hnz : ((n : Int) == 0) = false := by simp; omega
      have HB := Lib.hid (below_trans (below_alloc _ _) hb); clear hb hx hown hcell hnl
      go_wp2_with fail
      refine (HC.out _ (Below.refl _ _)).mono ?_
      rintro e w2 ⟨rfl, hb⟩
      have HB2 := Lib.hid (HB.out.trans (hb.mono HB.out.size)); clear hb
      go_wp2_with fail
      go_ret2
      exact ⟨rfl, HB2.out⟩

set_option maxHeartbeats 1000000 in
theorem commonSigns_none (a : Option Addr) (c : Nat) (w : World) :
    Calls Tryd.prog 37 #[.slice a 0 c] w fun e w' => e = .returned (.tuple #[.string ⟨#[]⟩, .bool false]) ∧ Below w.heap.size w w' := by
  go_enter Tryd.func37, Tryd.ntmps37
  go_wp2_with fail
  go_ret2
  exact ⟨rfl, Below.refl _ _⟩
set_option maxHeartbeats 1000000 in
theorem implSureWord_any (W S : List UInt8) (D : Int) (w : World) (hW : W.length ≤ maxLen) (hS : S.length ≤ maxLen) :
    Calls Tryd.prog 23 #[pzV W S D] w fun e w' => e = .returned (.tuple #[.string (bs (r0SureWord W S D)), .bool (r1SureWord W S D)]) ∧ Below w.heap.size w w' := by
  have H := Lib.hid (fun W0 => implSolutions_any W S D W0 hW hS)
  have hle := solL_le W S D
  have hlen : ∀ s ∈ solL200 W S D, s.length = W.length := fun s h => (sol_mem h).2.2.1
  have hW8 : ∀ s ∈ solL200 W S D, W.length ≤ 1000 := fun s h => by have := pzS_parts (pzB_parts (sol_mem h).1).1; omega
  unfold r0SureWord r1SureWord solL200 at *
  unfold SolOk at H
  generalize (solO W S D 200).getD [] = L at *
  generalize solO W S D 200 = o at *
  generalize hv : pzV W S D = v at *
  unfold pzV at hv
  subst hv
  cases L with
  | nil =>
    clear hlen hW8
    go_enter Tryd.func23, Tryd.ntmps23
    go_wp2_with fail
    refine (H.out _).mono ?_
    rintro e w1 ⟨a, c, rfl, _, hb, _⟩
    have HB := Lib.hid (below_trans (below_alloc _ _) hb); clear hb
    go_wp2_with fail
    refine (commonSigns_none _ _ _).mono ?_
    rintro e w2 ⟨rfl, hb⟩
    have HB2 := Lib.hid (HB.out.trans (hb.mono HB.out.size)); clear hb
    go_wp2_with fail
    go_ret2
    exact ⟨rfl, HB2.out⟩
  | cons x L =>
    have hn8 := hW8 x (by simp)
    obtain ⟨K, hK⟩ : ∃ K, K = x :: L := ⟨_, rfl⟩
    have he : (!(x :: L).isEmpty) = true := rfl
    rw [he, ← hK]
    rw [← hK] at hle hlen H
    have hKp : 1 ≤ K.length := by rw [hK]; simp
    have HL := Lib.hid hlen
    clear hW8 hK hlen he
    go_enter Tryd.func23, Tryd.ntmps23
    go_wp2_with fail
    refine (H.out _).mono ?_
    rintro e w1 ⟨a, c, rfl, hown, hb, _⟩
    obtain ⟨n, hn⟩ : ∃ n, n = K.length := ⟨_, rfl⟩
    rw [← hn] at hown ⊢
    have hn0 : 0 < n := by omega
    obtain ⟨g, rfl, hg, hcell⟩ := row_first hown hn hn0
    have HT := Lib.hid (txts_row hn hg hcell HL.out)
    have HC := Lib.hid (fun (w2 : World) (h : Below w1.heap.size w1 w2) => commonSigns_any K g n W.length c w2 hn (by omega) (by omega) hn8 (HT.out.below h))
    have HB := Lib.hid (below_trans (below_alloc _ _) hb); clear hb hown hcell hn
    go_wp2_with fail
    refine (HC.out _ (Below.refl _ _)).mono ?_
    rintro e w2 ⟨rfl, hb⟩
    have HB2 := Lib.hid (HB.out.trans (hb.mono HB.out.size)); clear hb
    go_wp2_with fail
    go_ret2
    exact ⟨rfl, HB2.out⟩
set_option maxHeartbeats 4000000 in
theorem law_SureWord (W S : List UInt8) (D : Int) (w : World) (hW : W.length ≤ maxLen) (hS : S.length ≤ maxLen) :
    Calls Tryd.prog 6 #[pzV W S D] w fun e w' => e = .returned (.bool true) ∧ Below w.heap.size w w' := by
  have hsz := fun (W0 : World) => szPuzzle_any W0 W S D hW hS
  obtain ⟨t, ht⟩ : ∃ t, t = bs W := ⟨_, rfl⟩
  obtain ⟨u, hu⟩ : ∃ u, u = bs S := ⟨_, rfl⟩
  by_cases hn : W.length + S.length ≤ 1048576
  · obtain ⟨m, hm⟩ : ∃ m : Nat, m = 1048576 - (W.length + S.length) := ⟨_, rfl⟩
    simp only [if_pos hn, ← hm] at hsz
    have hT := fun (W0 : World) => toPuzzle_any W0 W S D
    have hSP := fun (W0 : World) => specSureWord_any W S D W0 (by first | omega | (unfold maxLen; omega)) (by first | omega | (unfold maxLen; omega))
    have hIM := fun (W0 : World) => implSureWord_any W S D W0 (by first | omega | (unfold maxLen; omega)) (by first | omega | (unfold maxLen; omega))
    obtain ⟨r0, hr0⟩ : ∃ r, r = bs (r0SureWord W S D) := ⟨_, rfl⟩
    obtain ⟨r1, hr1⟩ : ∃ r, r = r1SureWord W S D := ⟨_, rfl⟩
    simp only [pzV, ← ht, ← hu, ← hr0, ← hr1] at hsz hT hSP hIM ⊢
    have HSZ := Lib.hid hsz; have HT := Lib.hid hT; have HSP := Lib.hid hSP; have HIM := Lib.hid hIM
    have e0 : (r0.toList != r0.toList) = false := by simp
    have e1 : (r1 != r1) = false := by simp
    clear hsz hT hSP hIM hm hn ht hu hW hS hr0 hr1
    go_enter Tryd.func6, Tryd.ntmps6
    go_wp2_with fail
    refine (HSZ.out _).mono ?_
    rintro e w1 ⟨rfl, hb⟩
    have hx1 := (threeAt_new w (.string t) (.string u) (.int .i64 D) 23).below hb
    have HB1 := Lib.hid (below_trans (below_alloc _ _) hb)
    obtain ⟨c0, c1, c2, _, _, _⟩ := hx1.cells
    have HX1 := Lib.hid hx1; clear hb hx1
    go_wp2_with fail
    refine (HT.out _).mono ?_
    rintro e w2 ⟨rfl, hb⟩
    have hx2 := HX1.out.below hb
    have HB2 := Lib.hid (below_trans HB1.out hb)
    obtain ⟨d0, d1, d2, _, _, _⟩ := hx2.cells
    have HX2 := Lib.hid hx2; clear hb hx2 c0 c1 c2
    go_wp2_with fail
    refine (HSP.out _).mono ?_
    rintro e w3 ⟨rfl, hb⟩
    have hx3 := HX2.out.below hb
    have HB3 := Lib.hid (below_trans HB2.out hb)
    obtain ⟨c0, c1, c2, _, _, _⟩ := hx3.cells
    clear hb hx3 d0 d1 d2
    go_wp2_with fail
    refine (HT.out _).mono ?_
    rintro e w4 ⟨rfl, hb⟩
    have HB4 := Lib.hid (below_trans HB3.out hb)
    clear hb c0 c1 c2
    go_wp2_with fail
    refine (HIM.out _).mono ?_
    rintro e w5 ⟨rfl, hb⟩
    have HB5 := Lib.hid (below_trans HB4.out hb)
    clear hb
    go_wp2_with fail
    go_ret
    exact ⟨rfl, HB5.out⟩
  · simp only [if_neg hn] at hsz
    simp only [pzV, ← ht, ← hu] at hsz ⊢
    have HSZ := Lib.hid hsz
    clear hsz ht hu
    go_enter Tryd.func6, Tryd.ntmps6
    go_wp2_with fail
    refine (HSZ.out _).mono ?_
    rintro e w1 ⟨rfl, hb⟩
    have HB := Lib.hid hb; clear hb
    go_wp2_with fail
    go_ret
    exact ⟨rfl, below_trans (below_alloc _ _) HB.out⟩
end Go.Proofs.YtplcdofpikdigaaDoor
