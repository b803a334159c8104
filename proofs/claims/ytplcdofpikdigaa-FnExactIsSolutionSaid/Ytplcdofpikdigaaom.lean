/- Chapter 9: IsSolution on both sides; its law. -/
import Derived.Test.Ytplcdofpikdigaaob
import Derived.Test.Ytplcdofpikdigaao6
import Derived.Test.Ytplcdofpikdigaaq3
namespace Go.Proofs.Ytplcdofpikdigaa
open Go.RowKit Go.BigFrame
set_option linter.unusedSimpArgs false
set_option linter.unusedVariables false
set_option maxRecDepth 4000

def isG (W S : List UInt8) (D : Int) (l : List UInt8) : Bool := pzB W S D && goodL l
def isR (W S : List UInt8) (D : Int) (l : List UInt8) : Bool := isG W S D l && (decide (l.length = W.length) && solB W S D l)
set_option maxHeartbeats 1000000 in
theorem implIsSolution_any (W S : List UInt8) (D : Int) (l : List UInt8) (w : World) (hW : W.length ≤ maxLen) (hS : S.length ≤ maxLen) (hl : l.length ≤ maxLen) :
    Calls Try.prog 18 #[pzV W S D, .string (bs l)] w fun e w' => e = .returned (.tuple #[.bool (isR W S D l), .bool (isG W S D l)]) ∧ Below w.heap.size w w' := by
  have hI := fun W' => implIsPuzzle_any W S D W' hW hS
  have hWd := fun W' => implIsWord_any (bs l) W' (by rw [bs_size]; exact hl)
  rw [bs_list] at hWd
  obtain ⟨R, hR⟩ : ∃ R, R = isR W S D l := ⟨_, rfl⟩
  obtain ⟨G, hG⟩ : ∃ G, G = isG W S D l := ⟨_, rfl⟩
  rw [← hR, ← hG]
  unfold isR at hR
  rw [← hG] at hR
  unfold isG at hG
  obtain ⟨g1, hg1⟩ : ∃ g, g = pzB W S D := ⟨_, rfl⟩
  obtain ⟨g2, hg2⟩ : ∃ g, g = goodL l := ⟨_, rfl⟩
  rw [← hg1] at hI hG
  rw [← hg2] at hWd hG
  obtain ⟨t, ht⟩ : ∃ t, t = bs l := ⟨_, rfl⟩
  obtain ⟨u, hu⟩ : ∃ u, u = bs W := ⟨_, rfl⟩
  obtain ⟨v, hv⟩ : ∃ v, v = bs S := ⟨_, rfl⟩
  have htn : t.size = l.length := by rw [ht, bs_size]
  have hun : u.size = W.length := by rw [hu, bs_size]
  have hT : g1 = true → g2 = true → l.length = W.length → ∀ W0 : World, Calls Try.prog 38 #[.agg #[.string u, .string v, .int .i64 D], .string t] W0 fun e w' => (∃ k : Int, e = .returned (.tuple #[.int .i64 k, .bool (solB W S D l)])) ∧ Below W0.heap.size W0 w' := fun e1 e2 e3 W0 => by
    have hp := pzS_parts (pzB_parts (hg1.symm.trans e1)).1
    have hgd := goodL_parts (s := bs l) (by rw [bs_list]; exact hg2.symm.trans e2)
    rw [bs_list, bs_size] at hgd
    have h := tryWord_any l W S D W0 (by omega) (by omega) e3.symm (by omega) (by omega) (by first | exact hgd.2.2 | exact hgd.2.2.1 | exact hgd.1)
    rw [ht, hu, hv]
    refine h.mono ?_
    rintro e w' ⟨⟨k, _, h1, _⟩, h2⟩
    exact ⟨⟨k, h1⟩, h2⟩
  unfold pzV at hI ⊢
  rw [← hu, ← hv] at hI ⊢
  rw [← ht] at hWd ⊢
  have HI := Lib.hid hI; have HWD := Lib.hid hWd; have HT := Lib.hid hT
  clear hI hWd hT hg1 hg2 ht hu hv
  cases g1 with
  | false =>
    obtain rfl : G = false := by rw [hG]; rfl
    obtain rfl : R = false := by rw [hR]; rfl
    clear hG hR
    go_enter Try.func18, Try.ntmps18
    go_wp2_with fail
    refine (HI.out _).mono ?_
    rintro e w1 ⟨rfl, hb⟩
    have HB := Lib.hid (below_trans (below_alloc _ _) hb); clear hb
    go_wp2_with fail
    go_ret2
    exact ⟨rfl, HB.out⟩
  | true =>
    cases g2 with
    | false =>
      obtain rfl : G = false := by rw [hG]; rfl
      obtain rfl : R = false := by rw [hR]; rfl
      clear hG hR
      go_enter Try.func18, Try.ntmps18
      go_wp2_with fail
      refine (HI.out _).mono ?_
      rintro e w1 ⟨rfl, hb⟩
      have HB := Lib.hid (below_trans (below_alloc _ _) hb); clear hb
      go_wp2_with fail
      refine (HWD.out _).mono ?_
      rintro e w2 ⟨rfl, rfl⟩
      go_wp2_with fail
      go_ret2
      exact ⟨rfl, HB.out⟩
    | true =>
      obtain rfl : G = true := by rw [hG]; rfl
      clear hG
      by_cases hlen : l.length = W.length
      · obtain rfl : R = solB W S D l := by rw [hR]; simp [hlen]
        have HT2 := Lib.hid (HT.out rfl rfl hlen)
        generalize solB W S D l = R at *
        have hne : ((t.size : Int) != (u.size : Int)) = false := by simp; omega
        clear hR
        go_enter Try.func18, Try.ntmps18
        go_wp2_with fail
        refine (HI.out _).mono ?_
        rintro e w1 ⟨rfl, hb⟩
        have HX := Lib.hid ((threeAt_new w (.string u) (.string v) (.int .i64 D) 26).below hb)
        have HB := Lib.hid (below_trans (below_alloc _ _) hb); clear hb
        go_wp2_with fail
        refine (HWD.out _).mono ?_
        rintro e w2 ⟨rfl, rfl⟩
        obtain ⟨c0, c1, c2, _, _, _⟩ := HX.out.cells
        go_wp2_with fail
        refine (HT2.out _).mono ?_
        rintro e w2 ⟨⟨k, rfl⟩, hb⟩
        have HB2 := Lib.hid (below_trans HB.out hb); clear hb
        go_wp2_with fail
        go_ret2
        exact ⟨rfl, HB2.out⟩
      · obtain rfl : R = false := by rw [hR]; simp [hlen]
        have hne : ((t.size : Int) != (u.size : Int)) = true := by simp; omega
        clear hR
        go_enter Try.func18, Try.ntmps18
        go_wp2_with fail
        refine (HI.out _).mono ?_
        rintro e w1 ⟨rfl, hb⟩
        have HX := Lib.hid ((threeAt_new w (.string u) (.string v) (.int .i64 D) 26).below hb)
        have HB := Lib.hid (below_trans (below_alloc _ _) hb); clear hb
        go_wp2_with fail
        refine (HWD.out _).mono ?_
        rintro e w2 ⟨rfl, rfl⟩
        obtain ⟨c0, c1, c2, _, _, _⟩ := HX.out.cells
        go_wp2_with fail
        go_ret2
        exact ⟨rfl, HB.out⟩
set_option maxHeartbeats 1000000 in
theorem specIsSolution_any (W S : List UInt8) (D : Int) (l : List UInt8) (w : World) (hW : W.length ≤ maxLen) (hS : S.length ≤ maxLen) (hl : l.length ≤ maxLen) :
    Calls Try.prog 17 #[pzV W S D, .string (bs l)] w fun e w' => e = .returned (.tuple #[.bool (isR W S D l), .bool (isG W S D l)]) ∧ Below w.heap.size w w' := by
  have hI := fun W' => pzGood_any W S D W' hW hS
  have hWd := fun W' => woGood_any (bs l) W' (by rw [bs_size]; exact hl)
  rw [bs_list] at hWd
  obtain ⟨R, hR⟩ : ∃ R, R = isR W S D l := ⟨_, rfl⟩
  obtain ⟨G, hG⟩ : ∃ G, G = isG W S D l := ⟨_, rfl⟩
  rw [← hR, ← hG]
  unfold isR at hR
  rw [← hG] at hR
  unfold isG at hG
  obtain ⟨g1, hg1⟩ : ∃ g, g = pzB W S D := ⟨_, rfl⟩
  obtain ⟨g2, hg2⟩ : ∃ g, g = goodL l := ⟨_, rfl⟩
  rw [← hg1] at hI hG
  rw [← hg2] at hWd hG
  obtain ⟨t, ht⟩ : ∃ t, t = bs l := ⟨_, rfl⟩
  obtain ⟨u, hu⟩ : ∃ u, u = bs W := ⟨_, rfl⟩
  obtain ⟨v, hv⟩ : ∃ v, v = bs S := ⟨_, rfl⟩
  have htn : t.size = l.length := by rw [ht, bs_size]
  have hun : u.size = W.length := by rw [hu, bs_size]
  have hT : g1 = true → g2 = true → l.length = W.length → ∀ W0 : World, Calls Try.prog 36 #[.agg #[.string u, .string v, .int .i64 D], .string t] W0 fun e w' => e = .returned (.bool (solB W S D l)) ∧ Below W0.heap.size W0 w' := fun e1 e2 e3 W0 => by
    have hp := pzS_parts (pzB_parts (hg1.symm.trans e1)).1
    have hgd := goodL_parts (s := bs l) (by rw [bs_list]; exact hg2.symm.trans e2)
    rw [bs_list, bs_size] at hgd
    have h := pzIs_any l W S D W0 (by omega) (by omega) hW hS (by first | exact hgd.2.2 | exact hgd.2.2.1 | exact hgd.1)
    rw [ht, hu, hv]
    exact h
  unfold pzV at hI ⊢
  rw [← hu, ← hv] at hI ⊢
  rw [← ht] at hWd ⊢
  have HI := Lib.hid hI; have HWD := Lib.hid hWd; have HT := Lib.hid hT
  clear hI hWd hT hg1 hg2 ht hu hv
  cases g1 with
  | false =>
    obtain rfl : G = false := by rw [hG]; rfl
    obtain rfl : R = false := by rw [hR]; rfl
    clear hG hR
    go_enter Try.func17, Try.ntmps17
    go_wp2_with fail
    refine (HI.out _).mono ?_
    rintro e w1 ⟨rfl, hb⟩
    have HB := Lib.hid (below_trans (below_alloc _ _) hb); clear hb
    go_wp2_with fail
    go_ret2
    exact ⟨rfl, HB.out⟩
  | true =>
    cases g2 with
    | false =>
      obtain rfl : G = false := by rw [hG]; rfl
      obtain rfl : R = false := by rw [hR]; rfl
      clear hG hR
      go_enter Try.func17, Try.ntmps17
      go_wp2_with fail
      refine (HI.out _).mono ?_
      rintro e w1 ⟨rfl, hb⟩
      have HB := Lib.hid (below_trans (below_alloc _ _) hb); clear hb
      go_wp2_with fail
      refine (HWD.out _).mono ?_
      rintro e w2 ⟨rfl, rfl⟩
      go_wp2_with fail
      go_ret2
      exact ⟨rfl, HB.out⟩
    | true =>
      obtain rfl : G = true := by rw [hG]; rfl
      clear hG
      by_cases hlen : l.length = W.length
      · obtain rfl : R = solB W S D l := by rw [hR]; simp [hlen]
        have HT2 := Lib.hid (HT.out rfl rfl hlen)
        generalize solB W S D l = R at *
        have hne : ((t.size : Int) == (u.size : Int)) = true := by simp; omega
        clear hR
        go_enter Try.func17, Try.ntmps17
        go_wp2_with fail
        refine (HI.out _).mono ?_
        rintro e w1 ⟨rfl, hb⟩
        have HX := Lib.hid ((threeAt_new w (.string u) (.string v) (.int .i64 D) 26).below hb)
        have HB := Lib.hid (below_trans (below_alloc _ _) hb); clear hb
        go_wp2_with fail
        refine (HWD.out _).mono ?_
        rintro e w2 ⟨rfl, rfl⟩
        obtain ⟨c0, c1, c2, _, _, _⟩ := HX.out.cells
        go_wp2_with fail
        refine (HT2.out _).mono ?_
        rintro e w2 ⟨rfl, hb⟩
        have HB2 := Lib.hid (below_trans HB.out hb); clear hb
        go_wp2_with fail
        go_ret2
        exact ⟨rfl, HB2.out⟩
      · obtain rfl : R = false := by rw [hR]; simp [hlen]
        have hne : ((t.size : Int) == (u.size : Int)) = false := by simp; omega
        clear hR
        go_enter Try.func17, Try.ntmps17
        go_wp2_with fail
        refine (HI.out _).mono ?_
        rintro e w1 ⟨rfl, hb⟩
        have HX := Lib.hid ((threeAt_new w (.string u) (.string v) (.int .i64 D) 26).below hb)
        have HB := Lib.hid (below_trans (below_alloc _ _) hb); clear hb
        go_wp2_with fail
        refine (HWD.out _).mono ?_
        rintro e w2 ⟨rfl, rfl⟩
        obtain ⟨c0, c1, c2, _, _, _⟩ := HX.out.cells
        go_wp2_with fail
        go_ret2
        exact ⟨rfl, HB.out⟩

set_option maxHeartbeats 4000000 in
theorem law_IsSolution (W S : List UInt8) (D : Int) (l : List UInt8) (w : World) (hW : W.length ≤ maxLen) (hS : S.length ≤ maxLen) (hl : l.length ≤ maxLen) :
    Calls Try.prog 5 #[pzV W S D, .string (bs l)] w fun e w' => e = .returned (.bool true) ∧ Below w.heap.size w w' := by
  have hsz := fun (W0 : World) => szPuzzle_any W0 W S D hW hS
  obtain ⟨t, ht⟩ : ∃ t, t = bs W := ⟨_, rfl⟩
  obtain ⟨u, hu⟩ : ∃ u, u = bs S := ⟨_, rfl⟩
  obtain ⟨x, hx⟩ : ∃ x, x = bs l := ⟨_, rfl⟩
  have hxn : x.size = l.length := by rw [hx, bs_size]
  by_cases hlb : l.length ≤ 1048576
  · by_cases hn : W.length + S.length ≤ 1048576
    · obtain ⟨m, hm⟩ : ∃ m : Nat, m = 1048576 - (W.length + S.length) := ⟨_, rfl⟩
      simp only [if_pos hn, ← hm] at hsz
      have hT := fun (W0 : World) => toPuzzle_any W0 W S D
      have hSP := fun (W0 : World) => specIsSolution_any W S D l W0 hW hS hl
      have hIM := fun (W0 : World) => implIsSolution_any W S D l W0 hW hS hl
      obtain ⟨r0, hr0⟩ : ∃ r, r = isR W S D l := ⟨_, rfl⟩
      obtain ⟨r1, hr1⟩ : ∃ r, r = isG W S D l := ⟨_, rfl⟩
      simp only [pzV, ← ht, ← hu, ← hx, ← hr0, ← hr1] at hsz hT hSP hIM ⊢
      have HSZ := Lib.hid hsz; have HT := Lib.hid hT; have HSP := Lib.hid hSP; have HIM := Lib.hid hIM
      have e0 : (r0 != r0) = false := by simp
      have e1 : (r1 != r1) = false := by simp
      clear hsz hT hSP hIM hm hn ht hu hW hS hr0 hr1 hx
      go_enter Try.func5, Try.ntmps5
      go_wp2_with fail
      refine (HSZ.out _).mono ?_
      rintro e w1 ⟨rfl, hb⟩
      have hx1 := (threeAt_new w (.string t) (.string u) (.int .i64 D) 23).below hb
      have HB1 := Lib.hid (below_trans (below_alloc _ _) hb)
      obtain ⟨c0, c1, c2, _, _, _⟩ := hx1.cells
      have HX1 := Lib.hid hx1; clear hb hx1
      go_wp2_with fail
      refine (HT.out _).mono ?_
      rintro e w2 ⟨rfl, hb⟩
      have hx2 := HX1.out.below hb
      have HB2 := Lib.hid (below_trans HB1.out hb)
      obtain ⟨d0, d1, d2, _, _, _⟩ := hx2.cells
      have HX2 := Lib.hid hx2; clear hb hx2 c0 c1 c2
      go_wp2_with fail
      refine (HSP.out _).mono ?_
      rintro e w3 ⟨rfl, hb⟩
      have hx3 := HX2.out.below hb
      have HB3 := Lib.hid (below_trans HB2.out hb)
      obtain ⟨c0, c1, c2, _, _, _⟩ := hx3.cells
      clear hb hx3 d0 d1 d2
      go_wp2_with fail
      refine (HT.out _).mono ?_
      rintro e w4 ⟨rfl, hb⟩
      have HB4 := Lib.hid (below_trans HB3.out hb)
      clear hb c0 c1 c2
      go_wp2_with fail
      refine (HIM.out _).mono ?_
      rintro e w5 ⟨rfl, hb⟩
      have HB5 := Lib.hid (below_trans HB4.out hb)
      clear hb
      go_wp2_with fail
      go_ret
      exact ⟨rfl, HB5.out⟩
    · simp only [if_neg hn] at hsz
      simp only [pzV, ← ht, ← hu, ← hx] at hsz ⊢
      have HSZ := Lib.hid hsz
      clear hsz ht hu hx
      go_enter Try.func5, Try.ntmps5
      go_wp2_with fail
      refine (HSZ.out _).mono ?_
      rintro e w1 ⟨rfl, hb⟩
      have HB := Lib.hid hb; clear hb
      go_wp2_with fail
      go_ret
      exact ⟨rfl, below_trans (below_alloc _ _) HB.out⟩
  · have hbig : ¬ (x.size : Int) ≤ 1048576 := by omega
    have hbig2 : (1048576 : Int) < (x.size : Int) := by omega
    simp only [pzV, ← ht, ← hu, ← hx]
    clear hsz ht hu hx
    go_enter Try.func5, Try.ntmps5
    go_wp2_with fail
    go_ret
    exact ⟨rfl, below_alloc _ _⟩
theorem law_IsSolutionB (W S : List UInt8) (D : Int) (s : ByteArray) (w : World) (hW : W.length ≤ maxLen) (hS : S.length ≤ maxLen) (hs : s.size ≤ maxLen) :
    Calls Try.prog 5 #[pzV W S D, .string s] w fun e w' => e = .returned (.bool true) ∧ Below w.heap.size w w' := by
  have h := law_IsSolution W S D s.data.toList w hW hS (by simpa using hs)
  rwa [← (bs_eq rfl : s = bs s.data.toList)] at h
end Go.Proofs.Ytplcdofpikdigaa
