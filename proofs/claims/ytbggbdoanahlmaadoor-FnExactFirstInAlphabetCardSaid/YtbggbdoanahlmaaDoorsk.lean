/- Chapter 8: the program's FirstInAlphabet and MostLetters; their laws. -/
import Derived.Test.YtbggbdoanahlmaaDoorsj
namespace Go.Proofs.YtbggbdoanahlmaaDoor
open Go.RowKit Go.BigFrame Go.Deep
set_option linter.unusedSimpArgs false
set_option linter.unusedVariables false
set_option maxRecDepth 4000

theorem numsI_has {n : Nat} {x : Nat} (h : x < n) : (x : Int) ∈ numsI n := by
  simp only [numsI, List.mem_map, List.mem_range]
  exact ⟨x, h, rfl⟩
/-- The head of what is sorted is the least one. -/
theorem head_least {lt lt' : Int → Int → Bool} {C : Nat} {S : List Int} (h1 : 1 ≤ C) (hS : Srt lt' S) (hp : S.Perm (numsI C)) (he : ∀ x y : Nat, x < C → y < C → lt' (x : Int) (y : Int) = lt (x : Int) (y : Int)) :
    ∃ m t, S = ((m : Nat) : Int) :: t ∧ Least lt C m := by
  cases S with
  | nil =>
    have := hp.length_eq
    rw [numsI_len] at this
    simp at this; omega
  | cons s t =>
    have hs := numsI_mem (hp.subset (List.mem_cons_self))
    obtain ⟨m, rfl⟩ := Int.eq_ofNat_of_zero_le hs.1
    refine ⟨m, t, rfl, by omega, fun x hx hne => ?_⟩
    have hin := hp.symm.subset (numsI_has hx)
    rcases List.mem_cons.1 hin with f | f
    · exact absurd (by omega) hne
    · rw [← he m x (by omega) hx]
      exact (List.pairwise_cons.1 hS).1 _ f
theorem keysAlph (C : Nat) (x y : Nat) (hx : x < C) (hy : y < C) : ltLex blB (fun x => (keysS C).getD x.toNat []) (x : Int) (y : Int) = ltAlph (x : Int) (y : Int) := by
  unfold ltAlph ltLex
  simp only [Int.toNat_natCast, keysS_get C x hx, keysS_get C y hy]
theorem keysMost (C : Nat) (x y : Nat) (hx : x < C) (hy : y < C) : ltLex ltI (fun x => (keysI C).getD x.toNat 0) (x : Int) (y : Int) = ltMost (x : Int) (y : Int) := by
  unfold ltMost ltLex
  simp only [Int.toNat_natCast, keysI_get C x hx, keysI_get C y hy]
theorem numsFirst {w : World} {nb C : Nat} {S : List Int} {m : Nat} {t : List Int} (h : RowB w nb S) (hS : S = ((m : Nat) : Int) :: t) : w.cell? ⟨nb, 0, none⟩ = some (.int .i64 (m : Int)) := by
  have := h.cell 0 (by rw [hS]; simp)
  rw [hS] at this
  exact this

set_option maxHeartbeats 2000000 in
theorem implFirstInAlphabet_any (n : Int) (w : World) (NA : NamesAt w) :
    Calls Tryd.prog 9 #[.int .i64 n] w fun e w' => AlphE n e ∧ Below w.heap.size w w' := by
  have HG := Lib.hid (fun W => canLook_is n W)
  cases hb : mlB n with
  | false =>
    rw [hb] at HG
    have HB0 := Lib.hid hb
    clear hb
    go_enter Tryd.func9, Tryd.ntmps9
    go_wp2_with fail
    refine (HG.out _).mono ?_
    rintro e w1 ⟨rfl, rfl⟩
    go_wp2_with fail
    go_ret2
    exact ⟨⟨0, by rw [HB0.out]; rfl, (fun h => by rw [HB0.out] at h; cases h), fun _ => rfl⟩, below_refl _⟩
  | true =>
    obtain ⟨N, rfl, hN⟩ := mlB_parts hb
    rw [hb] at HG
    have HNN : Hid ((N : Int).toNat = N) := Int.toNat_natCast N
    have HB0 := Lib.hid hb
    obtain ⟨C, hC⟩ : ∃ C, C = N + 1 := ⟨_, rfl⟩
    have HNB := Lib.hid (numbersByS_any N C hC hN w NA (fun k W hk h => spelledOut_any k W (by omega) h))
    have HC := Lib.hid hC
    have hC1 : 1 ≤ C := by omega
    have hC9 : C ≤ 2001 := by omega
    clear hb hC NA
    go_enter Tryd.func9, Tryd.ntmps9
    go_wp2_with fail
    refine (HG.out _).mono ?_
    rintro e w1 ⟨rfl, rfl⟩
    go_wp2_with fail
    refine HNB.out.mono ?_
    rintro e w2 ⟨nb, S, rfl, h1, h2, h3, h4⟩
    obtain ⟨m, t, hS, hL⟩ := head_least hC1 h1 h2 (keysAlph C)
    have hc := numsFirst (C := C) h3 hS
    have HL := Lib.hid hL; have HB := Lib.hid h4
    clear h1 h2 h3 h4 hS hL
    go_wp2_with fail
    go_ret2
    exact ⟨⟨m, by rw [HB0.out]; rfl, (fun _ => by rw [HNN.out, ← HC.out]; exact HL.out), fun h => by rw [HB0.out] at h; cases h⟩, HB.out⟩

set_option maxHeartbeats 1000000 in
theorem mostNeg_any (k : Nat) (w : World) (hk : k < 1000000) (NA : NamesAt w) :
    Calls Tryd.prog 16 #[.int .i64 (k : Int)] w fun e w' => e = .returned (.int .i64 (-((ltN k).length : Int))) ∧ Below w.heap.size w w' := by
  have HS := Lib.hid (spellingOf_any k w hk NA)
  have HL := Lib.hid (fun W => letters_any (cntA (ltN k)) W (cntA_len _) (by rw [cntA_sum _ (ltN_all k)]; have := ltN_len k hk; omega))
  rw [cntA_sum (ltN k) (ltN_all k)] at HL
  have hl := ltN_len k hk
  generalize (ltN k).length = R at *
  generalize aggT (cntA (ltN k)) = A at *
  clear hk NA
  go_enter Tryd.func16, Tryd.ntmps16
  go_wp2_with fail
  refine HS.out.mono ?_
  rintro e w1 ⟨rfl, hb⟩
  have HB := Lib.hid hb; clear hb
  go_wp2_with fail
  refine (HL.out _).mono ?_
  rintro e w2 ⟨rfl, hb⟩
  have HB2 := Lib.hid (below_trans HB.out hb); clear hb
  go_wp2_with fail
  go_ret
  exact ⟨rfl, HB2.out⟩
set_option maxHeartbeats 2000000 in
theorem implMostLetters_any (n : Int) (w : World) (NA : NamesAt w) :
    Calls Tryd.prog 7 #[.int .i64 n] w fun e w' => MostE n e ∧ Below w.heap.size w w' := by
  have HG := Lib.hid (fun W => canLook_is n W)
  cases hb : mlB n with
  | false =>
    rw [hb] at HG
    have HB0 := Lib.hid hb
    clear hb
    go_enter Tryd.func7, Tryd.ntmps7
    go_wp2_with fail
    refine (HG.out _).mono ?_
    rintro e w1 ⟨rfl, rfl⟩
    go_wp2_with fail
    go_ret3
    exact ⟨⟨0, 0, by rw [HB0.out]; rfl, (fun h => by rw [HB0.out] at h; cases h), fun _ => ⟨rfl, rfl⟩⟩, below_refl _⟩
  | true =>
    obtain ⟨N, rfl, hN⟩ := mlB_parts hb
    rw [hb] at HG
    have HNN : Hid ((N : Int).toNat = N) := Int.toNat_natCast N
    have HB0 := Lib.hid hb
    obtain ⟨C, hC⟩ : ∃ C, C = N + 1 := ⟨_, rfl⟩
    have HNB := Lib.hid (numbersByI_any N C hC hN w NA (fun k W hk h => mostNeg_any k W (by omega) h))
    have HC := Lib.hid hC
    have hC1 : 1 ≤ C := by omega
    have hC9 : C ≤ 2001 := by omega
    have HNA := Lib.hid NA
    have HSP := Lib.hid (fun (k : Nat) (W : World) (hk : k < 1000000) (h : NamesAt W) => spellingOf_any k W hk h)
    have HLT := Lib.hid (fun (k : Nat) (W : World) (hk : k < 1000000) => letters_any (cntA (ltN k)) W (cntA_len _) (by rw [cntA_sum _ (ltN_all k)]; have := ltN_len k hk; omega))
    clear hb hC NA
    go_enter Tryd.func7, Tryd.ntmps7
    go_wp2_with fail
    refine (HG.out _).mono ?_
    rintro e w1 ⟨rfl, rfl⟩
    go_wp2_with fail
    refine HNB.out.mono ?_
    rintro e w2 ⟨nb, S, rfl, h1, h2, h3, h4⟩
    obtain ⟨m, t, hS, hL⟩ := head_least hC1 h1 h2 (keysMost C)
    have hc := numsFirst (C := C) h3 hS
    have hm := hL.1
    have hS2 := HSP.out m w2 (by omega) (HNA.out.below h4)
    have hL2 := fun W => HLT.out m W (by omega)
    rw [cntA_sum (ltN m) (ltN_all m)] at hL2
    obtain ⟨R, hR⟩ : ∃ R, R = (ltN m).length := ⟨_, rfl⟩
    rw [← hR] at hL2
    generalize aggT (cntA (ltN m)) = A at *
    have HL := Lib.hid hL; have HB := Lib.hid h4; have HS2 := Lib.hid hS2; have HL2 := Lib.hid hL2; have HR := Lib.hid hR
    clear h1 h2 h3 h4 hS hL hS2 hL2 hR
    go_wp2_with fail
    refine HS2.out.mono ?_
    rintro e w3 ⟨rfl, hb⟩
    have HB3 := Lib.hid (below_trans HB.out hb); clear hb
    go_wp2_with fail
    refine (HL2.out _).mono ?_
    rintro e w4 ⟨rfl, hb⟩
    have HB4 := Lib.hid (below_trans HB3.out hb); clear hb
    go_wp2_with fail
    go_ret3
    exact ⟨⟨m, R, by rw [HB0.out]; rfl, (fun _ => by rw [HNN.out, ← HC.out]; exact ⟨HL.out, HR.out⟩), fun h => by rw [HB0.out] at h; cases h⟩, HB4.out⟩

set_option maxHeartbeats 1000000 in
theorem law_FirstInAlphabet (n : Int) (w : World) (NA : NamesAt w)  :
    Calls Tryd.prog 4 #[.int .i64 n] w fun e w' => e = .returned (.bool true) ∧ Below w.heap.size w w' := by
  have HS := Lib.hid (fun (W : World) => specFirstInAlphabet_any n W)
  have HI := Lib.hid (fun (W : World) (hW : Below w.heap.size w W) => implFirstInAlphabet_any n W (NA.below hW))
  clear NA
  go_enter Tryd.func4, Tryd.ntmps4
  go_wp2_with fail
  refine (HS.out _).mono ?_
  rintro e w1 ⟨⟨m1, rfl, ha, hz⟩, hb⟩
  have HB := Lib.hid hb; have HA1 := Lib.hid ha; have HZ1 := Lib.hid hz; clear hb ha hz
  have HU := Lib.hid (fun (m2 : Nat) (h2 : mlB n = true → Least ltAlph (n.toNat + 1) m2) (z2 : mlB n = false → m2 = 0) => (by
    cases hm : mlB n with
    | false => exact (HZ1.out hm).trans (z2 hm).symm
    | true => exact least_unique ordAlph (HA1.out hm) (h2 hm) : m1 = m2))
  obtain ⟨b, hbb⟩ : ∃ b, b = mlB n := ⟨_, rfl⟩
  have HI2 := Lib.hid (fun (W : World) (hW : Below w.heap.size w W) => (by
    refine (HI.out W hW).mono ?_
    rintro e w2 ⟨⟨m2, rfl, h2, z2⟩, hb2⟩
    rw [← HU.out m2 h2 z2, ← hbb]
    exact ⟨rfl, hb2⟩ : Calls Tryd.prog 9 #[.int .i64 n] W fun e w' => e = .returned (.tuple #[.int .i64 (m1 : Int), .bool b]) ∧ Below W.heap.size W w'))
  rw [← hbb]
  have e0 : ((m1 : Int) != (m1 : Int)) = false := by simp
  have e1 : (b != b) = false := by simp
  clear hbb
  go_wp2_with fail
  refine (HI2.out _ HB.out).mono ?_
  rintro e w2 ⟨rfl, hb⟩
  have HB2 := Lib.hid (below_trans HB.out hb); clear hb
  go_wp2_with fail
  go_ret
  exact ⟨rfl, HB2.out⟩
set_option maxHeartbeats 1000000 in
theorem law_MostLetters (n : Int) (w : World) (NA : NamesAt w)  :
    Calls Tryd.prog 3 #[.int .i64 n] w fun e w' => e = .returned (.bool true) ∧ Below w.heap.size w w' := by
  have HS := Lib.hid (fun (W : World) => specMostLetters_any n W)
  have HI := Lib.hid (fun (W : World) (hW : Below w.heap.size w W) => implMostLetters_any n W (NA.below hW))
  clear NA
  go_enter Tryd.func3, Tryd.ntmps3
  go_wp2_with fail
  refine (HS.out _).mono ?_
  rintro e w1 ⟨⟨m1, c1, rfl, ha, hz⟩, hb⟩
  have HB := Lib.hid hb; have HA1 := Lib.hid ha; have HZ1 := Lib.hid hz; clear hb ha hz
  have HU := Lib.hid (fun (m2 c2 : Nat) (h2 : mlB n = true → Least ltMost (n.toNat + 1) m2 ∧ c2 = (ltN m2).length) (z2 : mlB n = false → m2 = 0 ∧ c2 = 0) => (by
    cases hm : mlB n with
    | false => exact ⟨(HZ1.out hm).1.trans (z2 hm).1.symm, (HZ1.out hm).2.trans (z2 hm).2.symm⟩
    | true =>
      have e := least_unique ordMost (HA1.out hm).1 (h2 hm).1
      exact ⟨e, by rw [(HA1.out hm).2, (h2 hm).2, e]⟩ : m1 = m2 ∧ c1 = c2))
  obtain ⟨b, hbb⟩ : ∃ b, b = mlB n := ⟨_, rfl⟩
  have HI2 := Lib.hid (fun (W : World) (hW : Below w.heap.size w W) => (by
    refine (HI.out W hW).mono ?_
    rintro e w2 ⟨⟨m2, c2, rfl, h2, z2⟩, hb2⟩
    rw [← (HU.out m2 c2 h2 z2).1, ← (HU.out m2 c2 h2 z2).2, ← hbb]
    exact ⟨rfl, hb2⟩ : Calls Tryd.prog 7 #[.int .i64 n] W fun e w' => e = .returned (.tuple #[.int .i64 (m1 : Int), .int .i64 (c1 : Int), .bool b]) ∧ Below W.heap.size W w'))
  rw [← hbb]
  have e0 : ((m1 : Int) != (m1 : Int)) = false := by simp
  have e2 : ((c1 : Int) != (c1 : Int)) = false := by simp
  have e1 : (b != b) = false := by simp
  clear hbb
  go_wp2_with fail
  refine (HI2.out _ HB.out).mono ?_
  rintro e w2 ⟨rfl, hb⟩
  have HB2 := Lib.hid (below_trans HB.out hb); clear hb
  go_wp2_with fail
  go_ret
  exact ⟨rfl, HB2.out⟩
end Go.Proofs.YtbggbdoanahlmaaDoor
