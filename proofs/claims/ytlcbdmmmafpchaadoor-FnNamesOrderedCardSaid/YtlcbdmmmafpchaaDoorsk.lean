/- Chapter 8: the program's FirstInAlphabet and MostLetters; their laws. -/
import Derived.Test.YtlcbdmmmafpchaaDoorsj
namespace Go.Proofs.YtlcbdmmmafpchaaDoor
open Go.RowKit Go.BigFrame Go.Deep
set_option linter.unusedSimpArgs false
set_option linter.unusedVariables false
set_option maxRecDepth 4000

/-- The head of what is sorted is the least one. -/
theorem head_least {lt lt' : Int → Int → Bool} {C : Nat} {S : List Int} (h1 : 1 ≤ C) (hS : Srt lt' S) (hp : S.Perm (numsI C)) (he : ∀ x y : Nat, x < C → y < C → lt' (x : Int) (y : Int) = lt (x : Int) (y : Int)) :
    ∃ m t, S = ((m : Nat) : Int) :: t ∧ Least lt C m := by
  cases S with
  | nil =>
    have := hp.length_eq
    rw [numsI_len] at this
    simp at this; omega
  | cons s t =>
    have hs := numsI_mem (hp.subset (List.mem_cons_self))
    obtain ⟨m, rfl⟩ := Int.eq_ofNat_of_zero_le hs.1
    refine ⟨m, t, rfl, by omega, fun x hx hne => ?_⟩
    have hin := hp.symm.subset (numsI_has hx)
    rcases List.mem_cons.1 hin with f | f
    · exact absurd (by omega) hne
    · rw [← he m x (by omega) hx]
      exact (List.pairwise_cons.1 hS).1 _ f
theorem keysMost (C : Nat) (x y : Nat) (hx : x < C) (hy : y < C) : ltLex ltI (fun x => (keysI C).getD x.toNat 0) (x : Int) (y : Int) = ltMost (x : Int) (y : Int) := by
  unfold ltMost ltLex
  simp only [Int.toNat_natCast, keysI_get C x hx, keysI_get C y hy]
theorem numsFirst {w : World} {nb C : Nat} {S : List Int} {m : Nat} {t : List Int} (h : RowB w nb S) (hS : S = ((m : Nat) : Int) :: t) : w.cell? ⟨nb, 0, none⟩ = some (.int .i64 (m : Int)) := by
  have := h.cell 0 (by rw [hS]; simp)
  rw [hS] at this
  exact this

set_option maxHeartbeats 2000000 in
theorem implFirstInAlphabet_any (n : Int) (w : World) (NA : NamesAt w) :
    Calls Tryd.prog 38 #[.int .i64 n] w fun e w' => AlphE n e ∧ Below w.heap.size w w' := by
  have HG := Lib.hid (fun W => canLook_is n W)
  cases hb : mlB n with
  | false =>
    rw [hb] at HG
    have HB0 := Lib.hid hb
    clear hb
    go_enter Tryd.func38, Tryd.ntmps38
    go_wp2_with fail
    refine (HG.out _).mono ?_
    rintro e w1 ⟨rfl, rfl⟩
    go_wp2_with fail
    go_ret2
    exact ⟨⟨0, by rw [HB0.out]; rfl, (fun h => by rw [HB0.out] at h; cases h), fun _ => rfl⟩, below_refl _⟩
  | true =>
    obtain ⟨N, rfl, hN⟩ := mlB_parts hb
    rw [hb] at HG
    have HNN : Hid ((N : Int).toNat = N) := Int.toNat_natCast N
    have HB0 := Lib.hid hb
    obtain ⟨C, hC⟩ : ∃ C, C = N + 1 := ⟨_, rfl⟩
    have HNB := Lib.hid (numbersByS_any N C hC hN w NA (fun k W hk h => spelledOut_any k W (by omega) h))
    have HC := Lib.hid hC
    have hC1 : 1 ≤ C := by omega
    have hC9 : C ≤ 2001 := by omega
    clear hb hC NA
    go_enter Tryd.func38, Tryd.ntmps38
    go_wp2_with fail
    refine (HG.out _).mono ?_
    rintro e w1 ⟨rfl, rfl⟩
    go_wp2_with fail
    refine HNB.out.mono ?_
    rintro e w2 ⟨nb, S, rfl, h1, h2, h3, h4⟩
    obtain ⟨m, t, hS, hL⟩ := head_least hC1 h1 h2 (keysAlph C)
    have hc := numsFirst (C := C) h3 hS
    have HL := Lib.hid hL; have HB := Lib.hid h4
    clear h1 h2 h3 h4 hS hL
    go_wp2_with fail
    go_ret2
    exact ⟨⟨m, by rw [HB0.out]; rfl, (fun _ => by rw [HNN.out, ← HC.out]; exact HL.out), fun h => by rw [HB0.out] at h; cases h⟩, HB.out⟩

set_option maxHeartbeats 1000000 in
theorem mostNeg_any (k : Nat) (w : World) (hk : k < 1000000) (NA : NamesAt w) :
    Calls Tryd.prog 85 #[.int .i64 (k : Int)] w fun e w' => e = .returned (.int .i64 (-((ltN k).length : Int))) ∧ Below w.heap.size w w' := by
  have HS := Lib.hid (spellingOf_any k w hk NA)
  have HL := Lib.hid (fun W => letters_any (cntA (ltN k)) W (cntA_len _) (by rw [cntA_sum _ (ltN_all k)]; have := ltN_len k hk; omega))
  rw [cntA_sum (ltN k) (ltN_all k)] at HL
  have hl := ltN_len k hk
  generalize (ltN k).length = R at *
  generalize aggT (cntA (ltN k)) = A at *
  clear hk NA
  go_enter Tryd.func85, Tryd.ntmps85
  go_wp2_with fail
  refine HS.out.mono ?_
  rintro e w1 ⟨rfl, hb⟩
  have HB := Lib.hid hb; clear hb
  go_wp2_with fail
  refine (HL.out _).mono ?_
  rintro e w2 ⟨rfl, hb⟩
  have HB2 := Lib.hid (below_trans HB.out hb); clear hb
  go_wp2_with fail
  go_ret
  exact ⟨rfl, HB2.out⟩
set_option maxHeartbeats 2000000 in
theorem implMostLetters_any (n : Int) (w : World) (NA : NamesAt w) :
    Calls Tryd.prog 45 #[.int .i64 n] w fun e w' => MostE n e ∧ Below w.heap.size w w' := by
  have HG := Lib.hid (fun W => canLook_is n W)
  cases hb : mlB n with
  | false =>
    rw [hb] at HG
    have HB0 := Lib.hid hb
    clear hb
    go_enter Tryd.func45, Tryd.ntmps45
    go_wp2_with fail
    refine (HG.out _).mono ?_
    rintro e w1 ⟨rfl, rfl⟩
    go_wp2_with fail
    go_ret3
    exact ⟨⟨0, 0, by rw [HB0.out]; rfl, (fun h => by rw [HB0.out] at h; cases h), fun _ => ⟨rfl, rfl⟩⟩, below_refl _⟩
  | true =>
    obtain ⟨N, rfl, hN⟩ := mlB_parts hb
    rw [hb] at HG
    have HNN : Hid ((N : Int).toNat = N) := Int.toNat_natCast N
    have HB0 := Lib.hid hb
    obtain ⟨C, hC⟩ : ∃ C, C = N + 1 := ⟨_, rfl⟩
    have HNB := Lib.hid (numbersByI_any N C hC hN w NA (fun k W hk h => mostNeg_any k W (by omega) h))
    have HC := Lib.hid hC
    have hC1 : 1 ≤ C := by omega
    have hC9 : C ≤ 2001 := by omega
    have HNA := Lib.hid NA
    have HSP := Lib.hid (fun (k : Nat) (W : World) (hk : k < 1000000) (h : NamesAt W) => spellingOf_any k W hk h)
    have HLT := Lib.hid (fun (k : Nat) (W : World) (hk : k < 1000000) => letters_any (cntA (ltN k)) W (cntA_len _) (by rw [cntA_sum _ (ltN_all k)]; have := ltN_len k hk; omega))
    clear hb hC NA
    go_enter Tryd.func45, Tryd.ntmps45
    go_wp2_with fail
    refine (HG.out _).mono ?_
    rintro e w1 ⟨rfl, rfl⟩
    go_wp2_with fail
    refine HNB.out.mono ?_
    rintro e w2 ⟨nb, S, rfl, h1, h2, h3, h4⟩
    obtain ⟨m, t, hS, hL⟩ := head_least hC1 h1 h2 (keysMost C)
    have hc := numsFirst (C := C) h3 hS
    have hm := hL.1
    have hS2 := HSP.out m w2 (by omega) (HNA.out.below h4)
    have hL2 := fun W => HLT.out m W (by omega)
    rw [cntA_sum (ltN m) (ltN_all m)] at hL2
    obtain ⟨R, hR⟩ : ∃ R, R = (ltN m).length := ⟨_, rfl⟩
    rw [← hR] at hL2
    generalize aggT (cntA (ltN m)) = A at *
    have HL := Lib.hid hL; have HB := Lib.hid h4; have HS2 := Lib.hid hS2; have HL2 := Lib.hid hL2; have HR := Lib.hid hR
    clear h1 h2 h3 h4 hS hL hS2 hL2 hR
    go_wp2_with fail
    refine HS2.out.mono ?_
    rintro e w3 ⟨rfl, hb⟩
    have HB3 := Lib.hid (below_trans HB.out hb); clear hb
    go_wp2_with fail
    refine (HL2.out _).mono ?_
    rintro e w4 ⟨rfl, hb⟩
    have HB4 := Lib.hid (below_trans HB3.out hb); clear hb
    go_wp2_with fail
    go_ret3
    exact ⟨⟨m, R, by rw [HB0.out]; rfl, (fun _ => by rw [HNN.out, ← HC.out]; exact ⟨HL.out, HR.out⟩), fun h => by rw [HB0.out] at h; cases h⟩, HB4.out⟩

end Go.Proofs.YtlcbdmmmafpchaaDoor
