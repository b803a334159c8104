/- Chapter 7: the model's told numbers, sentences, counts and lies. -/
import Derived.Test.YtampjipbemmicaaDoor7H
namespace Go.Proofs.YtampjipbemmicaaDoor
open Go.RowKit Go.BigFrame
set_option linter.unusedSimpArgs false
set_option linter.unusedVariables false
set_option maxRecDepth 4000

theorem argL_of {w : World} {B : Nat} {v : Value} {xs : List Int} (h : IntsA w B v xs) : ArgL w v xs := by
  rcases intsA_open h with ⟨rfl, rfl⟩ | ⟨g, cap, E, rest, rfl, hB, hg, _, hn, hcp, hcc, hce⟩
  · exact ⟨none, 0, rfl, Nat.le_refl _, by omega, fun c hc => by simp at hc⟩
  · exact ⟨some ⟨g, 0, none⟩, cap, rfl, hcc, hcp, fun c hc => ⟨g, 0, rfl, hg, by rw [Nat.zero_add]; exact hce c hc⟩⟩

set_option maxHeartbeats 1000000 in
theorem l1AllL_any (w : World) (u : Value) (xs : List Int) (lo hi : Int) (ha : ArgL w u xs) :
    Calls Tryd.prog 85 #[u, .int .i64 lo, .int .i64 hi] w fun e w' => e = .returned (.bool (xs.all (inB lo hi))) ∧ w = w' := by
  obtain ⟨A, C, rfl, hC, hCm, hce⟩ := ha
  have HC := Lib.hid hce
  obtain ⟨N, hN⟩ : ∃ N, N = xs.length := ⟨_, rfl⟩
  have HN := Lib.hid hN
  rw [← hN] at hC ⊢
  clear hce hN
  go_enter Tryd.func85, Tryd.ntmps85
  go_wp2_with fail
  go_loop [11] (fun i => ∃ k : Nat, i = .int .i64 k ∧ k ≤ N ∧ Hid ((xs.take k).all (inB lo hi) = true)) (fun i => N - (intOf i).toNat)
  case atStart => exact ⟨0, rfl, Nat.zero_le _, rfl⟩
  case round =>
    obtain ⟨k, rfl, hk, HX⟩ := hrel
    by_cases hlt : k < N
    · have hk' : k < xs.length := by rw [← HN.out]; exact hlt
      obtain ⟨b, o, rfl, hb, h2⟩ := HC.out k hk'
      have hs := allI_succ (inB lo hi) xs k hk'
      rw [HX.out, Bool.true_and] at hs
      obtain ⟨x, hx⟩ : ∃ x, x = xs[k] := ⟨_, rfl⟩
      rw [← hx] at h2 hs
      obtain ⟨b, hb⟩ : ∃ b, b = decide (lo ≤ x ∧ x ≤ hi) := ⟨_, rfl⟩
      rw [show inB lo hi x = b from hb.symm] at hs
      have HS := Lib.hid hs; have HB := Lib.hid hb; clear hs hx hb
      go_wp2_with fail
      refine (l1In_is b _ _ _ _ HB.out.symm).mono ?_
      rintro e w2 ⟨rfl, rfl⟩
      cases b with
      | true =>
        go_wp2_with fail
        go_round
        case rel => exact ⟨k + 1, by go_num, by omega, HS.out⟩
        case measure => simp [intOf] <;> omega
      | false =>
        have hf := allI_false (inB lo hi) xs (k + 1) HS.out
        have HF := Lib.hid hf; clear hf
        go_wp2_with fail
        go_ret
        exact ⟨by rw [HF.out]; rfl, rfl⟩
    · obtain rfl : k = N := by omega
      have hf : xs.all (inB lo hi) = true := by have := HX.out; rw [List.take_of_length_le (by rw [← HN.out]; exact Nat.le_refl _)] at this; exact this
      have HF := Lib.hid hf; clear hf
      go_wp2_with fail
      go_ret
      exact ⟨by rw [HF.out]; rfl, rfl⟩

theorem toldB_eq (ns : List (List UInt8)) (fr : List UInt8) (xs : List Int) : toldB ns fr xs = (langB ns fr && decide (1 ≤ xs.length ∧ xs.length ≤ 4) && xs.all (inB 0 ((ns.length : Int) - 1))) := rfl

set_option maxHeartbeats 1000000 in
theorem snTold_any (w : World) (u v : Value) (ns : List (List UInt8)) (fr : List UInt8) (xs : List Int) (h : ArgS w u ns) (hf : fr.length ≤ 9223372036854775807) (ha : ArgL w v xs) :
    Calls Tryd.prog 55 #[.agg #[u, .string (bs fr)], v] w fun e w' => e = .returned (.bool (toldB ns fr xs)) ∧ Below w.heap.size w w' := by
  obtain ⟨G, hG⟩ : ∃ G, G = toldB ns fr xs := ⟨_, rfl⟩
  rw [← hG]
  rw [toldB_eq] at hG
  have HL := Lib.hid (fun (W : World) (hb : Below w.heap.size w W) => snGood_any W u ns fr (argS_below h hb) hf)
  have HA := Lib.hid (fun (W : World) (hb : Below w.heap.size w W) (hi : Int) => l1AllL_any W v xs 0 hi (argL_below ha hb))
  obtain ⟨A, C, hu, hC, hCm, _⟩ := h
  obtain ⟨A2, C2, hv, hC2, hCm2, _⟩ := ha
  obtain ⟨N, hN⟩ : ∃ N, N = ns.length := ⟨_, rfl⟩
  obtain ⟨M, hM⟩ : ∃ M, M = xs.length := ⟨_, rfl⟩
  rw [← hN] at hG hu hC; rw [← hM] at hG hv hC2
  subst hu; subst hv
  have HG := Lib.hid hG; clear hG hN hM
  generalize langB ns fr = b1 at *
  cases b1 with
  | false =>
    have E : G = false := by rw [HG.out]; rfl
    subst E
    go_enter Tryd.func55, Tryd.ntmps55
    go_wp2_with fail
    refine (HL.out _ (below_alloc _ _)).mono ?_
    rintro e w1 ⟨rfl, hb⟩
    have HB := Lib.hid (below_trans (below_alloc _ _) hb); clear hb
    go_wp2_with fail
    go_ret
    exact ⟨rfl, HB.out⟩
  | true =>
    by_cases h2 : 1 ≤ M ∧ M ≤ 4
    · have E : G = xs.all (inB 0 ((N : Int) - 1)) := by rw [HG.out, decide_eq_true h2]; rfl
      have HE := Lib.hid E; clear E
      go_enter Tryd.func55, Tryd.ntmps55
      go_wp2_with fail
      refine (HL.out _ (below_alloc _ _)).mono ?_
      rintro e w1 ⟨rfl, hb⟩
      have hx1 := (twoAt_new w (.slice A N C) (.string (bs fr)) 27).below hb
      obtain ⟨c0, c1, _, _⟩ := hx1.cells
      have HB := Lib.hid (below_trans (below_alloc _ _) hb); clear hb hx1
      go_wp2_with fail
      refine (l1In_is true _ _ _ _ (by simp; omega)).mono ?_
      rintro e w2 ⟨rfl, rfl⟩
      go_wp2_with fail
      refine (HA.out _ HB.out _).mono ?_
      rintro e w2 ⟨rfl, rfl⟩
      rw [← HE.out]
      go_wp2_with fail
      go_ret
      exact ⟨rfl, HB.out⟩
    · have E : G = false := by rw [HG.out, decide_eq_false h2]; rfl
      subst E
      go_enter Tryd.func55, Tryd.ntmps55
      go_wp2_with fail
      refine (HL.out _ (below_alloc _ _)).mono ?_
      rintro e w1 ⟨rfl, hb⟩
      have HB := Lib.hid (below_trans (below_alloc _ _) hb); clear hb
      go_wp2_with fail
      refine (l1In_is false _ _ _ _ (by simp; omega)).mono ?_
      rintro e w2 ⟨rfl, rfl⟩
      go_wp2_with fail
      go_ret
      exact ⟨rfl, HB.out⟩
end Go.Proofs.YtampjipbemmicaaDoor
