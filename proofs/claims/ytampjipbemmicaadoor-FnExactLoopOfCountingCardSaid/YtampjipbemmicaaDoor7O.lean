/- Chapter 7: the program's told numbers and sentences. -/
import Derived.Test.YtampjipbemmicaaDoor7N
namespace Go.Proofs.YtampjipbemmicaaDoor
open Go.RowKit Go.BigFrame
set_option linter.unusedSimpArgs false
set_option linter.unusedVariables false
set_option maxRecDepth 4000

theorem abcd_byte (k : Nat) (h : k < 4) : ∀ hb : k < (⟨#[97, 98, 99, 100]⟩ : ByteArray).size, ((⟨#[97, 98, 99, 100]⟩ : ByteArray)[k]'hb).toNat = (ltr k).toNat := by
  match k, h with
  | 0, _ => intro _; rfl
  | 1, _ => intro _; rfl
  | 2, _ => intro _; rfl
  | 3, _ => intro _; rfl
theorem cell_new (w : World) (v : Value) (T : TypeId) : (w.alloc (.cells #[v] T)).cell? ⟨w.heap.size, 0, none⟩ = some v := by
  simp only [World.cell?, heap_alloc_new]; rfl
set_option maxHeartbeats 1000000 in
theorem canTell_any (w : World) (u v : Value) (ns : List (List UInt8)) (fr : List UInt8) (xs : List Int) (h : ArgS w u ns) (hf : fr.length ≤ 9223372036854775807) (ha : ArgL w v xs) :
    Calls Tryd.prog 57 #[.agg #[u, .string (bs fr)], v] w fun e w' => e = .returned (.bool (toldB ns fr xs)) ∧ Below w.heap.size w w' := by
  obtain ⟨G, hG⟩ : ∃ G, G = toldB ns fr xs := ⟨_, rfl⟩
  rw [← hG]
  rw [toldB_eq] at hG
  have HL := Lib.hid (fun (W : World) (hb : Below w.heap.size w W) => implIsLanguage_any W u ns fr (argS_below h hb) hf)
  obtain ⟨A, C, hu, hC, hCm, _⟩ := h
  obtain ⟨A2, C2, hv, hC2, hCm2, hcell2⟩ := ha
  obtain ⟨N, hN⟩ : ∃ N, N = ns.length := ⟨_, rfl⟩
  obtain ⟨M, hM⟩ : ∃ M, M = xs.length := ⟨_, rfl⟩
  rw [← hN] at hG hu hC; rw [← hM] at hG hv hC2
  subst hu; subst hv
  have HC2 := Lib.hid hcell2; have HM := Lib.hid hM
  have HG := Lib.hid hG; clear hG hN hM hcell2
  generalize langB ns fr = b1 at *
  cases b1 with
  | false =>
    have E : G = false := by rw [HG.out]; rfl
    subst E
    go_enter Tryd.func57, Tryd.ntmps57
    go_wp2_with fail
    refine (HL.out _ (below_alloc _ _)).mono ?_
    rintro e w1 ⟨rfl, hb⟩
    have HB := Lib.hid (below_trans (below_alloc _ _) hb); clear hb
    go_wp2_with fail
    go_ret
    exact ⟨rfl, HB.out⟩
  | true =>
    by_cases h2 : 1 ≤ M ∧ M ≤ 4
    · have E : G = xs.all (inB 0 ((N : Int) - 1)) := by rw [HG.out, decide_eq_true h2]; rfl
      have HE := Lib.hid E; clear E
      go_enter Tryd.func57, Tryd.ntmps57
      go_wp2_with fail
      refine (HL.out _ (below_alloc _ _)).mono ?_
      rintro e w1 ⟨rfl, hb⟩
      have hx1 := (twoAt_new w (.slice A N C) (.string (bs fr)) 27).below hb
      obtain ⟨c0, c1, _, _⟩ := hx1.cells
      have HB := Lib.hid (below_trans (below_alloc _ _) hb); clear hb hx1
      go_wp2_with fail
      refine (isWithin_is true _ _ _ _ (by simp; omega)).mono ?_
      rintro e w2 ⟨rfl, rfl⟩
      go_wp2_with fail
      go_loop [18] (fun i => ∃ k : Nat, i = .int .i64 (k : Int) ∧ k ≤ M ∧ Hid ((xs.take k).all (inB 0 ((N : Int) - 1)) = true)) (fun i => M - (intOf i).toNat)
      case atStart => exact ⟨0, rfl, Nat.zero_le _, rfl⟩
      case round =>
        obtain ⟨k, rfl, hk, HX⟩ := hrel
        by_cases hlt : k < M
        · have hk' : k < xs.length := by rw [← HM.out]; exact hlt
          obtain ⟨b2, o2, rfl, hb2, hc2⟩ := HC2.out k hk'
          have hs := allI_succ (inB 0 ((N : Int) - 1)) xs k hk'
          rw [HX.out, Bool.true_and] at hs
          obtain ⟨x, hx⟩ : ∃ x, x = xs[k] := ⟨_, rfl⟩
          rw [← hx] at hc2 hs
          have hw2 : w1.cell? ⟨b2, o2 + k, none⟩ = some (.int .i64 x) := (HB.out.cell (p := ⟨b2, o2 + k, none⟩) hb2).trans hc2
          obtain ⟨b, hb⟩ : ∃ b, b = decide ((0 : Int) ≤ x ∧ x ≤ (N : Int) - 1) := ⟨_, rfl⟩
          rw [show inB 0 ((N : Int) - 1) x = b from hb.symm] at hs
          have HS := Lib.hid hs; have HBB := Lib.hid hb; clear hs hx hb hc2
          go_wp2_with fail
          refine (isWithin_is b _ _ _ _ HBB.out.symm).mono ?_
          rintro e w2 ⟨rfl, rfl⟩
          cases b with
          | true =>
            go_wp2_with fail
            go_round
            case rel => exact ⟨k + 1, by go_num, by omega, HS.out⟩
            case measure => simp [intOf] <;> omega
          | false =>
            have hf := allI_false (inB 0 ((N : Int) - 1)) xs (k + 1) HS.out
            have HF := Lib.hid hf; clear hf
            go_wp2_with fail
            go_ret
            exact ⟨ret_bool (by rw [HE.out, HF.out]), HB.out⟩
        · obtain rfl : k = M := by omega
          have hf : xs.all (inB 0 ((N : Int) - 1)) = true := by have := HX.out; rw [List.take_of_length_le (by rw [← HM.out]; exact Nat.le_refl _)] at this; exact this
          have HF := Lib.hid hf; clear hf
          go_wp2_with fail
          go_ret
          exact ⟨ret_bool (by rw [HE.out, HF.out]), HB.out⟩
    · have E : G = false := by rw [HG.out, decide_eq_false h2]; rfl
      subst E
      go_enter Tryd.func57, Tryd.ntmps57
      go_wp2_with fail
      refine (HL.out _ (below_alloc _ _)).mono ?_
      rintro e w1 ⟨rfl, hb⟩
      have HB := Lib.hid (below_trans (below_alloc _ _) hb); clear hb
      go_wp2_with fail
      refine (isWithin_is false _ _ _ _ (by simp; omega)).mono ?_
      rintro e w2 ⟨rfl, rfl⟩
      go_wp2_with fail
      go_ret
      exact ⟨rfl, HB.out⟩

set_option maxHeartbeats 1000000 in
theorem sentenceText_any (w : World) (u v : Value) (ns : List (List UInt8)) (fr : List UInt8) (xs : List Int) (h : ArgS w u ns) (ha : ArgL w v xs) (ht : toldB ns fr xs = true) :
    Calls Tryd.prog 58 #[.agg #[u, .string (bs fr)], v] w fun e w' => e = .returned (.string (bs (sentL ns fr xs))) ∧ Below w.heap.size w w' := by
  obtain ⟨p1, p2, p3, p4⟩ := toldB_parts ht
  have hf20 := (langB_parts p1).2.2.1
  obtain ⟨A, C, rfl, hC, hCm, hcell⟩ := h
  obtain ⟨A2, C2, rfl, hC2, hCm2, hcell2⟩ := ha
  obtain ⟨N, hN⟩ : ∃ N, N = ns.length := ⟨_, rfl⟩
  obtain ⟨M, hM⟩ : ∃ M, M = xs.length := ⟨_, rfl⟩
  have HN := Lib.hid hN; have HM := Lib.hid hM; have HC := Lib.hid hcell; have HC2 := Lib.hid hcell2; have HT := Lib.hid ht
  have hN10 : N ≤ 10 := by rw [hN]; exact (langB_parts p1).2.1
  rw [← hN] at hC ⊢
  rw [← hM] at hC2 p2 p3 ⊢
  clear hcell hcell2 hN hM p1 p4 ht
  go_enter Tryd.func58, Tryd.ntmps58
  go_wp2_with (refine wpB_bytes _ rfl (.tmp 9) rfl fr rfl (by unfold maxLen; omega) ?_; intro v1 w1 hr1 hb1; simp only [World.size_alloc] at hr1; have HR := Lib.hid hr1; have HX0 := Lib.hid ((boxW_new w (.slice A N C) (.string (bs fr)) 27).trans hb1); clear hr1 hb1)
  go_loopw [5, 13] (fun t i wr => ∃ k : Nat, i = .int .i64 (k : Int) ∧ k ≤ M ∧ Hid (RowB wr (w.heap.size + 1) t (sentK ns fr xs k) ∧ BoxW w (.slice A N C) (.string (bs fr)) 27 wr)) (fun _ i _ => M - (intOf i).toNat)
  case atStart => exact ⟨0, rfl, Nat.zero_le _, HR.out, HX0.out⟩
  case round =>
    obtain ⟨k, rfl, hk, HX⟩ := hrel
    obtain ⟨S, hS⟩ : ∃ S, S = sentK ns fr xs k := ⟨_, rfl⟩
    have HSS := Lib.hid hS
    rw [← hS] at HX
    obtain ⟨g, cp, ev, _⟩ := HX.out.1
    subst ev
    by_cases hlt : k < M
    · have hk' : k < xs.length := by rw [← HM.out]; exact hlt
      obtain ⟨n, e1, e2, e3, e4⟩ := told_at HT.out k hk'
      obtain ⟨b2, o2, rfl, hb2, hc2⟩ := HC2.out k hk'
      rw [e1] at hc2
      obtain ⟨b, o, rfl, hb, hc, _⟩ := HC.out n e2
      obtain ⟨x, hx⟩ : ∃ x, x = ns[n] := ⟨_, rfl⟩
      have hxd : ns.getD n [] = x := by rw [hx]; simp [List.getD, e2]
      rw [hxd] at e3 e4
      rw [← hx] at hc
      have hsl := sentK_len HT.out k (by omega)
      have hnext : sentK ns fr xs (k + 1) = S ++ x ++ [ltr k] := by rw [sentK, e4, List.append_assoc, hS]
      rw [← hS] at hsl
      clear hS
      have hcw : wr.cell? ⟨b, o + n, none⟩ = some (.string (bs x)) := (HX.out.2.below.cell (p := ⟨b, o + n, none⟩) hb).trans hc
      have hcw2 : wr.cell? ⟨b2, o2 + k, none⟩ = some (.int .i64 (n : Int)) := (HX.out.2.below.cell (p := ⟨b2, o2 + k, none⟩) hb2).trans hc2
      have hnN : n < N := by rw [HN.out]; exact e2
      have HNX := Lib.hid hnext
      obtain ⟨c0, c1, _, _⟩ := HX.out.2.cells
      clear hc hc2 hx hxd e1 e4 hnext
      have habk := abcd_byte k (by omega)
      have hk4 : k < 4 := by omega
      have hkb : k < (⟨#[97, 98, 99, 100]⟩ : ByteArray).size := hk4
      go_wp2_with (first
        | (at_builtin; refine wpB_app _ rfl (.tmp 18) (.tmp 23) 9 rfl (w.heap.size + 1) _ S x rfl HX.out.1 _ rfl (src_text _ _) (by omega) HX.out.2.size ?_; intro v2 w2 hr2 hb2; obtain ⟨S2, hS2⟩ : ∃ S2, S2 = S ++ x := ⟨_, rfl⟩; rw [← hS2] at hr2; have HS2 := Lib.hid hS2; have hl2 : S2.length ≤ 64 := (by rw [hS2, List.length_append]; omega); clear hS2; obtain ⟨g2, cp2, ev2, _⟩ := id hr2; subst ev2; have HR2 := Lib.hid hr2; have HB2 := Lib.hid hb2; clear hr2 hb2)
        | (at_builtin; (refine wpB_app _ rfl (.tmp 25) (.tmp 28) 86 rfl (w.heap.size + 1) _ S2 [ltr k] rfl (HR2.out.below (below_alloc _ _)) _ rfl (src_one _ _ _ _ (by rw [cell_new])) (by simp only [List.length_singleton]; omega) (Nat.le_trans (Nat.le_trans HX.out.2.size HB2.out.size) (by simp)) ?_; intro v3 w3 hr3 hb3; obtain ⟨S3, hS3⟩ : ∃ S3, S3 = S2 ++ [ltr k] := ⟨_, rfl⟩; rw [← hS3] at hr3; have HS3 := Lib.hid hS3; clear hS3; obtain ⟨g3, cp3, ev3, _⟩ := id hr3; subst ev3; have HR3 := Lib.hid hr3; have HB3 := Lib.hid hb3; clear hr3 hb3)))
      go_roundw
      case rel => exact ⟨k + 1, by go_num, by omega, by rw [HNX.out, ← HS2.out, ← HS3.out]; exact HR3.out, ((Below.trans HX.out.2 HB2.out).alloc (Nat.le_trans HX.out.2.size HB2.out.size) _).trans HB3.out⟩
      case measure => simp [intOf] <;> omega
    · obtain rfl : k = M := by omega
      have hcv := convB HX.out.1
      clear hS
      go_wp2_with fail
      go_ret
      exact ⟨ret_str (by unfold sentL; rw [HSS.out, HM.out]), HX.out.2.below⟩
end Go.Proofs.YtampjipbemmicaaDoor
