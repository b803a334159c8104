/- Chapter 7: the model's sentences. -/
import Derived.Test.YtampjipbemmicaaDoor7J
import Derived.Deep.QuietTactic
import Derived.BigQuiet
namespace Go.Proofs.YtampjipbemmicaaDoor
open Go.RowKit Go.BigFrame
set_option linter.unusedSimpArgs false
set_option linter.unusedVariables false
set_option maxRecDepth 4000

theorem abcd_at (k : Nat) (h : k < 4) : (⟨#[97, 98, 99, 100]⟩ : ByteArray).extract k (k + 1) = bs [ltr k] := by
  match k, h with
  | 0, _ => rfl
  | 1, _ => rfl
  | 2, _ => rfl
  | 3, _ => rfl

set_option maxHeartbeats 1000000 in
theorem snSentence_any (w : World) (u v : Value) (ns : List (List UInt8)) (fr : List UInt8) (xs : List Int) (h : ArgS w u ns) (ha : ArgL w v xs) (ht : toldB ns fr xs = true) :
    Calls Tryd.prog 56 #[.agg #[u, .string (bs fr)], v] w fun e w' => e = .returned (.string (bs (sentL ns fr xs))) ∧ Below w.heap.size w w' := by
  obtain ⟨p1, p2, p3, p4⟩ := toldB_parts ht
  obtain ⟨A, C, rfl, hC, hCm, hcell⟩ := h
  obtain ⟨A2, C2, rfl, hC2, hCm2, hcell2⟩ := ha
  obtain ⟨N, hN⟩ : ∃ N, N = ns.length := ⟨_, rfl⟩
  obtain ⟨M, hM⟩ : ∃ M, M = xs.length := ⟨_, rfl⟩
  have HN := Lib.hid hN; have HM := Lib.hid hM; have HC := Lib.hid hcell; have HC2 := Lib.hid hcell2; have HT := Lib.hid ht
  have hN10 : N ≤ 10 := by rw [hN]; exact (langB_parts p1).2.1
  rw [← hN] at hC ⊢
  rw [← hM] at hC2 p2 p3 ⊢
  clear hcell hcell2 hN hM p1 p4 ht
  go_enter Tryd.func56, Tryd.ntmps56
  go_wp2_with fail
  go_loopw [5, 12] (fun t i wr => ∃ k : Nat, i = .int .i64 (k : Int) ∧ k ≤ M ∧ t = .string (bs (sentK ns fr xs k)) ∧ Hid (BoxW w (.slice A N C) (.string (bs fr)) 27 wr)) (fun _ i _ => M - (intOf i).toNat)
  case atStart => exact ⟨0, rfl, Nat.zero_le _, rfl, boxW_new _ _ _ _⟩
  case round =>
    obtain ⟨k, rfl, hk, rfl, HX⟩ := hrel
    by_cases hlt : k < M
    · have hk' : k < xs.length := by rw [← HM.out]; exact hlt
      obtain ⟨n, e1, e2, e3, e4⟩ := told_at HT.out k hk'
      obtain ⟨b2, o2, rfl, hb2, hc2⟩ := HC2.out k hk'
      rw [e1] at hc2
      obtain ⟨b, o, rfl, hb, hc, _⟩ := HC.out n e2
      obtain ⟨x, hx⟩ : ∃ x, x = ns[n] := ⟨_, rfl⟩
      have hxd : ns.getD n [] = x := by rw [hx]; simp [List.getD, e2]
      rw [hxd] at e3 e4
      rw [← hx] at hc
      have hsl := sentK_len HT.out k (by omega)
      have hnext : sentK ns fr xs (k + 1) = sentK ns fr xs k ++ (x ++ [ltr k]) := by rw [sentK, e4]
      have hcw : wr.cell? ⟨b, o + n, none⟩ = some (.string (bs x)) := (HX.out.below.cell (p := ⟨b, o + n, none⟩) hb).trans hc
      have hcw2 : wr.cell? ⟨b2, o2 + k, none⟩ = some (.int .i64 (n : Int)) := (HX.out.below.cell (p := ⟨b2, o2 + k, none⟩) hb2).trans hc2
      have hnN : n < N := by rw [HN.out]; exact e2
      have HNX := Lib.hid hnext
      obtain ⟨c0, c1, _, _⟩ := HX.out.cells
      have hex := abcd_at k (by omega)
      have hs1 : (bs x).size = x.length := bs_size _
      have hs2 : (bs [ltr k]).size = 1 := bs_size _
      have hs3 : (bs (sentK ns fr xs k)).size = (sentK ns fr xs k).length := bs_size _
      clear hc hc2 hx hxd e1 e4 hnext
      obtain ⟨s, hs⟩ : ∃ s, s = sentK ns fr xs k := ⟨_, rfl⟩
      rw [← hs] at hs3 hsl HNX
      rw [← hs]
      clear hs
      go_wp2_with fail
      go_quiet (fail)
      go_wp2_with fail
      go_roundw
      case rel => exact ⟨k + 1, by go_num, by omega, by rw [HNX.out, ← bs_append, ← bs_append], HX.out.trans (belowN _ _ _)⟩
      case measure => simp [intOf] <;> omega
    · obtain rfl : k = M := by omega
      go_wp2_with fail
      go_ret
      exact ⟨ret_str (by unfold sentL; rw [HM.out]), HX.out.below⟩
end Go.Proofs.YtampjipbemmicaaDoor
