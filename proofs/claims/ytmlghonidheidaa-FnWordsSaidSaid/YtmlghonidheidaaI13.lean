/- What is heard: the program's HearWord. -/
import Derived.Test.YtmlghonidheidaaI12
import Derived.Test.YtmlghonidheidaaI1
namespace Go.Proofs.Ytmlghonidheidaa
open Go.RowKit Go.BigFrame
set_option linter.unusedSimpArgs false
set_option linter.unusedVariables false
set_option maxRecDepth 4000

theorem lit_one {w : World} {b : Nat} {v : Value} (h : w.cell? ⟨b, 0, none⟩ = some v) :
    ∀ j u, ([v] : List Value)[j]? = some u → w.cell? ((⟨b, 0, none⟩ : Addr).add j) = some u := by
  intro j u hj
  match j, hj with
  | 0, hj => simp at hj; subst hj; simpa [Addr.add] using h

set_option maxRecDepth 4000 in
set_option maxHeartbeats 4000000 in
theorem implHearWord_any (s : ByteArray) (w : World) (hs : s.size ≤ maxLen) :
    Calls Try.prog 29 #[.string s] w fun e w' => e = .returned (strOk (hearO s.data.toList)) ∧ Below w.heap.size w w' := by
  have hl : s.data.toList.length = s.size := by simp
  cases hg : goodL s.data.toList with
  | false =>
    have ho : hearO s.data.toList = none := by unfold hearO; rw [if_neg (by rw [hg]; simp)]
    have HG := Lib.hid hg; have HO := Lib.hid ho; clear hg ho hl
    go_enter Try.func29, Try.ntmps29
    go_wp2_with fail
    refine (implIsWord_any s w hs).mono ?_
    rintro e w1 ⟨rfl, rfl⟩
    rw [HG.out]
    go_wp2_with fail
    go_ret2
    exact ⟨by rw [HO.out]; rfl, Below.refl _ _⟩
  | true =>
    obtain ⟨h1, h2, h3⟩ := goodL_parts hg
    by_cases hev : s.size % 2 = 0
    · obtain ⟨N, hN⟩ : ∃ N, s.size = 2 * N := ⟨s.size / 2, by omega⟩
      obtain ⟨i0, hi, hz0, hz1, hz2⟩ := info_parts info_ints
      have ho : hearO s.data.toList = wordO (rowsH s.data.toList) := by unfold hearO; rw [if_pos ⟨hg, by rw [hl]; exact hev⟩]
      have hlen : (rowsH s.data.toList).length = N := by rw [rowsH_len, hl]; omega
      have hev2 : ((s.size : Int) % 2) = 0 := by omega
      have hev3 : ((s.size : Int).tmod 2) = 0 := by rw [Int.tmod_eq_emod_of_nonneg (by omega)]; omega
      have hdv : ((s.size : Int) / 2) = (N : Int) := by omega
      have hdv2 : ((s.size : Int).tdiv 2) = (N : Int) := by rw [Int.tdiv_eq_ediv_of_nonneg (by omega)]; omega
      have hN2 : N ≤ 200 := by omega
      have HG := Lib.hid hg; have HD := Lib.hid h3; have HO := Lib.hid ho; have HLEN := Lib.hid hlen; have HN := Lib.hid hN
      clear hg h3 ho hl hlen hev hN
      go_enter Try.func29, Try.ntmps29
      go_wp2_with fail
      refine (implIsWord_any s w hs).mono ?_
      rintro e w1 ⟨rfl, rfl⟩
      rw [HG.out]
      go_wp2_with (refine wpList_make_own _ rfl _ _ 27 rfl w.heap.size 37 i0 (.slice none 0 0) 1 Try.underlying27 hi hz0 hz1 .i64 .i64 (N : Int) N rfl rfl rfl (by rw [hz2]; omega) (by unfold maxLen; omega) (Nat.le_refl _) ?_; intro w3 hown hgr)
      have hb3 := (Below.refl w.heap.size w).grown hgr (Nat.le_refl _) (fun k h => by cases h)
      have HO3 : Hid (OwnsRR w3 w.heap.size 37 3 (.slice (some ⟨w.heap.size, 0, none⟩) 0 N) [] []) :=
        ⟨hown, rfl, fun i u xs h => by simp at h, fun i j u u' _ h => by simp at h, fun i u h => by simp at h⟩
      have HB3 := Lib.hid hb3
      clear hown hgr hb3
      go_wp2_with fail
      go_loopw [4, 5] (fun v i wr => ∃ (j k : Nat), Hid (j = 2 * k) ∧ k ≤ N ∧ i = .int .i64 (j : Int) ∧ (∃ vs, Hid (IntsRR wr w.heap.size v vs ((rowsH s.data.toList).take k))) ∧ Hid (Below w.heap.size w wr)) (fun _ i _ => s.size - (intOf i).toNat)
      case atStart => exact ⟨0, 0, rfl, Nat.zero_le _, rfl, ⟨[], HO3.out⟩, HB3.out⟩
      case round =>
        obtain ⟨j, k, HJ, hk, rfl, ⟨vs, HX⟩, HW⟩ := hrel
        have hszr : w.heap.size ≤ wr.heap.size := HW.out.size
        by_cases hlt : j + 1 < s.size
        · have hlt2 : k < (rowsH s.data.toList).length := by rw [HLEN.out]; have := HN.out; have := HJ.out; omega
          have hk1 : k + 1 ≤ N := by rw [HLEN.out] at hlt2; exact hlt2
          have hj1 : j < s.size := Nat.lt_of_succ_lt hlt
          have hvl : vs.length ≤ 400 := by rw [← HX.out.len]; simp; omega
          have hrow : (rowsH s.data.toList).take (k + 1) = (rowsH s.data.toList).take k ++ [[((s[j + 1]).toNat : Int) - 48, ((s[j]'hj1).toNat : Int) - 48]] := by
            rw [List.take_succ_eq_append_getElem hlt2, rowsH_at s j k HJ.out hlt]
          have HRW := Lib.hid hrow
          clear hrow hlt2
          obtain ⟨a1, a2⟩ := dig_at s HD.out (j + 1) hlt
          obtain ⟨b1, b2⟩ := dig_at s HD.out j hj1
          have g3 : (0 : Int) ≤ (j : Int) + 1 := by omega
          have g5 : IntKind.i64.wrap ((j : Int) + 1) = (j : Int) + 1 := IntWalk.i64_in _ (by omega)
          have g6 : IntKind.i64.wrap ((j : Int) + 2) = (j : Int) + 2 := IntWalk.i64_in _ (by omega)
          have t3 : ((j : Int) + 1).toNat = j + 1 := by omega
          have i2 : (j : Int) < (s.size : Int) := by omega
          have i3 : (j : Int) + 1 < (s.size : Int) := by omega
          go_wp2_with fail
          go_region_law (first
            | (go_simp; go_at_call 40; refine (digitOf_is _ _ (by omega) (by omega)).mono ?_; rintro e w' ⟨rfl, rfl⟩)
            | (refine step_app rfl (.tmp 25) (.tmp 36) 27 rfl w.heap.size 37 i0 (.slice none 0 0) 24 Try.underlying27 hi hz0 hz1 hz2 rfl _ vs.length vs (by simp [Act.eval, Act.put]) (own_below HX.out.outer (below_trans (below_trans (below_alloc _ _) (below_alloc _ _)) (below_drew _))) ⟨wr.heap.size + 1, 0, none⟩ 1 1 [.slice (some ⟨wr.heap.size, 0, none⟩) 2 2] (by simp [Act.eval, Act.put]) rfl (lit_one (by simp [go_sem])) (fun u hu => by simp at hu; subst hu; rfl) (by unfold maxLen; omega) (by omega) (by simp [go_sem]; omega) ?_; intro v4 w4 hown4 hg4 hw4; have R1 := Lib.hid (ownsRR_push (ownsRR_below HX.out (below_drew wr)) [.int .i64 ((s[j + 1].toNat : Int) - 48), .int .i64 ((s[j].toNat : Int) - 48)] (by simp [maxLen]) hszr hown4 hg4 (by decide)); have R2 := Lib.hid (((HW.out.drew.alloc hszr _).alloc (by simp [go_sem]; omega) _).grown hg4 (by simp [go_sem]; omega) (fun g hg => (HX.out.outer.lt g hg).1)); clear hown4 hg4 hw4))
          all_goals
            go_wp2_with fail
            go_roundw
            case rel => exact ⟨j + 2, k + 1, by have := HJ.out; show j + 2 = 2 * (k + 1); omega, hk1, by go_num, ⟨_, by unfold IntsRR; rw [HRW.out, List.map_append]; exact R1.out⟩, R2.out⟩
            case measure => simp [intOf] <;> omega
        · obtain rfl : j = s.size := by have := HN.out; have := HJ.out; omega
          obtain rfl : k = N := by have := HN.out; have := HJ.out; omega
          have hx := HX.out
          rw [List.take_of_length_le (by rw [HLEN.out]; exact Nat.le_refl _)] at hx
          have hcall := implWordOfRuns_any wr w.heap.size _ vs _ hx
          rw [← HO.out] at hcall
          cases ho : hearO s.data.toList
          all_goals
            rw [ho] at hcall
            have HCALL := Lib.hid hcall; have HHO := Lib.hid ho; clear hcall ho hx
            go_wp2_with fail
            refine HCALL.out.mono ?_
            rintro e w5 ⟨rfl, hb5⟩
            have HB5 := Lib.hid hb5; clear hb5
            unfold strOk
            go_wp2_with fail
            go_ret2
            exact ⟨by rw [HHO.out]; rfl, HW.out.trans (HB5.out.mono HW.out.size)⟩
    · have ho : hearO s.data.toList = none := by unfold hearO; rw [if_neg (fun h => hev (by rw [← hl]; exact h.2))]
      have hev2 : ((s.size : Int) % 2) = 1 := by omega
      have hev3 : ((s.size : Int).tmod 2) = 1 := by rw [Int.tmod_eq_emod_of_nonneg (by omega)]; omega
      have HG := Lib.hid hg; have HO := Lib.hid ho; clear hg ho hl hev h3
      go_enter Try.func29, Try.ntmps29
      go_wp2_with fail
      refine (implIsWord_any s w hs).mono ?_
      rintro e w1 ⟨rfl, rfl⟩
      rw [HG.out]
      go_wp2_with fail
      go_ret2
      exact ⟨by rw [HO.out]; rfl, Below.refl _ _⟩
end Go.Proofs.Ytmlghonidheidaa
