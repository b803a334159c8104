/- WordOfLengths: the program's, the law. -/
import Derived.Test.YthbjaclobllkhaaD6
import Derived.Test.YthbjaclobllkhaaI1
namespace Go.Proofs.Ythbjaclobllkhaa
open Go.RowKit Go.BigFrame
set_option linter.unusedSimpArgs false
set_option linter.unusedVariables false
set_option maxRecDepth 4000

theorem lit_oneW {w : World} {b : Nat} {v : Value} (h : w.cell? ⟨b, 0, none⟩ = some v) :
    ∀ j u, ([v] : List Value)[j]? = some u → w.cell? ((⟨b, 0, none⟩ : Addr).add j) = some u := by
  intro j u hj
  match j, hj with
  | 0, hj => simp at hj; subst hj; simpa [Addr.add] using h
set_option maxHeartbeats 1000000 in
theorem implWordOfLengths_any (s : ByteArray) (a b : Int) (w : World) (hs : s.size ≤ maxLen) :
    Calls Try.prog 21 #[.string s, .int .i64 a, .int .i64 b] w fun e w' => e = .returned (strOk (wlO s.data.toList a b)) ∧ Below w.heap.size w w' := by
  cases hg : goodL s.data.toList with
  | false =>
    have E : wlO s.data.toList a b = none := by unfold wlO; rw [if_neg (fun h => by rw [hg] at h; cases h.1)]
    rw [E]
    have HG := Lib.hid hg; clear hg E
    go_enter Try.func21, Try.ntmps21
    go_wp2_with fail
    refine (implIsWord_any s w hs).mono ?_
    rintro e w1 ⟨rfl, rfl⟩
    rw [HG.out]
    go_wp2_with fail
    go_ret2
    exact ⟨rfl, Below.refl _ _⟩
  | true =>
    obtain ⟨h1, h2, h3⟩ := goodL_parts hg
    cases ht : twoD a b with
    | false =>
      have E : wlO s.data.toList a b = none := by unfold wlO; rw [if_neg (fun h => by rw [ht] at h; cases h.2.1)]
      rw [E]
      have HG := Lib.hid hg; have HT := Lib.hid ht; clear hg ht E
      go_enter Try.func21, Try.ntmps21
      go_wp2_with fail
      refine (implIsWord_any s w hs).mono ?_
      rintro e w1 ⟨rfl, rfl⟩
      rw [HG.out]
      go_wp2_with fail
      refine (areTwoD_is _ _ _).mono ?_
      rintro e w1 ⟨rfl, rfl⟩
      rw [HT.out]
      go_wp2_with fail
      go_ret2
      exact ⟨rfl, Below.refl _ _⟩
    | true =>
      obtain ⟨ha, hb, hab⟩ := twoD_iff.1 ht
      obtain ⟨i0, hi, hz0, hz1, hz2⟩ := info_parts info_ints
      have hz : s.data.toList.length = s.size := by simp
      have hwl := wl_word hg ht
      rw [hz] at hwl
      have hbl := fun k (h : k < s.size) => byte_len s k h h3
      have hrs : ∀ k, rowsW s.data.toList a b (k + 1) = rowsW s.data.toList a b k ++ [[alt a b k, (lenN s.data.toList k : Int)]] := rowsW_succ _ _ _
      have hr0 : rowsW s.data.toList a b 0 = [] := rfl
      have hrl : ∀ k, (rowsW s.data.toList a b k).length = k := fun k => by simp [rowsW]
      have hln := fun k (h : k < s.size) => dig_len h3 k (by omega)
      obtain ⟨R, hR⟩ : ∃ R, R = wlO s.data.toList a b := ⟨_, rfl⟩
      rw [← hR] at hwl ⊢
      generalize rowsW s.data.toList a b = F at *
      generalize lenN s.data.toList = L at *
      have HG := Lib.hid hg; have HT := Lib.hid ht; have HBL := Lib.hid hbl; have HRS := Lib.hid hrs; have HR0 := Lib.hid hr0; have HRL := Lib.hid hrl; have HLN := Lib.hid hln; have HWL := Lib.hid hwl
      have HAB := Lib.hid hab
      clear hg ht hbl hrs hr0 hrl hln hwl hz h3 hR hab
      go_enter Try.func21, Try.ntmps21
      go_wp2_with fail
      refine (implIsWord_any s w hs).mono ?_
      rintro e w1 ⟨rfl, rfl⟩
      rw [HG.out]
      go_wp2_with fail
      refine (areTwoD_is _ _ _).mono ?_
      rintro e w1 ⟨rfl, rfl⟩
      rw [HT.out]
      go_wp2_with (refine wpList_make_own _ rfl _ _ 65 rfl w.heap.size 47 i0 (.slice none 0 0) 1 Try.underlying65 hi hz0 hz1 .i64 .i64 (s.size : Int) s.size rfl rfl rfl (by rw [hz2]; omega) (by unfold maxLen; omega) (Nat.le_refl _) ?_; intro w3 hown hgr)
      have hb3 := (Below.refl w.heap.size w).grown hgr (Nat.le_refl _) (fun k h => by cases h)
      have HO3 : Hid (OwnsRR w3 w.heap.size 47 3 (.slice (some ⟨w.heap.size, 0, none⟩) 0 s.size) [] []) :=
        ⟨hown, rfl, fun i u xs h => by simp at h, fun i j u u' _ h => by simp at h, fun i u h => by simp at h⟩
      have HB3 := Lib.hid hb3
      clear hown hgr hb3
      go_wp2_with fail
      go_loopw [1, 2, 8, 24] (fun av bv v i wr => ∃ (k : Nat) (x y : Int), k ≤ s.size ∧ i = .int .i64 (k : Int) ∧ av = .int .i64 x ∧ bv = .int .i64 y ∧ Hid (x = alt a b k ∧ y = alt b a k) ∧ (∃ vs, Hid (IntsRR wr w.heap.size v vs (F k))) ∧ Hid (Below w.heap.size w wr)) (fun _ _ _ i _ => s.size - (intOf i).toNat)
      case atStart => exact ⟨0, a, b, Nat.zero_le _, rfl, rfl, rfl, ⟨rfl, rfl⟩, ⟨[], by rw [HR0.out]; exact HO3.out⟩, HB3.out⟩
      case round =>
        obtain ⟨k, x, y, hk, rfl, rfl, rfl, HXY, ⟨vs, HX⟩, HW⟩ := hrel
        have hszr : w.heap.size ≤ wr.heap.size := HW.out.size
        by_cases hlt : k < s.size
        · obtain ⟨hb1, hb2, hb4⟩ := HBL.out k hlt
          have hvl : vs.length ≤ 400 := by rw [← HX.out.len, List.length_map, HRL.out]; omega
          have hfk := HRS.out k
          obtain ⟨m, hm⟩ : ∃ m, m = L k := ⟨_, rfl⟩
          rw [← hm] at hb1 hfk
          have HFK := Lib.hid hfk
          clear hm hfk
          go_wp2_with (first
            | (go_at_call 37; refine (digitOf_is _ _ (by omega) (by omega)).mono ?_; rintro e w' ⟨rfl, rfl⟩)
            | (at_builtin; refine wpList_app _ rfl (.tmp 27) (.tmp 34) 65 rfl w.heap.size 47 i0 (.slice none 0 0) 24 Try.underlying65 hi hz0 hz1 hz2 rfl _ vs.length vs rfl (own_below HX.out.outer (below_trans (below_alloc _ _) (below_alloc _ _))) ⟨wr.heap.size + 1, 0, none⟩ 1 1 [.slice (some ⟨wr.heap.size, 0, none⟩) 2 2] rfl rfl (lit_oneW (by simp [go_sem])) (fun u hu => by simp at hu; subst hu; rfl) (by unfold maxLen; omega) (by omega) (by simp [go_sem]; omega) ?_; intro v4 w4 hown4 hg4 hw4;
               have R1 := Lib.hid (ownsRR_push HX.out [.int .i64 x, .int .i64 (m : Int)] (by simp [maxLen]) hszr hown4 hg4 (by decide));
               have R2 := Lib.hid (((HW.out.alloc hszr _).alloc (by simp [go_sem]; omega) _).grown hg4 (by simp [go_sem]; omega) (fun g hg => (HX.out.outer.lt g hg).1)); clear hown4 hg4 hw4))
          go_roundw
          case rel =>
            refine ⟨k + 1, y, x, by omega, by go_num, rfl, rfl, ⟨by rw [HXY.out.2, alt_swap], by rw [HXY.out.1, ← alt_swap b a]⟩, ⟨_, by unfold IntsRR; rw [HFK.out, List.map_append, ← HXY.out.1]; exact R1.out⟩, R2.out⟩
          case measure => simp [intOf] <;> omega
        · obtain rfl : k = s.size := by omega
          have hcall := implWordOfRuns_any wr w.heap.size _ vs _ HX.out
          rw [HWL.out] at hcall
          cases ho : R
          all_goals
            rw [ho] at hcall
            have HCALL := Lib.hid hcall; have HHO := Lib.hid ho; clear hcall ho
            go_wp2_with fail
            refine HCALL.out.mono ?_
            rintro e w5 ⟨rfl, hb5⟩
            have HB5 := Lib.hid hb5; clear hb5
            unfold strOk
            go_wp2_with fail
            go_ret2
            exact ⟨by rw [HHO.out]; rfl, HW.out.trans (HB5.out.mono HW.out.size)⟩
end Go.Proofs.Ythbjaclobllkhaa
