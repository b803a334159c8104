/- OwnRun: pure, the model's. -/
import Derived.Test.YthbjaclobllkhaaO5
namespace Go.Proofs.Ythbjaclobllkhaa
open Go.RowKit Go.BigFrame Go.Shelf
set_option linter.unusedSimpArgs false
set_option linter.unusedVariables false
set_option maxRecDepth 4000

/-! ### Runs of the own word: as many as lengths that reach so far -/
/-- The length of a run is the digit with its index. -/
theorem gG_at (a b r : Nat) (ha : 1 ≤ a) (hb : 1 ≤ b) : (gG a b (r + 1))[r]? = some (gLen a b r) := by
  have hl := gG_len a b ha hb r
  have hp := gLen_pos a b r ha hb
  rw [gG_succ]
  by_cases h : r < (gG a b r).length
  · rw [List.getElem?_append_left h, List.getElem?_eq_getElem h]
    unfold gLen
    rw [List.getElem?_eq_getElem h]; rfl
  · have hr : (gG a b r).length = r := by omega
    rw [List.getElem?_append_right (by omega), hr, Nat.sub_self]
    have h0 : (gG a b r)[r]? = none := by rw [List.getElem?_eq_none_iff]; omega
    have e : gLen a b r = gD a b r := by unfold gLen; rw [h0]; rfl
    rw [List.getElem?_replicate, if_pos (by omega), e]
theorem gG_more (a b r k : Nat) (ha : 1 ≤ a) (hb : 1 ≤ b) (h : r < k) : (gG a b k)[r]? = some (gLen a b r) := by
  obtain ⟨j, rfl⟩ := Nat.le.dest (show r + 1 ≤ k by omega)
  obtain ⟨t, ht⟩ := gG_pre a b (r + 1) j
  rw [← ht]
  have := gG_at a b r ha hb
  rw [List.getElem?_append_left (List.getElem?_eq_some_iff.1 this).1]
  exact this
/-- The first digits together: the length of so many runs. -/
theorem gG_sum (a b : Nat) (ha : 1 ≤ a) (hb : 1 ≤ b) (n : Nat) : ∀ r, r ≤ n → ((gOwn a b n).take r).sum = (gG a b r).length
  | 0, _ => rfl
  | r + 1, h => by
    have hn := gOwn_len a b n ha hb
    have hx : (gOwn a b n)[r]? = some (gLen a b r) := by
      unfold gOwn
      rw [List.getElem?_take_of_lt (by omega)]
      exact gG_more a b r n ha hb (by omega)
    have hlt : r < (gOwn a b n).length := by omega
    rw [List.take_succ_eq_append_getElem hlt, List.sum_append, gG_sum a b ha hb n r (by omega), gG_succ, List.length_append, List.length_replicate]
    rw [List.getElem?_eq_getElem hlt] at hx
    rw [Option.some.inj hx]; simp
/-- The runs of the own word, one after another. -/
def gRuns (a b : Nat) : Nat → List (UInt8 × Nat)
  | 0 => []
  | r + 1 => gRuns a b r ++ [(sgn (gD a b r), gLen a b r)]
theorem gRuns_len (a b : Nat) : ∀ r, (gRuns a b r).length = r
  | 0 => rfl
  | r + 1 => by simp [gRuns, gRuns_len a b r]
theorem runs_rep (acc : List (UInt8 × Nat)) (c : UInt8) (hc : ∀ p, acc.getLast? = some p → p.1 ≠ c) : ∀ m, 1 ≤ m → (List.replicate m c).foldl stepRun acc = acc ++ [(c, m)]
  | 1, _ => by
    show stepRun acc c = _
    rcases list_cases_snoc acc with rfl | ⟨pre, ⟨d, n⟩, rfl⟩
    · rfl
    · have hd : d ≠ c := hc (d, n) (by simp)
      rw [stepRun_other _ _ _ _ hd]
  | m + 2, _ => by
    rw [List.replicate_succ', List.foldl_append, runs_rep acc c hc (m + 1) (by omega)]
    show stepRun (acc ++ [(c, m + 1)]) c = _
    rw [stepRun_same]
theorem gD_ne (a b r : Nat) (h : a ≠ b) : gD a b r ≠ gD a b (r + 1) := by
  unfold gD
  rcases Nat.mod_two_eq_zero_or_one r with e | e
  · rw [if_neg (by omega), if_pos (by omega)]; exact h
  · rw [if_pos e, if_neg (by omega)]; exact fun e => h e.symm
theorem sgn_ne {x y : Nat} (hx : x ≤ 9) (hy : y ≤ 9) (h : x ≠ y) : sgn x ≠ sgn y := by
  intro e
  have := congrArg UInt8.toNat e
  unfold sgn at this
  simp at this; omega
theorem sgL_app (xs ys : List Nat) : sgL (xs ++ ys) = sgL xs ++ sgL ys := by simp [sgL]
theorem sgL_rep (m d : Nat) : sgL (List.replicate m d) = List.replicate m (sgn d) := by simp [sgL]
theorem gRuns_last (a b : Nat) (hab : a ≠ b) (ha : a ≤ 9) (hb : b ≤ 9) (r : Nat) : ∀ p, (gRuns a b r).getLast? = some p → p.1 ≠ sgn (gD a b r) := by
  intro p hp
  cases r with
  | zero => simp [gRuns] at hp
  | succ r =>
    rw [gRuns, List.getLast?_append] at hp
    simp at hp
    subst hp
    refine sgn_ne ?_ ?_ (gD_ne a b r hab)
    · rcases gD_mem a b r with h | h <;> omega
    · rcases gD_mem a b (r + 1) with h | h <;> omega
theorem runs_gG (a b : Nat) (hab : a ≠ b) (ha : 1 ≤ a ∧ a ≤ 9) (hb : 1 ≤ b ∧ b ≤ 9) : ∀ r, runsL (sgL (gG a b r)) = gRuns a b r
  | 0 => rfl
  | r + 1 => by
    rw [gG_succ, sgL_app, sgL_rep]
    show (sgL (gG a b r) ++ List.replicate (gLen a b r) (sgn (gD a b r))).foldl stepRun [] = _
    rw [List.foldl_append]
    have h := runs_gG a b hab ha hb r
    unfold runsL at h
    rw [h, runs_rep _ _ (gRuns_last a b hab ha.2 hb.2 r) _ (gLen_pos a b r ha.1 hb.1)]; rfl
/-- Cut within a run: as many runs. -/
theorem runs_cut (a b : Nat) (hab : a ≠ b) (ha : 1 ≤ a ∧ a ≤ 9) (hb : 1 ≤ b ∧ b ≤ 9) (r n : Nat) (h1 : (gG a b r).length < n) (h2 : n ≤ (gG a b (r + 1)).length) :
    (runsL (sgL ((gG a b (r + 1)).take n))).length = r + 1 := by
  rw [gG_succ] at h2 ⊢
  rw [List.length_append, List.length_replicate] at h2
  rw [List.take_append, List.take_of_length_le (by omega), List.take_replicate, sgL_app, sgL_rep]
  show ((sgL (gG a b r) ++ List.replicate (min (n - (gG a b r).length) (gLen a b r)) (sgn (gD a b r))).foldl stepRun []).length = _
  rw [List.foldl_append]
  have h := runs_gG a b hab ha hb r
  unfold runsL at h
  rw [h, runs_rep _ _ (gRuns_last a b hab ha.2 hb.2 r) _ (by omega), List.length_append, gRuns_len]; rfl
/-- The run that has a place: found. -/
theorem run_of_place (a b n : Nat) (hab : a ≠ b) (ha : 1 ≤ a ∧ a ≤ 9) (hb : 1 ≤ b ∧ b ≤ 9) (r : Nat) (h1 : ((gOwn a b n).take r).sum < n) (h2 : n ≤ ((gOwn a b n).take (r + 1)).sum) (hr : r + 1 ≤ n) :
    (runsL (sgL (gOwn a b n))).length = r + 1 := by
  rw [gG_sum a b ha.1 hb.1 n r (by omega)] at h1
  rw [gG_sum a b ha.1 hb.1 n (r + 1) hr] at h2
  rw [← gG_take a b (r + 1) n ha.1 hb.1 h2]
  exact runs_cut a b hab ha hb r n h1 h2

def ownRn (a b n : Int) : Nat := (runsL (sgL (ownW a b n))).length
set_option maxHeartbeats 1000000 in
theorem specOwnRun_any (a b n : Int) (w : World) :
    Calls Try.prog 14 #[.int .i64 a, .int .i64 b, .int .i64 n] w fun e w' => e = .returned (intOk (askB a b n 100000) (ownRn a b n)) ∧ Below w.heap.size w w' := by
  cases h1 : askB a b n 100000 with
  | false =>
    have H1 := Lib.hid h1; clear h1
    go_enter Try.func14, Try.ntmps14
    go_wp2_with fail
    refine (ruAsked_is _ _ _ _).mono ?_
    rintro e w1 ⟨rfl, rfl⟩
    rw [H1.out]
    go_wp2_with fail
    go_ret2
    exact ⟨rfl, Below.refl _ _⟩
  | true =>
    have HR := Lib.hid (fun (W : World) => ruOwn_ask a b n 100000 W h1 (by omega))
    obtain ⟨⟨ha, hb, hab⟩, hn⟩ := askB_iff.1 h1
    have hl := ownW_len h1
    have h9 := ownW_nine h1
    obtain ⟨N, rfl⟩ : ∃ N : Nat, n = (N : Int) := ⟨n.toNat, by omega⟩
    have hrun := fun r => run_of_place a.toNat b.toNat N (by omega) (by omega) (by omega) r
    unfold ownRn
    have hxs0 : ownW a b (N : Int) = gOwn a.toNat b.toNat N := rfl
    rw [Int.toNat_natCast] at hl
    rw [hxs0] at HR hl h9 ⊢
    have hfull : N ≤ ((gOwn a.toNat b.toNat N).take N).sum := by
      rw [gG_sum _ _ (by omega) (by omega) N N (Nat.le_refl _)]
      exact gG_len _ _ (by omega) (by omega) N
    generalize gOwn a.toNat b.toNat N = xs at *
    have H1 := Lib.hid h1; have HRUN := Lib.hid hrun; have H9 := Lib.hid h9; have HL := Lib.hid hl; have HF := Lib.hid hfull
    clear h1 hrun h9 hxs0 hfull
    go_enter Try.func14, Try.ntmps14
    go_wp2_with fail
    refine (ruAsked_is _ _ _ _).mono ?_
    rintro e w1 ⟨rfl, rfl⟩
    rw [H1.out]
    go_wp2_with fail
    refine (HR.out _).mono ?_
    rintro e w1 ⟨v, rfl, ⟨g, cap, rfl, _, hg, hc⟩, hb⟩
    have HB := Lib.hid hb; have HC := Lib.hid hc; clear hb hc
    rw [hl]
    clear hl
    go_wp2_with fail
    go_loopw [8, 21] (fun o i wr => ∃ (k m : Nat), k ≤ N ∧ i = .int .i64 (k : Int) ∧ o = .int .i64 (m : Int) ∧ m < N ∧ Hid (m = (xs.take k).sum ∧ Below w1.heap.size w1 wr)) (fun _ i _ => N - (intOf i).toNat)
    case atStart => exact ⟨0, 0, Nat.zero_le _, rfl, rfl, by omega, rfl, Below.refl _ _⟩
    case round =>
      obtain ⟨k, m, hk, rfl, rfl, hm, HX⟩ := hrel
      by_cases hlt : k < N
      · have hlt' : k < xs.length := by rw [HL.out]; exact hlt
        have hcell := HC.out k hlt'
        have hx9 := H9.out xs[k] (List.getElem_mem hlt')
        have hsm : (xs.take (k + 1)).sum = (xs.take k).sum + xs[k] := by
          rw [List.take_succ_eq_append_getElem hlt', List.sum_append]; simp
        obtain ⟨x, hx⟩ : ∃ x, x = xs[k] := ⟨_, rfl⟩
        rw [← hx] at hcell hsm hx9
        have HSM := Lib.hid hsm
        have hcw : wr.cell? ⟨g, k, none⟩ = some (.int .i64 (x : Int)) := (HX.out.2.cell (p := ⟨g, k, none⟩) hg).trans hcell
        clear hx hcell hsm
        by_cases hge : N ≤ m + x
        · have hfound := HRUN.out k (by rw [← HX.out.1]; exact hm) (by rw [HSM.out, ← HX.out.1]; exact hge) hlt
          have HFO := Lib.hid hfound; clear hfound
          go_wp2_with fail
          go_ret2
          refine ⟨?_, HB.out.trans (HX.out.2.mono HB.out.size)⟩
          unfold intOk
          rw [if_pos rfl, HFO.out]
          rfl
        · go_wp2_with fail
          go_roundw
          case rel => exact ⟨k + 1, m + x, by omega, by go_num, by go_num, by omega, by rw [HSM.out, HX.out.1], HX.out.2⟩
          case measure => simp [intOf] <;> omega
      · obtain rfl : k = N := by omega
        have := HF.out
        have := HX.out.1
        omega
end Go.Proofs.Ythbjaclobllkhaa
