/- Hearing again and again: the model's and the program's HearTimes (beside the ways of wayFrom). -/
import Derived.Test.YtdlhahigiooddaaI13
import Derived.Test.YtdlhahigiooddaaT12
namespace Go.Proofs.Ytdlhahigiooddaa
open Go.RowKit Go.BigFrame
set_option linter.unusedSimpArgs false
set_option linter.unusedVariables false
set_option maxRecDepth 4000

/-- What is heard at last, at most so many times, and how often that is. -/
def htGo : Nat → List UInt8 → List UInt8 × Nat
  | 0, l => (l, 0)
  | n + 1, l => match hearO l with
    | none => (l, 0)
    | some t => ((htGo n t).1, (htGo n t).2 + 1)
theorem htGo_none (n : Nat) (l : List UInt8) (h : hearO l = none) : htGo n l = (l, 0) := by
  cases n with
  | zero => rfl
  | succ m => unfold htGo; rw [h]
theorem htGo_some (n : Nat) (l t : List UInt8) (h : hearO l = some t) : htGo (n + 1) l = ((htGo n t).1, (htGo n t).2 + 1) := by
  conv => lhs; unfold htGo
  rw [h]
theorem hearO_good {l t : List UInt8} (h : hearO l = some t) : goodL t = true := by
  unfold hearO at h
  split at h
  · unfold wordO at h
    split at h
    · split at h
      · rename_i hg; cases h; exact hg
      · cases h
    · cases h
  · cases h
theorem good_size {l : List UInt8} (h : goodL l = true) : (bs l).size ≤ 400 := by
  rw [bs_size]; unfold goodL at h; simp at h; omega
def htV (l : List UInt8) : Value := if goodL l = true then .tuple #[.string (bs (htGo 20 l).1), .int .i64 ((htGo 20 l).2 : Int), .bool true] else .tuple #[.string ⟨#[]⟩, .int .i64 0, .bool false]
/-- Where hearing stands: so many times are heard. -/
def HtAt (l0 : List UInt8) (k : Nat) (l : List UInt8) : Prop := k ≤ 20 ∧ goodL l = true ∧ (htGo (20 - k) l).1 = (htGo 20 l0).1 ∧ (htGo (20 - k) l).2 + k = (htGo 20 l0).2
theorem htAt_next {l0 l t : List UInt8} {k : Nat} (h : HtAt l0 k l) (hk : k < 20) (ht : hearO l = some t) : HtAt l0 (k + 1) t := by
  obtain ⟨h1, h2, h3, h4⟩ := h
  obtain ⟨m, hm⟩ : ∃ m, 20 - k = m + 1 := ⟨19 - k, by omega⟩
  rw [hm, htGo_some m l t ht] at h3 h4
  have e : 20 - (k + 1) = m := by omega
  refine ⟨by omega, hearO_good ht, by rw [e]; exact h3, ?_⟩
  rw [e]; simp only at h4; omega
theorem htAt_stop {l0 l : List UInt8} {k : Nat} (h : HtAt l0 k l) (hs : k = 20 ∨ hearO l = none) : (htGo 20 l0).1 = l ∧ (htGo 20 l0).2 = k := by
  obtain ⟨h1, h2, h3, h4⟩ := h
  have e : htGo (20 - k) l = (l, 0) := by
    rcases hs with rfl | hn
    · rfl
    · exact htGo_none _ _ hn
  rw [e] at h3 h4
  exact ⟨h3.symm, by simp only at h4; omega⟩

set_option maxHeartbeats 2000000 in
theorem specHearTimes_any (s : ByteArray) (w : World) (hs : s.size ≤ maxLen) :
    Calls Try.prog 46 #[.string s] w fun e w' => e = .returned (htV s.data.toList) ∧ Below w.heap.size w w' := by
  cases hg : goodL s.data.toList with
  | false =>
    have HG := Lib.hid hg; clear hg
    go_enter Try.func46, Try.ntmps46
    go_wp2_with fail
    refine (woGood_any s w hs).mono ?_
    rintro e w1 ⟨rfl, rfl⟩
    rw [HG.out]
    go_wp2_with fail
    go_ret3
    exact ⟨by unfold htV; rw [if_neg (by rw [HG.out]; simp)]; rfl, Below.refl _ _⟩
  | true =>
    have h0 : HtAt s.data.toList 0 s.data.toList := ⟨by omega, hg, rfl, rfl⟩
    have H0 := Lib.hid h0
    have HG := Lib.hid hg; clear hg h0
    go_enter Try.func46, Try.ntmps46
    go_wp2_with fail
    refine (woGood_any s w hs).mono ?_
    rintro e w1 ⟨rfl, rfl⟩
    rw [HG.out]
    go_wp2_with fail
    go_loopw [0, 5] (fun v i wr => ∃ (l : List UInt8) (k : Nat), k ≤ 20 ∧ v = .string (bs l) ∧ i = .int .i64 (k : Int) ∧ Hid (HtAt s.data.toList k l ∧ Below w.heap.size w wr)) (fun _ i _ => 20 - (intOf i).toNat)
    case atStart => exact ⟨s.data.toList, 0, by omega, by rw [← bs_eq (t := s) rfl], rfl, H0.out, below_refl _⟩
    case round =>
      obtain ⟨l, k, hk, rfl, rfl, HX⟩ := hrel
      have hsz := good_size HX.out.1.2.1
      by_cases hlt : k < 20
      · have hc := fun (W : World) => woHear_any (bs l) W (by unfold maxLen; omega)
        rw [bs_list] at hc
        cases ho : hearO l with
        | none =>
          rw [ho] at hc
          have hst := htAt_stop HX.out.1 (.inr ho)
          have HC := Lib.hid hc; have HO := Lib.hid ho; have HST := Lib.hid hst; clear hc ho hst
          go_wp2_with fail
          refine (HC.out _).mono ?_
          rintro e w2 ⟨rfl, hb2⟩
          have HB2 := Lib.hid hb2; clear hb2
          unfold strOk
          go_wp2_with fail
          go_ret3
          exact ⟨by unfold htV; rw [if_pos HG.out, HST.out.1, HST.out.2]; rfl, below_trans HX.out.2 HB2.out⟩
        | some t =>
          rw [ho] at hc
          have hnx := htAt_next HX.out.1 hlt ho
          have HC := Lib.hid hc; have HO := Lib.hid ho; have HNX := Lib.hid hnx; clear hc ho hnx
          go_wp2_with fail
          refine (HC.out _).mono ?_
          rintro e w2 ⟨rfl, hb2⟩
          have HB2 := Lib.hid hb2; clear hb2
          unfold strOk
          go_wp2_with fail
          go_roundw
          case rel => exact ⟨t, k + 1, by omega, rfl, by go_num, HNX.out, below_trans HX.out.2 HB2.out⟩
          case measure => simp [intOf] <;> omega
      · obtain rfl : k = 20 := by omega
        have hst := htAt_stop HX.out.1 (.inl rfl)
        have HST := Lib.hid hst; clear hst
        go_wp2_with fail
        go_ret3
        exact ⟨by unfold htV; rw [if_pos HG.out, HST.out.1, HST.out.2]; rfl, HX.out.2⟩

set_option maxHeartbeats 2000000 in
theorem implHearTimes_any (s : ByteArray) (w : World) (hs : s.size ≤ maxLen) :
    Calls Try.prog 45 #[.string s] w fun e w' => e = .returned (htV s.data.toList) ∧ Below w.heap.size w w' := by
  cases hg : goodL s.data.toList with
  | false =>
    have HG := Lib.hid hg; clear hg
    go_enter Try.func45, Try.ntmps45
    go_wp2_with fail
    refine (implIsWord_any s w hs).mono ?_
    rintro e w1 ⟨rfl, rfl⟩
    rw [HG.out]
    go_wp2_with fail
    go_ret3
    exact ⟨by unfold htV; rw [if_neg (by rw [HG.out]; simp)]; rfl, Below.refl _ _⟩
  | true =>
    have h0 : HtAt s.data.toList 0 s.data.toList := ⟨by omega, hg, rfl, rfl⟩
    obtain ⟨h1, h2, _⟩ := goodL_parts hg
    have H0 := Lib.hid h0
    have HG := Lib.hid hg; clear hg h0
    go_enter Try.func45, Try.ntmps45
    go_wp2_with fail
    refine (implIsWord_any s w hs).mono ?_
    rintro e w1 ⟨rfl, rfl⟩
    rw [HG.out]
    go_wp2_with fail
    refine (clone_any s _ (by omega)).mono ?_
    rintro e w1 ⟨rfl, hb1⟩
    have HB1 := Lib.hid hb1; clear hb1
    go_wp2_with fail
    go_loopw [5, 6] (fun v i wr => ∃ (l : List UInt8) (k : Nat), k ≤ 20 ∧ v = .string (bs l) ∧ i = .int .i64 (k : Int) ∧ Hid (HtAt s.data.toList k l ∧ Below w.heap.size w wr)) (fun _ i _ => 20 - (intOf i).toNat)
    case atStart => exact ⟨s.data.toList, 0, by omega, by rw [← bs_eq (t := s) rfl], rfl, H0.out, HB1.out⟩
    case round =>
      obtain ⟨l, k, hk, rfl, rfl, HX⟩ := hrel
      have hsz := good_size HX.out.1.2.1
      by_cases hlt : k < 20
      · have hc := fun (W : World) => implHearWord_any (bs l) W (by unfold maxLen; omega)
        rw [bs_list] at hc
        cases ho : hearO l with
        | none =>
          rw [ho] at hc
          have hst := htAt_stop HX.out.1 (.inr ho)
          have HC := Lib.hid hc; have HO := Lib.hid ho; have HST := Lib.hid hst; clear hc ho hst
          go_wp2_with fail
          refine (HC.out _).mono ?_
          rintro e w2 ⟨rfl, hb2⟩
          have HB2 := Lib.hid hb2; clear hb2
          unfold strOk
          go_wp2_with fail
          go_ret3
          exact ⟨by unfold htV; rw [if_pos HG.out, HST.out.1, HST.out.2]; rfl, below_trans HX.out.2 HB2.out⟩
        | some t =>
          rw [ho] at hc
          have hnx := htAt_next HX.out.1 hlt ho
          have HC := Lib.hid hc; have HO := Lib.hid ho; have HNX := Lib.hid hnx; clear hc ho hnx
          go_wp2_with fail
          refine (HC.out _).mono ?_
          rintro e w2 ⟨rfl, hb2⟩
          have HB2 := Lib.hid hb2; clear hb2
          unfold strOk
          go_wp2_with fail
          go_roundw
          case rel => exact ⟨t, k + 1, by omega, rfl, by go_num, HNX.out, below_trans HX.out.2 HB2.out⟩
          case measure => simp [intOf] <;> omega
      · obtain rfl : k = 20 := by omega
        have hst := htAt_stop HX.out.1 (.inl rfl)
        have HST := Lib.hid hst; clear hst
        go_wp2_with fail
        go_ret3
        exact ⟨by unfold htV; rw [if_pos HG.out, HST.out.1, HST.out.2]; rfl, HX.out.2⟩
end Go.Proofs.Ytdlhahigiooddaa
