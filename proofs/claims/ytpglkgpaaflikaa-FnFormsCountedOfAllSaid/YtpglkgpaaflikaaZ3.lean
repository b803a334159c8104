/- Chapter 6: EckList, EckNumber, EckZeros on both sides, and their laws. -/
import Derived.Test.YtpglkgpaaflikaaZ2
namespace Go.Proofs.Ytpglkgpaaflikaa
open Go.RowKit Go.BigFrame Go.Maps
set_option linter.unusedSimpArgs false
set_option linter.unusedVariables false
set_option maxRecDepth 4000

def ebB (ns : List Int) (n most : Int) : Bool := plL ns && decide (1 ≤ n ∧ n ≤ most)
theorem ebO_bad {ns : List Int} {n most : Int} (h : ebB ns n most = false) : ebO ns n most = none := by unfold ebO; rw [show (plL ns && decide (1 ≤ n ∧ n ≤ most)) = false from h]; rfl
theorem ebO_ok {ns : List Int} {n most : Int} (h : ebB ns n most = true) : ebO ns n most = some (upL (eckS ns) n.toNat) := by unfold ebO; rw [show (plL ns && decide (1 ≤ n ∧ n ≤ most)) = true from h]; rfl
theorem ebO_len (ns : List Int) (n most : Int) (hm : most ≤ 5000) : ((ebO ns n most).getD []).length ≤ 5000 := by
  unfold ebO
  split
  · rename_i h; rw [Bool.and_eq_true, decide_eq_true_eq] at h; simp only [Option.getD_some, upL_len]; omega
  · simp
theorem ebO_some (ns : List Int) (n most : Int) : (ebO ns n most).isSome = ebB ns n most := by
  cases h : ebB ns n most
  · rw [ebO_bad h]; rfl
  · rw [ebO_ok h]; rfl
/-- The n-th number, the number of zeros. -/
def enV (ns : List Int) (n : Int) : Int := if ebB ns n 5000 = true then eckS ns (n.toNat - 1) else 0
def ezV (ns : List Int) (n : Int) : Int := if ebB ns n 5000 = true then ((pls (eckS ns) 0 n.toNat).length : Int) else 0
theorem plsZ_congr {s t : Nat → Int} (y : Int) : ∀ k, (∀ i, i < k → s i = t i) → pls s y k = pls t y k
  | 0, _ => rfl
  | k + 1, h => by unfold pls; rw [h k (Nat.lt_succ_self k), plsZ_congr y k (fun i hi => h i (Nat.lt_succ_of_lt hi))]

set_option maxHeartbeats 2000000 in
theorem specEckList_any (w : World) (B : Nat) (v : Value) (xs : List Int) (n : Int) (ha : IntsA w B v xs) :
    Calls Try.prog 41 #[v, .int .i64 n] w fun e w' => IntsAOk (ebO xs n 1000) w w' e := by
  have hL := plGood_any w B v xs ha
  cases ht : plL xs with
  | false =>
    rw [ht] at hL
    have hB : ebB xs n 1000 = false := by unfold ebB; rw [ht]; rfl
    rw [ebO_bad hB]
    obtain ⟨a, cap, rfl, _, _⟩ := intsA_slice ha
    have HL := Lib.hid hL; clear hL ha ht hB
    go_enter Try.func41, Try.ntmps41
    go_wp2_with fail
    refine HL.out.mono ?_
    rintro e w1 ⟨rfl, rfl⟩
    go_wp2_with fail
    go_ret2
    exact ⟨_, rfl, intsA_nil _ _, Below.refl _ _, fun _ => rfl⟩
  | true =>
    rw [ht] at hL
    cases hd : decide ((1 : Int) ≤ n ∧ n ≤ 1000) with
    | false =>
      have hB : ebB xs n 1000 = false := by unfold ebB; rw [ht, hd]; rfl
      rw [ebO_bad hB]
      obtain ⟨a, cap, rfl, _, _⟩ := intsA_slice ha
      have HL := Lib.hid hL; have HD := Lib.hid hd; clear hL ha ht hd hB
      go_enter Try.func41, Try.ntmps41
      go_wp2_with fail
      refine HL.out.mono ?_
      rintro e w1 ⟨rfl, rfl⟩
      go_wp2_with fail
      refine (l1In_is false _ _ _ _ HD.out).mono ?_
      rintro e w1 ⟨rfl, rfl⟩
      go_wp2_with fail
      go_ret2
      exact ⟨_, rfl, intsA_nil _ _, Below.refl _ _, fun _ => rfl⟩
    | true =>
      have hB : ebB xs n 1000 = true := by unfold ebB; rw [ht, hd]; rfl
      have hn := of_decide_eq_true hd
      rw [ebO_ok hB]
      obtain ⟨K, rfl⟩ := Int.eq_ofNat_of_zero_le (show 0 ≤ n by omega)
      rw [Int.toNat_natCast]
      have hK9 : K ≤ 5000 := by omega
      have hK1 : 1 ≤ K := by omega
      have hE := plEck_any w B v xs K ha ht (by omega)
      obtain ⟨a, cap, rfl, _, _⟩ := intsA_slice ha
      have HL := Lib.hid hL; have HD := Lib.hid hd; have HE := Lib.hid hE
      clear hL ha ht hd hn hE hB
      go_enter Try.func41, Try.ntmps41
      go_wp2_with fail
      refine HL.out.mono ?_
      rintro e w1 ⟨rfl, rfl⟩
      go_wp2_with fail
      refine (l1In_is true _ _ _ _ HD.out).mono ?_
      rintro e w1 ⟨rfl, rfl⟩
      go_wp2_with fail
      refine HE.out.mono ?_
      rintro e w2 ⟨u, rfl, hu, hb⟩
      go_wp2_with fail
      go_ret2
      exact ⟨_, rfl, intsA_of hu, hb, fun h => by cases h⟩

set_option maxHeartbeats 2000000 in
theorem specEckNumber_any (w : World) (B : Nat) (v : Value) (xs : List Int) (n : Int) (ha : IntsA w B v xs) :
    Calls Try.prog 44 #[v, .int .i64 n] w fun e w' => e = .returned (.tuple #[.int .i64 (enV xs n), .bool (ebB xs n 5000)]) ∧ Below w.heap.size w w' := by
  have hL := plGood_any w B v xs ha
  cases ht : plL xs with
  | false =>
    rw [ht] at hL
    have hB : ebB xs n 5000 = false := by unfold ebB; rw [ht]; rfl
    rw [show enV xs n = 0 by unfold enV; rw [hB]; rfl, hB]
    obtain ⟨a, cap, rfl, _, _⟩ := intsA_slice ha
    have HL := Lib.hid hL; clear hL ha ht hB
    go_enter Try.func44, Try.ntmps44
    go_wp2_with fail
    refine HL.out.mono ?_
    rintro e w1 ⟨rfl, rfl⟩
    go_wp2_with fail
    go_ret2
    exact ⟨rfl, Below.refl _ _⟩
  | true =>
    rw [ht] at hL
    cases hd : decide ((1 : Int) ≤ n ∧ n ≤ 5000) with
    | false =>
      have hB : ebB xs n 5000 = false := by unfold ebB; rw [ht, hd]; rfl
      rw [show enV xs n = 0 by unfold enV; rw [hB]; rfl, hB]
      obtain ⟨a, cap, rfl, _, _⟩ := intsA_slice ha
      have HL := Lib.hid hL; have HD := Lib.hid hd; clear hL ha ht hd hB
      go_enter Try.func44, Try.ntmps44
      go_wp2_with fail
      refine HL.out.mono ?_
      rintro e w1 ⟨rfl, rfl⟩
      go_wp2_with fail
      refine (l1In_is false _ _ _ _ HD.out).mono ?_
      rintro e w1 ⟨rfl, rfl⟩
      go_wp2_with fail
      go_ret2
      exact ⟨rfl, Below.refl _ _⟩
    | true =>
      have hB : ebB xs n 5000 = true := by unfold ebB; rw [ht, hd]; rfl
      have hn := of_decide_eq_true hd
      rw [show enV xs n = eckS xs (n.toNat - 1) by unfold enV; rw [hB]; rfl, hB]
      obtain ⟨K, rfl⟩ := Int.eq_ofNat_of_zero_le (show 0 ≤ n by omega)
      rw [Int.toNat_natCast]
      have hK9 : K ≤ 5000 := by omega
      have hK1 : 1 ≤ K := by omega
      have hE := plEck_any w B v xs K ha ht (by omega)
      obtain ⟨a, cap, rfl, _, _⟩ := intsA_slice ha
      have HL := Lib.hid hL; have HD := Lib.hid hd; have HE := Lib.hid hE
      clear hL ha ht hd hn hE hB
      go_enter Try.func44, Try.ntmps44
      go_wp2_with fail
      refine HL.out.mono ?_
      rintro e w1 ⟨rfl, rfl⟩
      go_wp2_with fail
      refine (l1In_is true _ _ _ _ HD.out).mono ?_
      rintro e w1 ⟨rfl, rfl⟩
      go_wp2_with fail
      refine HE.out.mono ?_
      rintro e w2 ⟨u, rfl, hu, hb⟩
      rcases ints_open hu with ⟨_, h0⟩ | ⟨g, c, rfl, h1, h2, h3, h4, h5, _⟩
      · have := congrArg List.length h0; rw [upL_len] at this; simp at this; omega
      · obtain ⟨m, rfl⟩ : ∃ m, K = m + 1 := ⟨K - 1, by omega⟩
        have hc := h5 m (by rw [upL_len]; omega)
        rw [upL_at (by omega)] at hc
        rw [upL_len] at h3 ⊢
        have HB := Lib.hid hb
        have e1 : ((m + 1 : Nat) : Int) - 1 = (m : Int) := by omega
        have e2 : (m : Int) + 1 - 1 = (m : Int) := by omega
        clear hu h5 hb
        go_wp2_with fail
        go_ret2
        exact ⟨rfl, HB.out⟩

set_option maxHeartbeats 2000000 in
theorem specEckZeros_any (w : World) (B : Nat) (v : Value) (xs : List Int) (n : Int) (ha : IntsA w B v xs) :
    Calls Try.prog 46 #[v, .int .i64 n] w fun e w' => e = .returned (.tuple #[.int .i64 (ezV xs n), .bool (ebB xs n 5000)]) ∧ Below w.heap.size w w' := by
  have hL := plGood_any w B v xs ha
  cases ht : plL xs with
  | false =>
    rw [ht] at hL
    have hB : ebB xs n 5000 = false := by unfold ebB; rw [ht]; rfl
    rw [show ezV xs n = 0 by unfold ezV; rw [hB]; rfl, hB]
    obtain ⟨a, cap, rfl, _, _⟩ := intsA_slice ha
    have HL := Lib.hid hL; clear hL ha ht hB
    go_enter Try.func46, Try.ntmps46
    go_wp2_with fail
    refine HL.out.mono ?_
    rintro e w1 ⟨rfl, rfl⟩
    go_wp2_with fail
    go_ret2
    exact ⟨rfl, Below.refl _ _⟩
  | true =>
    rw [ht] at hL
    cases hd : decide ((1 : Int) ≤ n ∧ n ≤ 5000) with
    | false =>
      have hB : ebB xs n 5000 = false := by unfold ebB; rw [ht, hd]; rfl
      rw [show ezV xs n = 0 by unfold ezV; rw [hB]; rfl, hB]
      obtain ⟨a, cap, rfl, _, _⟩ := intsA_slice ha
      have HL := Lib.hid hL; have HD := Lib.hid hd; clear hL ha ht hd hB
      go_enter Try.func46, Try.ntmps46
      go_wp2_with fail
      refine HL.out.mono ?_
      rintro e w1 ⟨rfl, rfl⟩
      go_wp2_with fail
      refine (l1In_is false _ _ _ _ HD.out).mono ?_
      rintro e w1 ⟨rfl, rfl⟩
      go_wp2_with fail
      go_ret2
      exact ⟨rfl, Below.refl _ _⟩
    | true =>
      have hB : ebB xs n 5000 = true := by unfold ebB; rw [ht, hd]; rfl
      have hn := of_decide_eq_true hd
      rw [show ezV xs n = ((pls (eckS xs) 0 n.toNat).length : Int) by unfold ezV; rw [hB]; rfl, hB]
      obtain ⟨K, rfl⟩ := Int.eq_ofNat_of_zero_le (show 0 ≤ n by omega)
      rw [Int.toNat_natCast]
      have hK9 : K ≤ 5000 := by omega
      have hK1 : 1 ≤ K := by omega
      have hE := plEck_any w B v xs K ha ht (by omega)
      obtain ⟨a, cap, rfl, _, _⟩ := intsA_slice ha
      have HL := Lib.hid hL; have HD := Lib.hid hd; have HE := Lib.hid hE
      clear hL ha ht hd hn hE hB
      go_enter Try.func46, Try.ntmps46
      go_wp2_with fail
      refine HL.out.mono ?_
      rintro e w1 ⟨rfl, rfl⟩
      go_wp2_with fail
      refine (l1In_is true _ _ _ _ HD.out).mono ?_
      rintro e w1 ⟨rfl, rfl⟩
      go_wp2_with fail
      refine HE.out.mono ?_
      rintro e w2 ⟨u, rfl, hu, hb⟩
      rcases ints_open hu with ⟨_, h0⟩ | ⟨g, c, rfl, h1, h2, h3, h4, h5, _⟩
      · have := congrArg List.length h0; rw [upL_len] at this; simp at this; omega
      · have hc : ∀ i, i < K → w2.cell? ⟨g, i, none⟩ = some (.int .i64 (eckS xs i)) := fun i hi => by
          rw [h5 i (by rw [upL_len]; exact hi), upL_at hi]
        rw [upL_len] at h3 ⊢
        have HB := Lib.hid hb; have HC := Lib.hid hc
        clear hu h5 hb hc
        go_wp2_with fail
        go_loop [6, 21] (fun cv iv => ∃ k q : Nat, k ≤ K ∧ iv = .int .i64 k ∧ cv = .int .i64 q ∧ q ≤ k ∧ Hid (q = (pls (eckS xs) 0 k).length)) (fun _ iv => K - (intOf iv).toNat)
        case atStart => exact ⟨0, 0, Nat.zero_le _, rfl, rfl, Nat.le_refl _, rfl⟩
        case round =>
          obtain ⟨k, q, hk, rfl, rfl, hqk, HX⟩ := hrel
          by_cases hlt : k < K
          · have h2' := HC.out k hlt
            have hstep : (pls (eckS xs) 0 (k + 1)).length = q + if eckS xs k = 0 then 1 else 0 := by
              rw [HX.out]
              show (pls (eckS xs) 0 k ++ _).length = _
              rw [List.length_append]; split <;> rfl
            obtain ⟨x, hx⟩ : ∃ x, x = eckS xs k := ⟨_, rfl⟩
            rw [← hx] at h2' hstep
            clear hx
            by_cases he : x = 0
            · rw [if_pos he] at hstep
              have hbe : (x == 0) = true := by simpa using he
              have HS := Lib.hid hstep
              clear he hstep
              go_wp2_with fail
              go_round
              case rel => exact ⟨k + 1, q + 1, by omega, by go_num, by go_num, by omega, Lib.hid HS.out.symm⟩
              case measure => simp [intOf] <;> omega
            · rw [if_neg he, Nat.add_zero] at hstep
              have hbe : (x == 0) = false := by simpa using he
              have HS := Lib.hid hstep
              clear he hstep
              go_wp2_with fail
              go_round
              case rel => exact ⟨k + 1, q, by omega, by go_num, rfl, by omega, Lib.hid HS.out.symm⟩
              case measure => simp [intOf] <;> omega
          · obtain rfl : k = K := by omega
            go_wp2_with fail
            go_ret2
            exact ⟨by rw [← HX.out]; rfl, HB.out⟩

set_option maxHeartbeats 2000000 in
theorem implEckList_any (w : World) (B : Nat) (v : Value) (xs : List Int) (n : Int) (ha : IntsA w B v xs) :
    Calls Try.prog 40 #[v, .int .i64 n] w fun e w' => IntsAOk (ebO xs n 1000) w w' e := by
  have hE := eckBeginning_any w B v xs n 1000 ha (by omega)
  obtain ⟨O, hO⟩ : ∃ O, O = ebO xs n 1000 := ⟨_, rfl⟩
  rw [← hO] at hE ⊢
  obtain ⟨ys, hys⟩ : ∃ ys, ys = O.getD [] := ⟨_, rfl⟩
  obtain ⟨y, hy⟩ : ∃ y, y = O.isSome := ⟨_, rfl⟩
  unfold IntsAOk at hE ⊢
  rw [← hys, ← hy] at hE ⊢
  obtain ⟨a, cap, rfl, _, _⟩ := intsA_slice ha
  have HE := Lib.hid hE
  clear hE ha hO hys hy
  go_enter Try.func40, Try.ntmps40
  go_wp2_with fail
  refine HE.out.mono ?_
  rintro e w2 ⟨u, rfl, hu, hb, hz⟩
  have HU := Lib.hid hu; have HB := Lib.hid hb; have HZ := Lib.hid hz; clear hu hb hz
  go_wp2_with fail
  go_ret2
  exact ⟨_, rfl, HU.out, HB.out, HZ.out⟩

set_option maxHeartbeats 2000000 in
theorem implEckNumber_any (w : World) (B : Nat) (v : Value) (xs : List Int) (n : Int) (ha : IntsA w B v xs) :
    Calls Try.prog 43 #[v, .int .i64 n] w fun e w' => e = .returned (.tuple #[.int .i64 (enV xs n), .bool (ebB xs n 5000)]) ∧ Below w.heap.size w w' := by
  have hE := eckBeginning_any w B v xs n 5000 ha (by omega)
  cases hB : ebB xs n 5000 with
  | false =>
    rw [ebO_bad hB] at hE
    rw [show enV xs n = 0 by unfold enV; rw [hB]; rfl]
    obtain ⟨a, cap, rfl, _, _⟩ := intsA_slice ha
    have HE := Lib.hid hE
    clear hE ha hB
    go_enter Try.func43, Try.ntmps43
    go_wp2_with fail
    refine HE.out.mono ?_
    rintro e w2 ⟨u, rfl, hu, hb, hz⟩
    have HB := Lib.hid hb; clear hu hb hz
    go_wp2_with fail
    go_ret2
    exact ⟨rfl, HB.out⟩
  | true =>
    rw [ebO_ok hB] at hE
    rw [show enV xs n = eckS xs (n.toNat - 1) by unfold enV; rw [hB]; rfl]
    unfold ebB at hB
    rw [Bool.and_eq_true, decide_eq_true_eq] at hB
    have hn := hB.2
    obtain ⟨m, rfl⟩ : ∃ m : Nat, n = (m : Int) + 1 := ⟨(n - 1).toNat, by omega⟩
    rw [show ((m : Int) + 1).toNat = m + 1 by omega] at hE
    rw [show ((m : Int) + 1).toNat - 1 = m by omega]
    have hm9 : m ≤ 5000 := by omega
    obtain ⟨a, cap, rfl, _, _⟩ := intsA_slice ha
    have HE := Lib.hid hE
    clear hE ha hB hn
    go_enter Try.func43, Try.ntmps43
    go_wp2_with fail
    refine HE.out.mono ?_
    rintro e w2 ⟨u, rfl, hu, hb, hz⟩
    simp only [Option.getD_some] at hu
    rcases intsA_open hu with ⟨_, h0⟩ | ⟨g, c, E, rest, rfl, h1, h2, _, h3, h4, _, h5⟩
    · have := congrArg List.length h0; rw [upL_len] at this; simp at this
    · have hc := h5 m (by rw [upL_len]; omega)
      rw [upL_at (by omega)] at hc
      rw [upL_len] at h3 ⊢
      have HB := Lib.hid hb
      have e2 : (m : Int) + 1 - 1 = (m : Int) := by omega
      clear hu h5 hb hz
      go_wp2_with fail
      go_ret2
      exact ⟨rfl, HB.out⟩

set_option maxHeartbeats 2000000 in
theorem implEckZeros_any (w : World) (B : Nat) (v : Value) (xs : List Int) (n : Int) (ha : IntsA w B v xs) :
    Calls Try.prog 45 #[v, .int .i64 n] w fun e w' => e = .returned (.tuple #[.int .i64 (ezV xs n), .bool (ebB xs n 5000)]) ∧ Below w.heap.size w w' := by
  have hE := eckBeginning_any w B v xs n 5000 ha (by omega)
  obtain ⟨ys, hys⟩ : ∃ ys, ys = (ebO xs n 5000).getD [] := ⟨_, rfl⟩
  have hlen : ys.length ≤ 5000 := by rw [hys]; exact ebO_len xs n 5000 (by omega)
  have hv : ezV xs n = ((pls (sq ys) 0 ys.length).length : Int) := by
    unfold ezV
    cases hB : ebB xs n 5000 with
    | false => rw [hys, ebO_bad hB]; rfl
    | true =>
      rw [hys, ebO_ok hB, if_pos rfl]
      simp only [Option.getD_some, upL_len]
      rw [plsZ_congr (s := sq (upL (eckS xs) n.toNat)) (t := eckS xs) 0 n.toNat (fun i hi => sq_upL hi)]
  have hs := ebO_some xs n 5000
  unfold IntsAOk at hE
  rw [← hys, hs] at hE
  rw [hv]
  obtain ⟨y, hy⟩ : ∃ y, y = ebB xs n 5000 := ⟨_, rfl⟩
  rw [← hy] at hE ⊢
  obtain ⟨a, cap, rfl, _, _⟩ := intsA_slice ha
  have HE := Lib.hid hE
  clear hE ha hv hs hys hy
  go_enter Try.func45, Try.ntmps45
  go_wp2_with fail
  refine HE.out.mono ?_
  rintro e w2 ⟨u, rfl, hu, hb, hz⟩
  have hP := placesOf_any w2 u ys 0 (argL_of_intsA hu) (by omega)
  obtain ⟨a2, cap2, rfl, _, _⟩ := intsA_slice hu
  have HP := Lib.hid hP; have HB := Lib.hid hb; clear hu hb hz hP
  go_wp2_with fail
  refine HP.out.mono ?_
  rintro e w3 ⟨u, rfl, hu, hb⟩
  obtain ⟨a3, cap3, rfl, _, _⟩ := intsA_slice (intsA_of hu)
  have HB3 := Lib.hid hb; clear hu hb
  go_wp2_with fail
  go_ret2
  exact ⟨rfl, below_trans HB.out HB3.out⟩

end Go.Proofs.Ytpglkgpaaflikaa
