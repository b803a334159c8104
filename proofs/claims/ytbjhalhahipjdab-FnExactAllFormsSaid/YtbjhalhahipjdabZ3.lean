/- Chapter 6: EckList, EckNumber, EckZeros on both sides, and their laws. -/
import Derived.Test.YtbjhalhahipjdabZ2
namespace Go.Proofs.Ytbjhalhahipjdab
open Go.RowKit Go.BigFrame Go.Maps
set_option linter.unusedSimpArgs false
set_option linter.unusedVariables false
set_option maxRecDepth 4000

def ebB (ns : List Int) (n most : Int) : Bool := plL ns && decide (1 ≤ n ∧ n ≤ most)
theorem ebO_bad {ns : List Int} {n most : Int} (h : ebB ns n most = false) : ebO ns n most = none := by unfold ebO; rw [show (plL ns && decide (1 ≤ n ∧ n ≤ most)) = false from h]; rfl
theorem ebO_ok {ns : List Int} {n most : Int} (h : ebB ns n most = true) : ebO ns n most = some (upL (eckS ns) n.toNat) := by unfold ebO; rw [show (plL ns && decide (1 ≤ n ∧ n ≤ most)) = true from h]; rfl
theorem ebO_len (ns : List Int) (n most : Int) (hm : most ≤ 5000) : ((ebO ns n most).getD []).length ≤ 5000 := by
  unfold ebO
  split
  · rename_i h; rw [Bool.and_eq_true, decide_eq_true_eq] at h; simp only [Option.getD_some, upL_len]; omega
  · simp
theorem ebO_some (ns : List Int) (n most : Int) : (ebO ns n most).isSome = ebB ns n most := by
  cases h : ebB ns n most
  · rw [ebO_bad h]; rfl
  · rw [ebO_ok h]; rfl
/-- The n-th number, the number of zeros. -/
def enV (ns : List Int) (n : Int) : Int := if ebB ns n 5000 = true then eckS ns (n.toNat - 1) else 0
def ezV (ns : List Int) (n : Int) : Int := if ebB ns n 5000 = true then ((pls (eckS ns) 0 n.toNat).length : Int) else 0
theorem pls_congr {s t : Nat → Int} (y : Int) : ∀ k, (∀ i, i < k → s i = t i) → pls s y k = pls t y k
  | 0, _ => rfl
  | k + 1, h => by unfold pls; rw [h k (Nat.lt_succ_self k), pls_congr y k (fun i hi => h i (Nat.lt_succ_of_lt hi))]

set_option maxHeartbeats 2000000 in
theorem specEckList_any (w : World) (B : Nat) (v : Value) (xs : List Int) (n : Int) (ha : IntsA w B v xs) :
    Calls Try.prog 8 #[v, .int .i64 n] w fun e w' => IntsAOk (ebO xs n 1000) w w' e := by
  have hL := plGood_any w B v xs ha
  cases ht : plL xs with
  | false =>
    rw [ht] at hL
    have hB : ebB xs n 1000 = false := by unfold ebB; rw [ht]; rfl
    rw [ebO_bad hB]
    obtain ⟨a, cap, rfl, _, _⟩ := intsA_slice ha
    have HL := Lib.hid hL; clear hL ha ht hB
    go_enter Try.func8, Try.ntmps8
    go_wp2_with fail
    refine HL.out.mono ?_
    rintro e w1 ⟨rfl, rfl⟩
    go_wp2_with fail
    go_ret2
    exact ⟨_, rfl, intsA_nil _ _, Below.refl _ _, fun _ => rfl⟩
  | true =>
    rw [ht] at hL
    cases hd : decide ((1 : Int) ≤ n ∧ n ≤ 1000) with
    | false =>
      have hB : ebB xs n 1000 = false := by unfold ebB; rw [ht, hd]; rfl
      rw [ebO_bad hB]
      obtain ⟨a, cap, rfl, _, _⟩ := intsA_slice ha
      have HL := Lib.hid hL; have HD := Lib.hid hd; clear hL ha ht hd hB
      go_enter Try.func8, Try.ntmps8
      go_wp2_with fail
      refine HL.out.mono ?_
      rintro e w1 ⟨rfl, rfl⟩
      go_wp2_with fail
      refine (l1In_is false _ _ _ _ HD.out).mono ?_
      rintro e w1 ⟨rfl, rfl⟩
      go_wp2_with fail
      go_ret2
      exact ⟨_, rfl, intsA_nil _ _, Below.refl _ _, fun _ => rfl⟩
    | true =>
      have hB : ebB xs n 1000 = true := by unfold ebB; rw [ht, hd]; rfl
      have hn := of_decide_eq_true hd
      rw [ebO_ok hB]
      obtain ⟨K, rfl⟩ := Int.eq_ofNat_of_zero_le (show 0 ≤ n by omega)
      rw [Int.toNat_natCast]
      have hK9 : K ≤ 5000 := by omega
      have hK1 : 1 ≤ K := by omega
      have hE := plEck_any w B v xs K ha ht (by omega)
      obtain ⟨a, cap, rfl, _, _⟩ := intsA_slice ha
      have HL := Lib.hid hL; have HD := Lib.hid hd; have HE := Lib.hid hE
      clear hL ha ht hd hn hE hB
      go_enter Try.func8, Try.ntmps8
      go_wp2_with fail
      refine HL.out.mono ?_
      rintro e w1 ⟨rfl, rfl⟩
      go_wp2_with fail
      refine (l1In_is true _ _ _ _ HD.out).mono ?_
      rintro e w1 ⟨rfl, rfl⟩
      go_wp2_with fail
      refine HE.out.mono ?_
      rintro e w2 ⟨u, rfl, hu, hb⟩
      go_wp2_with fail
      go_ret2
      exact ⟨_, rfl, intsA_of hu, hb, fun h => by cases h⟩

set_option maxHeartbeats 2000000 in
theorem specEckNumber_any (w : World) (B : Nat) (v : Value) (xs : List Int) (n : Int) (ha : IntsA w B v xs) :
    Calls Try.prog 14 #[v, .int .i64 n] w fun e w' => e = .returned (.tuple #[.int .i64 (enV xs n), .bool (ebB xs n 5000)]) ∧ Below w.heap.size w w' := by
  have hL := plGood_any w B v xs ha
  cases ht : plL xs with
  | false =>
    rw [ht] at hL
    have hB : ebB xs n 5000 = false := by unfold ebB; rw [ht]; rfl
    rw [show enV xs n = 0 by unfold enV; rw [hB]; rfl, hB]
    obtain ⟨a, cap, rfl, _, _⟩ := intsA_slice ha
    have HL := Lib.hid hL; clear hL ha ht hB
    go_enter Try.func14, Try.ntmps14
    go_wp2_with fail
    refine HL.out.mono ?_
    rintro e w1 ⟨rfl, rfl⟩
    go_wp2_with fail
    go_ret2
    exact ⟨rfl, Below.refl _ _⟩
  | true =>
    rw [ht] at hL
    cases hd : decide ((1 : Int) ≤ n ∧ n ≤ 5000) with
    | false =>
      have hB : ebB xs n 5000 = false := by unfold ebB; rw [ht, hd]; rfl
      rw [show enV xs n = 0 by unfold enV; rw [hB]; rfl, hB]
      obtain ⟨a, cap, rfl, _, _⟩ := intsA_slice ha
      have HL := Lib.hid hL; have HD := Lib.hid hd; clear hL ha ht hd hB
      go_enter Try.func14, Try.ntmps14
      go_wp2_with fail
      refine HL.out.mono ?_
      rintro e w1 ⟨rfl, rfl⟩
      go_wp2_with fail
      refine (l1In_is false _ _ _ _ HD.out).mono ?_
      rintro e w1 ⟨rfl, rfl⟩
      go_wp2_with fail
      go_ret2
      exact ⟨rfl, Below.refl _ _⟩
    | true =>
      have hB : ebB xs n 5000 = true := by unfold ebB; rw [ht, hd]; rfl
      have hn := of_decide_eq_true hd
      rw [show enV xs n = eckS xs (n.toNat - 1) by unfold enV; rw [hB]; rfl, hB]
      obtain ⟨K, rfl⟩ := Int.eq_ofNat_of_zero_le (show 0 ≤ n by omega)
      rw [Int.toNat_natCast]
      have hK9 : K ≤ 5000 := by omega
      have hK1 : 1 ≤ K := by omega
      have hE := plEck_any w B v xs K ha ht (by omega)
      obtain ⟨a, cap, rfl, _, _⟩ := intsA_slice ha
      have HL := Lib.hid hL; have HD := Lib.hid hd; have HE := Lib.hid hE
      clear hL ha ht hd hn hE hB
      go_enter Try.func14, Try.ntmps14
      go_wp2_with fail
      refine HL.out.mono ?_
      rintro e w1 ⟨rfl, rfl⟩
      go_wp2_with fail
      refine (l1In_is true _ _ _ _ HD.out).mono ?_
      rintro e w1 ⟨rfl, rfl⟩
      go_wp2_with fail
      refine HE.out.mono ?_
      rintro e w2 ⟨u, rfl, hu, hb⟩
      rcases ints_open hu with ⟨_, h0⟩ | ⟨g, c, rfl, h1, h2, h3, h4, h5, _⟩
      · have := congrArg List.length h0; rw [upL_len] at this; simp at this; omega
      · obtain ⟨m, rfl⟩ : ∃ m, K = m + 1 := ⟨K - 1, by omega⟩
        have hc := h5 m (by rw [upL_len]; omega)
        rw [upL_at (by omega)] at hc
        rw [upL_len] at h3 ⊢
        have HB := Lib.hid hb
        have e1 : ((m + 1 : Nat) : Int) - 1 = (m : Int) := by omega
        have e2 : (m : Int) + 1 - 1 = (m : Int) := by omega
        clear hu h5 hb
        go_wp2_with fail
        go_ret2
        exact ⟨rfl, HB.out⟩

set_option maxHeartbeats 2000000 in
theorem specEckZeros_any (w : World) (B : Nat) (v : Value) (xs : List Int) (n : Int) (ha : IntsA w B v xs) :
    Calls Try.prog 18 #[v, .int .i64 n] w fun e w' => e = .returned (.tuple #[.int .i64 (ezV xs n), .bool (ebB xs n 5000)]) ∧ Below w.heap.size w w' := by
  have hL := plGood_any w B v xs ha
  cases ht : plL xs with
  | false =>
    rw [ht] at hL
    have hB : ebB xs n 5000 = false := by unfold ebB; rw [ht]; rfl
    rw [show ezV xs n = 0 by unfold ezV; rw [hB]; rfl, hB]
    obtain ⟨a, cap, rfl, _, _⟩ := intsA_slice ha
    have HL := Lib.hid hL; clear hL ha ht hB
    go_enter Try.func18, Try.ntmps18
    go_wp2_with fail
    refine HL.out.mono ?_
    rintro e w1 ⟨rfl, rfl⟩
    go_wp2_with fail
    go_ret2
    exact ⟨rfl, Below.refl _ _⟩
  | true =>
    rw [ht] at hL
    cases hd : decide ((1 : Int) ≤ n ∧ n ≤ 5000) with
    | false =>
      have hB : ebB xs n 5000 = false := by unfold ebB; rw [ht, hd]; rfl
      rw [show ezV xs n = 0 by unfold ezV; rw [hB]; rfl, hB]
      obtain ⟨a, cap, rfl, _, _⟩ := intsA_slice ha
      have HL := Lib.hid hL; have HD := Lib.hid hd; clear hL ha ht hd hB
      go_enter Try.func18, Try.ntmps18
      go_wp2_with fail
      refine HL.out.mono ?_
      rintro e w1 ⟨rfl, rfl⟩
      go_wp2_with fail
      refine (l1In_is false _ _ _ _ HD.out).mono ?_
      rintro e w1 ⟨rfl, rfl⟩
      go_wp2_with fail
      go_ret2
      exact ⟨rfl, Below.refl _ _⟩
    | true =>
      have hB : ebB xs n 5000 = true := by unfold ebB; rw [ht, hd]; rfl
      have hn := of_decide_eq_true hd
      rw [show ezV xs n = ((pls (eckS xs) 0 n.toNat).length : Int) by unfold ezV; rw [hB]; rfl, hB]
      obtain ⟨K, rfl⟩ := Int.eq_ofNat_of_zero_le (show 0 ≤ n by omega)
      rw [Int.toNat_natCast]
      have hK9 : K ≤ 5000 := by omega
      have hK1 : 1 ≤ K := by omega
      have hE := plEck_any w B v xs K ha ht (by omega)
      obtain ⟨a, cap, rfl, _, _⟩ := intsA_slice ha
      have HL := Lib.hid hL; have HD := Lib.hid hd; have HE := Lib.hid hE
      clear hL ha ht hd hn hE hB
      go_enter Try.func18, Try.ntmps18
      go_wp2_with fail
      refine HL.out.mono ?_
      rintro e w1 ⟨rfl, rfl⟩
      go_wp2_with fail
      refine (l1In_is true _ _ _ _ HD.out).mono ?_
      rintro e w1 ⟨rfl, rfl⟩
      go_wp2_with fail
      refine HE.out.mono ?_
      rintro e w2 ⟨u, rfl, hu, hb⟩
      rcases ints_open hu with ⟨_, h0⟩ | ⟨g, c, rfl, h1, h2, h3, h4, h5, _⟩
      · have := congrArg List.length h0; rw [upL_len] at this; simp at this; omega
      · have hc : ∀ i, i < K → w2.cell? ⟨g, i, none⟩ = some (.int .i64 (eckS xs i)) := fun i hi => by
          rw [h5 i (by rw [upL_len]; exact hi), upL_at hi]
        rw [upL_len] at h3 ⊢
        have HB := Lib.hid hb; have HC := Lib.hid hc
        clear hu h5 hb hc
        go_wp2_with fail
        go_loop [6, 21] (fun cv iv => ∃ k q : Nat, k ≤ K ∧ iv = .int .i64 k ∧ cv = .int .i64 q ∧ q ≤ k ∧ Hid (q = (pls (eckS xs) 0 k).length)) (fun _ iv => K - (intOf iv).toNat)
        case atStart => exact ⟨0, 0, Nat.zero_le _, rfl, rfl, Nat.le_refl _, rfl⟩
        case round =>
          obtain ⟨k, q, hk, rfl, rfl, hqk, HX⟩ := hrel
          by_cases hlt : k < K
          · have h2' := HC.out k hlt
            have hstep : (pls (eckS xs) 0 (k + 1)).length = q + if eckS xs k = 0 then 1 else 0 := by
              rw [HX.out]
              show (pls (eckS xs) 0 k ++ _).length = _
              rw [List.length_append]; split <;> rfl
            obtain ⟨x, hx⟩ : ∃ x, x = eckS xs k := ⟨_, rfl⟩
            rw [← hx] at h2' hstep
            clear hx
            by_cases he : x = 0
            · rw [if_pos he] at hstep
              have hbe : (x == 0) = true := by simpa using he
              have HS := Lib.hid hstep
              clear he hstep
              go_wp2_with fail
              go_round
              case rel => exact ⟨k + 1, q + 1, by omega, by go_num, by go_num, by omega, Lib.hid HS.out.symm⟩
              case measure => simp [intOf] <;> omega
            · rw [if_neg he, Nat.add_zero] at hstep
              have hbe : (x == 0) = false := by simpa using he
              have HS := Lib.hid hstep
              clear he hstep
              go_wp2_with fail
              go_round
              case rel => exact ⟨k + 1, q, by omega, by go_num, rfl, by omega, Lib.hid HS.out.symm⟩
              case measure => simp [intOf] <;> omega
          · obtain rfl : k = K := by omega
            go_wp2_with fail
            go_ret2
            exact ⟨by rw [← HX.out]; rfl, HB.out⟩

set_option maxHeartbeats 2000000 in
theorem implEckList_any (w : World) (B : Nat) (v : Value) (xs : List Int) (n : Int) (ha : IntsA w B v xs) :
    Calls Try.prog 10 #[v, .int .i64 n] w fun e w' => IntsAOk (ebO xs n 1000) w w' e := by
  have hE := eckBeginning_any w B v xs n 1000 ha (by omega)
  obtain ⟨O, hO⟩ : ∃ O, O = ebO xs n 1000 := ⟨_, rfl⟩
  rw [← hO] at hE ⊢
  obtain ⟨ys, hys⟩ : ∃ ys, ys = O.getD [] := ⟨_, rfl⟩
  obtain ⟨y, hy⟩ : ∃ y, y = O.isSome := ⟨_, rfl⟩
  unfold IntsAOk at hE ⊢
  rw [← hys, ← hy] at hE ⊢
  obtain ⟨a, cap, rfl, _, _⟩ := intsA_slice ha
  have HE := Lib.hid hE
  clear hE ha hO hys hy
  go_enter Try.func10, Try.ntmps10
  go_wp2_with fail
  refine HE.out.mono ?_
  rintro e w2 ⟨u, rfl, hu, hb, hz⟩
  have HU := Lib.hid hu; have HB := Lib.hid hb; have HZ := Lib.hid hz; clear hu hb hz
  go_wp2_with fail
  go_ret2
  exact ⟨_, rfl, HU.out, HB.out, HZ.out⟩

set_option maxHeartbeats 2000000 in
theorem implEckNumber_any (w : World) (B : Nat) (v : Value) (xs : List Int) (n : Int) (ha : IntsA w B v xs) :
    Calls Try.prog 15 #[v, .int .i64 n] w fun e w' => e = .returned (.tuple #[.int .i64 (enV xs n), .bool (ebB xs n 5000)]) ∧ Below w.heap.size w w' := by
  have hE := eckBeginning_any w B v xs n 5000 ha (by omega)
  cases hB : ebB xs n 5000 with
  | false =>
    rw [ebO_bad hB] at hE
    rw [show enV xs n = 0 by unfold enV; rw [hB]; rfl]
    obtain ⟨a, cap, rfl, _, _⟩ := intsA_slice ha
    have HE := Lib.hid hE
    clear hE ha hB
    go_enter Try.func15, Try.ntmps15
    go_wp2_with fail
    refine HE.out.mono ?_
    rintro e w2 ⟨u, rfl, hu, hb, hz⟩
    have HB := Lib.hid hb; clear hu hb hz
    go_wp2_with fail
    go_ret2
    exact ⟨rfl, HB.out⟩
  | true =>
    rw [ebO_ok hB] at hE
    rw [show enV xs n = eckS xs (n.toNat - 1) by unfold enV; rw [hB]; rfl]
    unfold ebB at hB
    rw [Bool.and_eq_true, decide_eq_true_eq] at hB
    have hn := hB.2
    obtain ⟨m, rfl⟩ : ∃ m : Nat, n = (m : Int) + 1 := ⟨(n - 1).toNat, by omega⟩
    rw [show ((m : Int) + 1).toNat = m + 1 by omega] at hE
    rw [show ((m : Int) + 1).toNat - 1 = m by omega]
    have hm9 : m ≤ 5000 := by omega
    obtain ⟨a, cap, rfl, _, _⟩ := intsA_slice ha
    have HE := Lib.hid hE
    clear hE ha hB hn
    go_enter Try.func15, Try.ntmps15
    go_wp2_with fail
    refine HE.out.mono ?_
    rintro e w2 ⟨u, rfl, hu, hb, hz⟩
    simp only [Option.getD_some] at hu
    rcases intsA_open hu with ⟨_, h0⟩ | ⟨g, c, E, rest, rfl, h1, h2, _, h3, h4, _, h5⟩
    · have := congrArg List.length h0; rw [upL_len] at this; simp at this
    · have hc := h5 m (by rw [upL_len]; omega)
      rw [upL_at (by omega)] at hc
      rw [upL_len] at h3 ⊢
      have HB := Lib.hid hb
      have e2 : (m : Int) + 1 - 1 = (m : Int) := by omega
      clear hu h5 hb hz
      go_wp2_with fail
      go_ret2
      exact ⟨rfl, HB.out⟩

set_option maxHeartbeats 2000000 in
theorem implEckZeros_any (w : World) (B : Nat) (v : Value) (xs : List Int) (n : Int) (ha : IntsA w B v xs) :
    Calls Try.prog 19 #[v, .int .i64 n] w fun e w' => e = .returned (.tuple #[.int .i64 (ezV xs n), .bool (ebB xs n 5000)]) ∧ Below w.heap.size w w' := by
  have hE := eckBeginning_any w B v xs n 5000 ha (by omega)
  obtain ⟨ys, hys⟩ : ∃ ys, ys = (ebO xs n 5000).getD [] := ⟨_, rfl⟩
  have hlen : ys.length ≤ 5000 := by rw [hys]; exact ebO_len xs n 5000 (by omega)
  have hv : ezV xs n = ((pls (sq ys) 0 ys.length).length : Int) := by
    unfold ezV
    cases hB : ebB xs n 5000 with
    | false => rw [hys, ebO_bad hB]; rfl
    | true =>
      rw [hys, ebO_ok hB, if_pos rfl]
      simp only [Option.getD_some, upL_len]
      rw [pls_congr (s := sq (upL (eckS xs) n.toNat)) (t := eckS xs) 0 n.toNat (fun i hi => sq_upL hi)]
  have hs := ebO_some xs n 5000
  unfold IntsAOk at hE
  rw [← hys, hs] at hE
  rw [hv]
  obtain ⟨y, hy⟩ : ∃ y, y = ebB xs n 5000 := ⟨_, rfl⟩
  rw [← hy] at hE ⊢
  obtain ⟨a, cap, rfl, _, _⟩ := intsA_slice ha
  have HE := Lib.hid hE
  clear hE ha hv hs hys hy
  go_enter Try.func19, Try.ntmps19
  go_wp2_with fail
  refine HE.out.mono ?_
  rintro e w2 ⟨u, rfl, hu, hb, hz⟩
  have hP := placesOf_any w2 u ys 0 (argL_of_intsA hu) (by omega)
  obtain ⟨a2, cap2, rfl, _, _⟩ := intsA_slice hu
  have HP := Lib.hid hP; have HB := Lib.hid hb; clear hu hb hz hP
  go_wp2_with fail
  refine HP.out.mono ?_
  rintro e w3 ⟨u, rfl, hu, hb⟩
  obtain ⟨a3, cap3, rfl, _, _⟩ := intsA_slice (intsA_of hu)
  have HB3 := Lib.hid hb; clear hu hb
  go_wp2_with fail
  go_ret2
  exact ⟨rfl, below_trans HB.out HB3.out⟩

set_option maxRecDepth 100000 in
set_option maxHeartbeats 1000000 in
theorem law_EckList (v : Value) (xs : List Int) (n : Int) (w : World) (h : ArgL w v xs) :
    Calls Try.prog 3 #[v, .int .i64 n] w fun e w' => e = .returned (.bool true) ∧ Below w.heap.size w w' := by
  obtain ⟨A, C, hv, hC1, hC2, hce⟩ := h
  by_cases hb : 1048576 < xs.length
  · obtain ⟨N, hN⟩ : ∃ N, N = xs.length := ⟨_, rfl⟩
    rw [← hN] at hv hb hC1
    subst hv
    clear hce hN
    go_enter Try.func3, Try.ntmps3
    go_wp2_with fail
    go_ret
    exact ⟨rfl, Below.refl _ _⟩
  · have hn : xs.length ≤ 1048576 := by omega
    have h : ArgL w v xs := ⟨A, C, hv, hC1, hC2, hce⟩
    have hto := fun (W : World) (hbW : Below w.heap.size w W) => toIntL_any W v xs (argL_below h hbW) hn
    have hspec := fun (W : World) (B : Nat) (u : Value) (ha : IntsA W B u xs) => specEckList_any W B u xs n ha
    have himpl := fun (W : World) (B : Nat) (u : Value) (ha : IntsA W B u xs) => implEckList_any W B u xs n ha
    obtain ⟨op, hop⟩ : ∃ op, op = ebO xs n 1000 := ⟨_, rfl⟩
    rw [← hop] at hspec himpl
    obtain ⟨ns, hns⟩ : ∃ ns, ns = op.getD [] := ⟨_, rfl⟩
    obtain ⟨y, hy⟩ : ∃ y, y = op.isSome := ⟨_, rfl⟩
    have hlen : ns.length ≤ 5000 := by rw [hns, hop]; exact ebO_len xs n 1000 (by omega)
    unfold IntsAOk at hspec himpl
    rw [← hns, ← hy] at hspec himpl
    obtain ⟨N, hN⟩ : ∃ N, N = xs.length := ⟨_, rfl⟩
    obtain ⟨tt, ht⟩ : ∃ tt, tt = 1 + ns.length := ⟨_, rfl⟩
    obtain ⟨kk, hk⟩ : ∃ kk, kk = 1 + N := ⟨_, rfl⟩
    rw [← hN] at hv hto hC1
    have ht2 : tt ≤ 5001 := by omega
    have ht1 : 1 ≤ tt := by omega
    have hk1 : 1 ≤ kk := by omega
    have hk2 : kk ≤ 1048577 := by omega
    have hNle : N ≤ 1048576 := by omega
    have hkl : kk = 1 + xs.length := by rw [hk, hN]
    have e1 : ((tt : Int) != (tt : Int)) = false := by simp
    have e2 : (y != y) = false := by simp
    subst hv
    have HS := Lib.hid hspec; have HI := Lib.hid himpl; have HT := Lib.hid hto; have HTT := Lib.hid ht; have HK := Lib.hid hkl; have HLEN := Lib.hid hlen; have HNN := Lib.hid hn
    clear hspec himpl hto ht hkl hlen hop hns hy hN hk h hce hC1 hC2 hb hn
    go_enter Try.func3, Try.ntmps3
    go_wp2_with fail
    refine (HT.out w (Below.refl _ _)).mono ?_
    rintro e w1 ⟨rfl, a1, b1, _⟩
    have A1 := Lib.hid a1; have B1 := Lib.hid b1; clear a1 b1
    go_wp2_with fail
    refine (HS.out w1 _ _ A1.out).mono ?_
    rintro e w2 ⟨v0, rfl, a2, b2, _⟩
    have A2 := Lib.hid a2; have B2 := Lib.hid (below_trans B1.out b2); clear a2 b2
    have S1 := Lib.hid B1.out.size
    go_wp2_with fail
    refine (HT.out w2 B2.out).mono ?_
    rintro e w3 ⟨rfl, a3, b3, s3⟩
    have A3 := Lib.hid a3; have B3 := Lib.hid b3; have C3 := Lib.hid (below_trans B2.out b3); have S3 := Lib.hid s3; clear a3 b3 s3
    go_wp2_with fail
    refine (HI.out w3 _ _ A3.out).mono ?_
    rintro e w4 ⟨v1, rfl, a4, b4, _⟩
    have A4 := Lib.hid a4; have B4 := Lib.hid b4; clear a4 b4
    have Z4 := Lib.hid (intsA_below A2.out (below_trans B3.out B4.out)); have X4 := Lib.hid (intsA_below A3.out B4.out); have C4 := Lib.hid (below_trans C3.out B4.out)
    go_wp2_with fail
    refine (eqIntA_same w4 _ _ v1 v0 ns A4.out Z4.out).mono ?_
    rintro e w5 ⟨rfl, b5⟩
    have B5 := Lib.hid b5; clear b5
    have A5 := Lib.hid (intsA_below A4.out B5.out); have Z5 := Lib.hid (intsA_below Z4.out B5.out); have X5 := Lib.hid (intsA_below X4.out B5.out); have C5 := Lib.hid (below_trans C4.out B5.out)
    go_wp2_with fail
    refine (HT.out w5 C5.out).mono ?_
    rintro e w6 ⟨rfl, a6, b6, _⟩
    have B6 := Lib.hid b6; have T6 := Lib.hid a6; clear a6 b6
    have A6 := Lib.hid (intsA_below A5.out B6.out); have Z6 := Lib.hid (intsA_below Z5.out B6.out); have X6 := Lib.hid (intsA_below X5.out B6.out); have C6 := Lib.hid (below_trans C5.out B6.out)
    go_wp2_with fail
    refine (eqIntA_same w6 _ _ _ _ xs X6.out T6.out).mono ?_
    rintro e w7 ⟨rfl, b7⟩
    have B7 := Lib.hid b7; clear b7
    have A7 := Lib.hid (intsA_below A6.out B7.out); have Z7 := Lib.hid (intsA_below Z6.out B7.out); have X7 := Lib.hid (intsA_below X6.out B7.out); have C7 := Lib.hid (below_trans C6.out B7.out)
    have L7 := Lib.hid (Nat.le_trans (Nat.le_trans (Nat.le_trans B4.out.size B5.out.size) B6.out.size) B7.out.size)
    go_wp2_with fail
    refine (markIntA_any w7 _ 1 _ xs X7.out (by have := HNN.out; omega)).mono ?_
    rintro e w8 ⟨rfl, a8, b8, o8⟩
    rw [← HK.out]
    have hA8 : IntsA w8 w3.heap.size v1 ns := intsA_other A7.out (fun k k1 k2 => o8 k (slice_ne (by have := S3.out; omega)) k2)
    have hZ8 : IntsA w8 w1.heap.size v0 ns := by
      rcases A2.out with hq | ⟨g, cap, E, rest, q1, q2, q3, q4⟩
      · exact .inl hq
      · have hg2 : g < w2.heap.size := (Array.getElem?_eq_some_iff.1 q3).1
        rcases Z7.out with hq | ⟨g', cap', E', rest', r1, r2, r3, r4⟩
        · exact .inl hq
        · rw [q1] at r1
          have hgg : g = g' := by simp only [Value.slice.injEq, Option.some.injEq, Addr.mk.injEq] at r1; exact r1.1.1
          subst hgg
          refine .inr ⟨g, cap', E', rest', by rw [q1]; exact r1, r2, ?_, r4⟩
          rw [o8 g (slice_ne (by omega)) (Array.getElem?_eq_some_iff.1 r3).1]
          exact r3
    have A8 := Lib.hid hA8; have Z8 := Lib.hid hZ8; have C8 : Hid (Below w.heap.size w w8) := C7.out.trans (b8.mono (B2.out.size))
    clear a8 o8 hA8 hZ8 b8
    have hk0 : ¬ ((kk : Int) < 0) := by omega
    go_wp2_with fail
    refine (eqIntA_same w8 _ _ v1 v0 ns A8.out Z8.out).mono ?_
    rintro e w9 ⟨rfl, b9⟩
    have A9 := Lib.hid (intsA_below A8.out b9); have Z9 := Lib.hid (intsA_below Z8.out b9); have C9 := Lib.hid (below_trans C8.out b9); have S9 := Lib.hid b9.size; clear b9
    go_wp2_with fail
    refine (markIntA_any w9 _ 1 v1 ns A9.out (by have := HLEN.out; omega)).mono ?_
    rintro e w10 ⟨rfl, a10, b10, o10⟩
    rw [← HTT.out]
    have Z10 : Hid (IntsA w10 w1.heap.size v0 ns) := by
      rcases A2.out with hq | ⟨g, cap, E, rest, q1, q2, q3, q4⟩
      · exact .inl hq
      · have hg2 : g < w2.heap.size := (Array.getElem?_eq_some_iff.1 q3).1
        rcases Z9.out with hq | ⟨g', cap', E', rest', r1, r2, r3, r4⟩
        · exact .inl hq
        · rw [q1] at r1
          have hgg : g = g' := by simp only [Value.slice.injEq, Option.some.injEq, Addr.mk.injEq] at r1; exact r1.1.1
          subst hgg
          refine .inr ⟨g, cap', E', rest', by rw [q1]; exact r1, r2, ?_, r4⟩
          rw [b10.block g (by have := B3.out.size; omega)]
          exact r3
    have A10 := Lib.hid a10; have C10 : Hid (Below w.heap.size w w10) := C9.out.trans (b10.mono C3.out.size)
    clear a10 b10 o10
    have ht0 : ¬ ((tt : Int) < 0) := by omega
    go_wp2_with fail
    refine (heldIntA_any w10 _ 1 ns.length v1 A10.out (by have := HLEN.out; omega)).mono ?_
    rintro e w11 ⟨rfl, b11⟩
    rw [← HTT.out]
    have A11 := Lib.hid (intsA_below A10.out b11); have Z11 := Lib.hid (intsA_below Z10.out b11); have C11 := Lib.hid (below_trans C10.out b11); clear b11
    go_wp2_with fail
    refine (HT.out w11 C11.out).mono ?_
    rintro e w12 ⟨rfl, a12, b12, _⟩
    have T12 := Lib.hid a12; have A12 := Lib.hid (intsA_below A11.out b12); have Z12 := Lib.hid (intsA_below Z11.out b12); have C12 := Lib.hid (below_trans C11.out b12); clear a12 b12
    go_wp2_with fail
    refine (HI.out w12 _ _ T12.out).mono ?_
    rintro e w13 ⟨v6, rfl, a13, b13, _⟩
    have H13 := Lib.hid a13; have A13 := Lib.hid (intsA_below A12.out b13); have Z13 := Lib.hid (intsA_below Z12.out b13); have C13 := Lib.hid (below_trans C12.out b13); clear a13 b13
    go_wp2_with fail
    refine (eqIntA_same w13 _ _ v6 v0 ns H13.out Z13.out).mono ?_
    rintro e w14 ⟨rfl, b14⟩
    have A14 := Lib.hid (intsA_below A13.out b14); have C14 := Lib.hid (below_trans C13.out b14); clear b14
    go_wp2_with fail
    refine (heldIntA_any w14 _ 1 ns.length v1 A14.out (by have := HLEN.out; omega)).mono ?_
    rintro e w15 ⟨rfl, b15⟩
    rw [← HTT.out]
    have C15 := Lib.hid (below_trans C14.out b15); clear b15
    go_wp2_with fail
    go_ret
    exact ⟨rfl, C15.out⟩

set_option maxRecDepth 100000 in
set_option maxHeartbeats 1000000 in
theorem law_EckNumber (v : Value) (xs : List Int) (n : Int) (w : World) (h : ArgL w v xs) :
    Calls Try.prog 4 #[v, .int .i64 n] w fun e w' => e = .returned (.bool true) ∧ Below w.heap.size w w' := by
  obtain ⟨A, C, hv, hC1, hC2, hce⟩ := h
  by_cases hb : 1048576 < xs.length
  · obtain ⟨N, hN⟩ : ∃ N, N = xs.length := ⟨_, rfl⟩
    rw [← hN] at hv hb hC1
    subst hv
    clear hce hN
    go_enter Try.func4, Try.ntmps4
    go_wp2_with fail
    go_ret
    exact ⟨rfl, Below.refl _ _⟩
  · have hn : xs.length ≤ 1048576 := by omega
    have h : ArgL w v xs := ⟨A, C, hv, hC1, hC2, hce⟩
    have hto := fun (W : World) (hbW : Below w.heap.size w W) => toIntL_any W v xs (argL_below h hbW) hn
    have hspec := fun (W : World) (B : Nat) (u : Value) (ha : IntsA W B u xs) => specEckNumber_any W B u xs n ha
    have himpl := fun (W : World) (B : Nat) (u : Value) (ha : IntsA W B u xs) => implEckNumber_any W B u xs n ha
    obtain ⟨x, hx⟩ : ∃ x, x = enV xs n := ⟨_, rfl⟩
    obtain ⟨y, hy⟩ : ∃ y, y = ebB xs n 5000 := ⟨_, rfl⟩
    rw [← hx, ← hy] at hspec himpl
    obtain ⟨N, hN⟩ : ∃ N, N = xs.length := ⟨_, rfl⟩
    rw [← hN] at hv hto hC1
    have hNle : N ≤ 1048576 := by omega
    have e1 : (x != x) = false := by simp
    have e2 : (y != y) = false := by simp
    subst hv
    have HS := Lib.hid hspec; have HI := Lib.hid himpl; have HT := Lib.hid hto
    clear hspec himpl hto hx hy hN h hce hC1 hC2 hb hn
    go_enter Try.func4, Try.ntmps4
    go_wp2_with fail
    refine (HT.out w (Below.refl _ _)).mono ?_
    rintro e w1 ⟨rfl, a1, b1, _⟩
    have A1 := Lib.hid a1; have B1 := Lib.hid b1; clear a1 b1
    go_wp2_with fail
    refine (HS.out w1 _ _ A1.out).mono ?_
    rintro e w2 ⟨rfl, b2⟩
    have B2 := Lib.hid (below_trans B1.out b2); clear b2
    go_wp2_with fail
    refine (HT.out w2 B2.out).mono ?_
    rintro e w3 ⟨rfl, a3, b3, _⟩
    have A3 := Lib.hid a3; have C3 := Lib.hid (below_trans B2.out b3); clear a3 b3
    go_wp2_with fail
    refine (HI.out w3 _ _ A3.out).mono ?_
    rintro e w4 ⟨rfl, b4⟩
    have A4 := Lib.hid (intsA_below A3.out b4); have C4 := Lib.hid (below_trans C3.out b4); clear b4
    go_wp2_with fail
    refine (HT.out w4 C4.out).mono ?_
    rintro e w5 ⟨rfl, a5, b5, _⟩
    have T5 := Lib.hid a5; have A5 := Lib.hid (intsA_below A4.out b5); have C5 := Lib.hid (below_trans C4.out b5); clear a5 b5
    go_wp2_with fail
    refine (eqIntA_same w5 _ _ _ _ xs A5.out T5.out).mono ?_
    rintro e w6 ⟨rfl, b6⟩
    have C6 := Lib.hid (below_trans C5.out b6); clear b6
    go_wp2_with fail
    go_ret
    exact ⟨rfl, C6.out⟩

set_option maxRecDepth 100000 in
set_option maxHeartbeats 1000000 in
theorem law_EckZeros (v : Value) (xs : List Int) (n : Int) (w : World) (h : ArgL w v xs) :
    Calls Try.prog 6 #[v, .int .i64 n] w fun e w' => e = .returned (.bool true) ∧ Below w.heap.size w w' := by
  obtain ⟨A, C, hv, hC1, hC2, hce⟩ := h
  by_cases hb : 1048576 < xs.length
  · obtain ⟨N, hN⟩ : ∃ N, N = xs.length := ⟨_, rfl⟩
    rw [← hN] at hv hb hC1
    subst hv
    clear hce hN
    go_enter Try.func6, Try.ntmps6
    go_wp2_with fail
    go_ret
    exact ⟨rfl, Below.refl _ _⟩
  · have hn : xs.length ≤ 1048576 := by omega
    have h : ArgL w v xs := ⟨A, C, hv, hC1, hC2, hce⟩
    have hto := fun (W : World) (hbW : Below w.heap.size w W) => toIntL_any W v xs (argL_below h hbW) hn
    have hspec := fun (W : World) (B : Nat) (u : Value) (ha : IntsA W B u xs) => specEckZeros_any W B u xs n ha
    have himpl := fun (W : World) (B : Nat) (u : Value) (ha : IntsA W B u xs) => implEckZeros_any W B u xs n ha
    obtain ⟨x, hx⟩ : ∃ x, x = ezV xs n := ⟨_, rfl⟩
    obtain ⟨y, hy⟩ : ∃ y, y = ebB xs n 5000 := ⟨_, rfl⟩
    rw [← hx, ← hy] at hspec himpl
    obtain ⟨N, hN⟩ : ∃ N, N = xs.length := ⟨_, rfl⟩
    rw [← hN] at hv hto hC1
    have hNle : N ≤ 1048576 := by omega
    have e1 : (x != x) = false := by simp
    have e2 : (y != y) = false := by simp
    subst hv
    have HS := Lib.hid hspec; have HI := Lib.hid himpl; have HT := Lib.hid hto
    clear hspec himpl hto hx hy hN h hce hC1 hC2 hb hn
    go_enter Try.func6, Try.ntmps6
    go_wp2_with fail
    refine (HT.out w (Below.refl _ _)).mono ?_
    rintro e w1 ⟨rfl, a1, b1, _⟩
    have A1 := Lib.hid a1; have B1 := Lib.hid b1; clear a1 b1
    go_wp2_with fail
    refine (HS.out w1 _ _ A1.out).mono ?_
    rintro e w2 ⟨rfl, b2⟩
    have B2 := Lib.hid (below_trans B1.out b2); clear b2
    go_wp2_with fail
    refine (HT.out w2 B2.out).mono ?_
    rintro e w3 ⟨rfl, a3, b3, _⟩
    have A3 := Lib.hid a3; have C3 := Lib.hid (below_trans B2.out b3); clear a3 b3
    go_wp2_with fail
    refine (HI.out w3 _ _ A3.out).mono ?_
    rintro e w4 ⟨rfl, b4⟩
    have A4 := Lib.hid (intsA_below A3.out b4); have C4 := Lib.hid (below_trans C3.out b4); clear b4
    go_wp2_with fail
    refine (HT.out w4 C4.out).mono ?_
    rintro e w5 ⟨rfl, a5, b5, _⟩
    have T5 := Lib.hid a5; have A5 := Lib.hid (intsA_below A4.out b5); have C5 := Lib.hid (below_trans C4.out b5); clear a5 b5
    go_wp2_with fail
    refine (eqIntA_same w5 _ _ _ _ xs A5.out T5.out).mono ?_
    rintro e w6 ⟨rfl, b6⟩
    have C6 := Lib.hid (below_trans C5.out b6); clear b6
    go_wp2_with fail
    go_ret
    exact ⟨rfl, C6.out⟩

end Go.Proofs.Ytbjhalhahipjdab
