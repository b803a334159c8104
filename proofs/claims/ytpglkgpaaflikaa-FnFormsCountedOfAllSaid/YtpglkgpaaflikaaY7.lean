/- Chapter 6: FirstPlaces, PlacesOfNumber, GreatestGap on both sides, and their laws. -/
import Derived.Test.YtpglkgpaaflikaaY5
import Derived.Test.YtpglkgpaaflikaaY6
namespace Go.Proofs.Ytpglkgpaaflikaa
open Go.RowKit Go.BigFrame Go.Maps
set_option linter.unusedSimpArgs false
set_option linter.unusedVariables false
set_option maxRecDepth 4000

def fpO (xs : List Int) : Option (List Int) := if plL xs = true then some (pls (bkS xs) 0 xs.length) else none
theorem fpO_len (xs : List Int) : ((fpO xs).getD []).length ≤ 60 := by
  unfold fpO
  split
  · rename_i h; exact Nat.le_trans (pls_len _ _ _) (plL_open h).2.1
  · simp
def pnB (xs : List Int) (n : Int) : Bool := plL xs && decide (0 ≤ n ∧ n ≤ 1000)
def pnO (xs : List Int) (n : Int) : Option (List Int) := if pnB xs n = true then some (pls (sq xs) n xs.length) else none
theorem pnO_len (xs : List Int) (n : Int) : ((pnO xs n).getD []).length ≤ 60 := by
  unfold pnO
  split
  · rename_i h; rw [pnB, Bool.and_eq_true] at h; exact Nat.le_trans (pls_len _ _ _) (plL_open h.1).2.1
  · simp
def ggV (xs : List Int) : Int := if plL xs = true then mxS (bkS xs) xs.length else 0
theorem pls_congr {s t : Nat → Int} (y : Int) : ∀ k, (∀ i, i < k → s i = t i) → pls s y k = pls t y k
  | 0, _ => rfl
  | k + 1, h => by unfold pls; rw [h k (Nat.lt_succ_self k), pls_congr y k (fun i hi => h i (Nat.lt_succ_of_lt hi))]
theorem mxS_congr {s t : Nat → Int} : ∀ k, (∀ i, i < k → s i = t i) → mxS s k = mxS t k
  | 0, _ => rfl
  | k + 1, h => by unfold mxS; rw [h k (Nat.lt_succ_self k), mxS_congr k (fun i hi => h i (Nat.lt_succ_of_lt hi))]

set_option maxHeartbeats 2000000 in
theorem specFirstPlaces_any (w : World) (B : Nat) (v : Value) (xs : List Int) (ha : IntsA w B v xs) :
    Calls Try.prog 13 #[v] w fun e w' => IntsAOk (fpO xs) w w' e := by
  have hL := plGood_any w B v xs ha
  cases ht : plL xs with
  | false =>
    rw [ht] at hL
    rw [show fpO xs = none by unfold fpO; rw [ht]; rfl]
    obtain ⟨a, cap, rfl, _, _⟩ := intsA_slice ha
    have HL := Lib.hid hL; clear hL ha ht
    go_enter Try.func13, Try.ntmps13
    go_wp2_with fail
    refine HL.out.mono ?_
    rintro e w1 ⟨rfl, rfl⟩
    go_wp2_with fail
    go_ret2
    exact ⟨_, rfl, intsA_nil _ _, Below.refl _ _, fun _ => rfl⟩
  | true =>
    rw [ht] at hL
    rw [show fpO xs = some (pls (bkS xs) 0 xs.length) by unfold fpO; rw [ht]; rfl]
    obtain ⟨h1, h60, _⟩ := plL_open ht
    have hB := plBacks_any w B v xs ha h1 (by omega)
    obtain ⟨a, cap, hv, _, _⟩ := intsA_slice ha
    obtain ⟨N, hN⟩ : ∃ N, N = xs.length := ⟨_, rfl⟩
    have HN := Lib.hid hN
    rw [← hN] at hv h1 h60 ⊢
    subst hv
    have HL := Lib.hid hL; have HB := Lib.hid hB; clear hL ha ht hB hN
    go_enter Try.func13, Try.ntmps13
    go_wp2_with fail
    refine HL.out.mono ?_
    rintro e w1 ⟨rfl, rfl⟩
    go_wp2_with fail
    refine HB.out.mono ?_
    rintro e w2 ⟨u, rfl, hu, hb2⟩
    obtain ⟨gu, cu, rfl, hgu, hgw, hcu, hnc⟩ := ints_slice hu (by rw [bkL_len, ← HN.out]; exact h1)
    have hlen : (bkL xs).length = N := by rw [bkL_len, HN.out]
    rw [hlen] at hu hnc ⊢
    have HU := Lib.hid hu; have HB2 := Lib.hid hb2
    clear hu hb2 hlen
    go_wp2_with fail
    go_loopw [4, 13] (fun ov iv wr => ∃ k : Nat, k ≤ N ∧ iv = .int .i64 k ∧ Hid (Ints wr w2.heap.size ov (pls (bkS xs) 0 k) ∧ Below w2.heap.size w2 wr)) (fun _ iv _ => N - (intOf iv).toNat)
    case atStart => exact ⟨0, Nat.zero_le _, rfl, World.ownsRow_nil _ _ _ _, Below.refl _ _⟩
    case round =>
      obtain ⟨k, hk, rfl, HX⟩ := hrel
      by_cases hlt : k < N
      · have hk' : k < xs.length := by rw [← HN.out]; exact hlt
        have h2 : wr.cell? ⟨gu, k, none⟩ = some (.int .i64 (bkS xs k)) := (HX.out.2.cell (p := ⟨gu, k, none⟩) hgw).trans (by rw [ints_at HU.out k (by rw [bkL_len]; exact hk'), bkL_at hk']; rfl)
        have hstep : pls (bkS xs) 0 (k + 1) = pls (bkS xs) 0 k ++ if bkS xs k = 0 then [((k : Int) + 1)] else [] := rfl
        have hpl := pls_len (bkS xs) 0 k
        obtain ⟨x, hx⟩ : ∃ x, x = bkS xs k := ⟨_, rfl⟩
        rw [← hx] at h2 hstep
        have HPL := Lib.hid hpl
        clear hx hpl
        by_cases he : x = 0
        · rw [if_pos he] at hstep
          have hbe : (x == 0) = true := by simpa using he
          have HS := Lib.hid hstep
          clear he hstep
          go_wp2_with (at_builtin; refine wpI_app wr rfl _ _ rfl w2 ((k : Int) + 1) HX.out.1 rfl rfl HX.out.2 (by have := HPL.out; omega) ?_; intro v4 w4 ho4 hb4 hk4 hs4 hw4; have HO4 := Lib.hid ho4; have HB4 := Lib.hid hb4; clear ho4 hb4 hk4 hs4 hw4)
          go_roundw
          case rel => exact ⟨k + 1, by omega, by go_num, by rw [HS.out]; exact HO4.out, HB4.out⟩
          case measure => simp [intOf] <;> omega
        · rw [if_neg he, List.append_nil] at hstep
          have hbe : (x == 0) = false := by simpa using he
          have HS := Lib.hid hstep
          clear he hstep
          go_wp2_with fail
          go_roundw
          case rel => exact ⟨k + 1, by omega, by go_num, by rw [HS.out]; exact HX.out.1, HX.out.2⟩
          case measure => simp [intOf] <;> omega
      · obtain rfl : k = N := by omega
        go_wp2_with fail
        go_ret2
        exact ⟨_, rfl, intsA_mono (intsA_of HX.out.1) HB2.out.size, below_trans HB2.out HX.out.2, fun h => by cases h⟩

set_option maxHeartbeats 2000000 in
theorem implFirstPlaces_any (w : World) (B : Nat) (v : Value) (xs : List Int) (ha : IntsA w B v xs) :
    Calls Try.prog 12 #[v] w fun e w' => IntsAOk (fpO xs) w w' e := by
  have hL := isPlaceList_any w B v xs ha
  cases ht : plL xs with
  | false =>
    rw [ht] at hL
    rw [show fpO xs = none by unfold fpO; rw [ht]; rfl]
    obtain ⟨a, cap, rfl, _, _⟩ := intsA_slice ha
    have HL := Lib.hid hL; clear hL ha ht
    go_enter Try.func12, Try.ntmps12
    go_wp2_with fail
    refine HL.out.mono ?_
    rintro e w1 ⟨rfl, rfl⟩
    go_wp2_with fail
    go_ret2
    exact ⟨_, rfl, intsA_nil _ _, Below.refl _ _, fun _ => rfl⟩
  | true =>
    rw [ht] at hL
    rw [show fpO xs = some (pls (bkS xs) 0 xs.length) by unfold fpO; rw [ht]; rfl]
    obtain ⟨h1, h60, _⟩ := plL_open ht
    have hB := distancesBack_any w B v xs ha ht
    have hP := fun (W : World) (u : Value) (h : Ints W w.heap.size u (bkL xs)) => placesOf_any W u (bkL xs) 0 (argL_of_ints h) (by rw [bkL_len]; omega)
    rw [bkL_len, pls_congr (s := sq (bkL xs)) (t := bkS xs) 0 xs.length (fun i hi => sq_upL hi)] at hP
    obtain ⟨a, cap, rfl, _, _⟩ := intsA_slice ha
    have HL := Lib.hid hL; have HB := Lib.hid hB; have HP := Lib.hid hP; clear hL ha ht hB hP
    go_enter Try.func12, Try.ntmps12
    go_wp2_with fail
    refine HL.out.mono ?_
    rintro e w1 ⟨rfl, rfl⟩
    go_wp2_with fail
    refine HB.out.mono ?_
    rintro e w1 ⟨rfl, ho, hb⟩
    have HO := Lib.hid ho; have HB1 := Lib.hid hb; clear ho hb
    go_wp2_with fail
    refine (HP.out w1 _ HO.out).mono ?_
    rintro e w2 ⟨u, rfl, hu, hb⟩
    have HU := Lib.hid hu; have HB2 := Lib.hid hb; clear hu hb
    go_wp2_with fail
    go_ret2
    exact ⟨_, rfl, intsA_mono (intsA_of HU.out) HB1.out.size, below_trans HB1.out HB2.out, fun h => by cases h⟩

set_option maxHeartbeats 2000000 in
theorem specPlacesOfNumber_any (w : World) (B : Nat) (v : Value) (xs : List Int) (n : Int) (ha : IntsA w B v xs) :
    Calls Try.prog 26 #[v, .int .i64 n] w fun e w' => IntsAOk (pnO xs n) w w' e := by
  have hL := plGood_any w B v xs ha
  cases ht : plL xs with
  | false =>
    rw [ht] at hL
    rw [show pnO xs n = none by unfold pnO pnB; rw [ht]; rfl]
    obtain ⟨a, cap, rfl, _, _⟩ := intsA_slice ha
    have HL := Lib.hid hL; clear hL ha ht
    go_enter Try.func26, Try.ntmps26
    go_wp2_with fail
    refine HL.out.mono ?_
    rintro e w1 ⟨rfl, rfl⟩
    go_wp2_with fail
    go_ret2
    exact ⟨_, rfl, intsA_nil _ _, Below.refl _ _, fun _ => rfl⟩
  | true =>
    rw [ht] at hL
    obtain ⟨h1, h60, _⟩ := plL_open ht
    cases hd : decide ((0 : Int) ≤ n ∧ n ≤ 1000) with
    | false =>
      rw [show pnO xs n = none by unfold pnO pnB; rw [ht, hd]; rfl]
      obtain ⟨a, cap, rfl, _, _⟩ := intsA_slice ha
      have HL := Lib.hid hL; have HD := Lib.hid hd; clear hL ha ht hd
      go_enter Try.func26, Try.ntmps26
      go_wp2_with fail
      refine HL.out.mono ?_
      rintro e w1 ⟨rfl, rfl⟩
      go_wp2_with fail
      refine (l1In_is false _ _ _ _ HD.out).mono ?_
      rintro e w1 ⟨rfl, rfl⟩
      go_wp2_with fail
      go_ret2
      exact ⟨_, rfl, intsA_nil _ _, Below.refl _ _, fun _ => rfl⟩
    | true =>
      rw [show pnO xs n = some (pls (sq xs) n xs.length) by unfold pnO pnB; rw [ht, hd]; rfl]
      obtain ⟨g, cap, hv, hc1, hc2, _, hg, hce⟩ := intsA_at ha h1
      obtain ⟨N, hN⟩ : ∃ N, N = xs.length := ⟨_, rfl⟩
      have HN := Lib.hid hN
      rw [← hN] at hv h1 h60 hc1 ⊢
      subst hv
      have HL := Lib.hid hL; have HD := Lib.hid hd; have HC := Lib.hid hce; clear hL ha ht hN hd hce
      go_enter Try.func26, Try.ntmps26
      go_wp2_with fail
      refine HL.out.mono ?_
      rintro e w1 ⟨rfl, rfl⟩
      go_wp2_with fail
      refine (l1In_is true _ _ _ _ HD.out).mono ?_
      rintro e w1 ⟨rfl, rfl⟩
      go_wp2_with fail
      go_loopw [6, 19] (fun ov iv wr => ∃ k : Nat, k ≤ N ∧ iv = .int .i64 k ∧ Hid (Ints wr w.heap.size ov (pls (sq xs) n k) ∧ Below w.heap.size w wr)) (fun _ iv _ => N - (intOf iv).toNat)
      case atStart => exact ⟨0, Nat.zero_le _, rfl, World.ownsRow_nil _ _ _ _, Below.refl _ _⟩
      case round =>
        obtain ⟨k, hk, rfl, HX⟩ := hrel
        by_cases hlt : k < N
        · have hk' : k < xs.length := by rw [← HN.out]; exact hlt
          have h2 : wr.cell? ⟨g, k, none⟩ = some (.int .i64 xs[k]) := (HX.out.2.cell (p := ⟨g, k, none⟩) hg).trans (HC.out k hk')
          have hstep : pls (sq xs) n (k + 1) = pls (sq xs) n k ++ if xs[k] = n then [((k : Int) + 1)] else [] := by rw [← sq_at hk']; rfl
          have hpl := pls_len (sq xs) n k
          obtain ⟨x, hx⟩ : ∃ x, x = xs[k] := ⟨_, rfl⟩
          rw [← hx] at h2 hstep
          have HPL := Lib.hid hpl
          clear hx hpl
          by_cases he : x = n
          · rw [if_pos he] at hstep
            have hbe : (x == n) = true := by simpa using he
            have HS := Lib.hid hstep
            clear he hstep
            go_wp2_with (at_builtin; refine wpI_app wr rfl _ _ rfl w ((k : Int) + 1) HX.out.1 rfl rfl HX.out.2 (by have := HPL.out; omega) ?_; intro v4 w4 ho4 hb4 hk4 hs4 hw4; have HO4 := Lib.hid ho4; have HB4 := Lib.hid hb4; clear ho4 hb4 hk4 hs4 hw4)
            go_roundw
            case rel => exact ⟨k + 1, by omega, by go_num, by rw [HS.out]; exact HO4.out, HB4.out⟩
            case measure => simp [intOf] <;> omega
          · rw [if_neg he, List.append_nil] at hstep
            have hbe : (x == n) = false := by simpa using he
            have HS := Lib.hid hstep
            clear he hstep
            go_wp2_with fail
            go_roundw
            case rel => exact ⟨k + 1, by omega, by go_num, by rw [HS.out]; exact HX.out.1, HX.out.2⟩
            case measure => simp [intOf] <;> omega
        · obtain rfl : k = N := by omega
          go_wp2_with fail
          go_ret2
          exact ⟨_, rfl, intsA_of HX.out.1, HX.out.2, fun h => by cases h⟩

set_option maxHeartbeats 2000000 in
theorem implPlacesOfNumber_any (w : World) (B : Nat) (v : Value) (xs : List Int) (n : Int) (ha : IntsA w B v xs) :
    Calls Try.prog 21 #[v, .int .i64 n] w fun e w' => IntsAOk (pnO xs n) w w' e := by
  have hL := isPlaceList_any w B v xs ha
  cases ht : plL xs with
  | false =>
    rw [ht] at hL
    rw [show pnO xs n = none by unfold pnO pnB; rw [ht]; rfl]
    obtain ⟨a, cap, rfl, _, _⟩ := intsA_slice ha
    have HL := Lib.hid hL; clear hL ha ht
    go_enter Try.func21, Try.ntmps21
    go_wp2_with fail
    refine HL.out.mono ?_
    rintro e w1 ⟨rfl, rfl⟩
    go_wp2_with fail
    go_ret2
    exact ⟨_, rfl, intsA_nil _ _, Below.refl _ _, fun _ => rfl⟩
  | true =>
    rw [ht] at hL
    obtain ⟨h1, h60, _⟩ := plL_open ht
    cases hd : decide ((0 : Int) ≤ n ∧ n ≤ 1000) with
    | false =>
      rw [show pnO xs n = none by unfold pnO pnB; rw [ht, hd]; rfl]
      obtain ⟨a, cap, rfl, _, _⟩ := intsA_slice ha
      have HL := Lib.hid hL; have HD := Lib.hid hd; clear hL ha ht hd
      go_enter Try.func21, Try.ntmps21
      go_wp2_with fail
      refine HL.out.mono ?_
      rintro e w1 ⟨rfl, rfl⟩
      go_wp2_with fail
      refine (isWithin_is false _ _ _ _ HD.out).mono ?_
      rintro e w1 ⟨rfl, rfl⟩
      go_wp2_with fail
      go_ret2
      exact ⟨_, rfl, intsA_nil _ _, Below.refl _ _, fun _ => rfl⟩
    | true =>
      rw [show pnO xs n = some (pls (sq xs) n xs.length) by unfold pnO pnB; rw [ht, hd]; rfl]
      have hP := placesOf_any w v xs n (argL_of_intsA ha) (by omega)
      obtain ⟨a, cap, rfl, _, _⟩ := intsA_slice ha
      have HL := Lib.hid hL; have HD := Lib.hid hd; have HP := Lib.hid hP; clear hL ha ht hd hP
      go_enter Try.func21, Try.ntmps21
      go_wp2_with fail
      refine HL.out.mono ?_
      rintro e w1 ⟨rfl, rfl⟩
      go_wp2_with fail
      refine (isWithin_is true _ _ _ _ HD.out).mono ?_
      rintro e w1 ⟨rfl, rfl⟩
      go_wp2_with fail
      refine HP.out.mono ?_
      rintro e w2 ⟨u, rfl, hu, hb⟩
      have HU := Lib.hid hu; have HB2 := Lib.hid hb; clear hu hb
      go_wp2_with fail
      go_ret2
      exact ⟨_, rfl, intsA_of HU.out, HB2.out, fun h => by cases h⟩

set_option maxHeartbeats 2000000 in
theorem specGreatestGap_any (w : World) (B : Nat) (v : Value) (xs : List Int) (ha : IntsA w B v xs) :
    Calls Try.prog 15 #[v] w fun e w' => e = .returned (.tuple #[.int .i64 (ggV xs), .bool (plL xs)]) ∧ Below w.heap.size w w' := by
  have hL := plGood_any w B v xs ha
  cases ht : plL xs with
  | false =>
    rw [ht] at hL
    rw [show ggV xs = 0 by unfold ggV; rw [ht]; rfl]
    obtain ⟨a, cap, rfl, _, _⟩ := intsA_slice ha
    have HL := Lib.hid hL; clear hL ha ht
    go_enter Try.func15, Try.ntmps15
    go_wp2_with fail
    refine HL.out.mono ?_
    rintro e w1 ⟨rfl, rfl⟩
    go_wp2_with fail
    go_ret2
    exact ⟨rfl, Below.refl _ _⟩
  | true =>
    rw [ht] at hL
    rw [show ggV xs = mxS (bkS xs) xs.length by unfold ggV; rw [ht]; rfl]
    obtain ⟨h1, h60, _⟩ := plL_open ht
    have hB := plBacks_any w B v xs ha h1 (by omega)
    obtain ⟨a, cap, hv, _, _⟩ := intsA_slice ha
    obtain ⟨N, hN⟩ : ∃ N, N = xs.length := ⟨_, rfl⟩
    have HN := Lib.hid hN
    rw [← hN] at hv h1 h60 ⊢
    subst hv
    have HL := Lib.hid hL; have HB := Lib.hid hB; clear hL ha ht hB hN
    go_enter Try.func15, Try.ntmps15
    go_wp2_with fail
    refine HL.out.mono ?_
    rintro e w1 ⟨rfl, rfl⟩
    go_wp2_with fail
    refine HB.out.mono ?_
    rintro e w2 ⟨u, rfl, hu, hb2⟩
    obtain ⟨gu, cu, rfl, hgu, hgw, hcu, hnc⟩ := ints_slice hu (by rw [bkL_len, ← HN.out]; exact h1)
    have hlen : (bkL xs).length = N := by rw [bkL_len, HN.out]
    rw [hlen] at hu hnc ⊢
    have HU := Lib.hid hu; have HB2 := Lib.hid hb2
    clear hu hb2 hlen
    go_wp2_with fail
    go_loop [4, 13] (fun mv iv => ∃ (k : Nat) (m : Int), k ≤ N ∧ iv = .int .i64 k ∧ mv = .int .i64 m ∧ Hid (m = mxS (bkS xs) k)) (fun _ iv => N - (intOf iv).toNat)
    case atStart => exact ⟨0, 0, Nat.zero_le _, rfl, rfl, rfl⟩
    case round =>
      obtain ⟨k, m, hk, rfl, rfl, HX⟩ := hrel
      by_cases hlt : k < N
      · have hk' : k < xs.length := by rw [← HN.out]; exact hlt
        have h2 : w2.cell? ⟨gu, k, none⟩ = some (.int .i64 (bkS xs k)) := by rw [ints_at HU.out k (by rw [bkL_len]; exact hk'), bkL_at hk']; rfl
        have hstep : mxS (bkS xs) (k + 1) = if m > bkS xs k then m else bkS xs k := by rw [HX.out]; rfl
        obtain ⟨x, hx⟩ : ∃ x, x = bkS xs k := ⟨_, rfl⟩
        rw [← hx] at h2 hstep
        have HS := Lib.hid hstep
        clear hx hstep
        go_wp2_with fail
        refine (l1Most_any w2 m x).mono ?_
        rintro e w3 ⟨rfl, rfl⟩
        go_wp2_with fail
        go_round
        case rel => exact ⟨k + 1, _, by omega, by go_num, rfl, Lib.hid HS.out.symm⟩
        case measure => simp [intOf] <;> omega
      · obtain rfl : k = N := by omega
        go_wp2_with fail
        go_ret2
        exact ⟨by rw [HX.out]; rfl, HB2.out⟩

set_option maxHeartbeats 2000000 in
theorem implGreatestGap_any (w : World) (B : Nat) (v : Value) (xs : List Int) (ha : IntsA w B v xs) :
    Calls Try.prog 14 #[v] w fun e w' => e = .returned (.tuple #[.int .i64 (ggV xs), .bool (plL xs)]) ∧ Below w.heap.size w w' := by
  have hL := isPlaceList_any w B v xs ha
  cases ht : plL xs with
  | false =>
    rw [ht] at hL
    rw [show ggV xs = 0 by unfold ggV; rw [ht]; rfl]
    obtain ⟨a, cap, rfl, _, _⟩ := intsA_slice ha
    have HL := Lib.hid hL; clear hL ha ht
    go_enter Try.func14, Try.ntmps14
    go_wp2_with fail
    refine HL.out.mono ?_
    rintro e w1 ⟨rfl, rfl⟩
    go_wp2_with fail
    go_ret2
    exact ⟨rfl, Below.refl _ _⟩
  | true =>
    rw [ht] at hL
    rw [show ggV xs = mxS (bkS xs) xs.length by unfold ggV; rw [ht]; rfl]
    obtain ⟨h1, h60, _⟩ := plL_open ht
    have hB := distancesBack_any w B v xs ha ht
    have hP := fun (W : World) (u : Value) (h : Ints W w.heap.size u (bkL xs)) => greatestOf_any W u (bkL xs) (argL_of_ints h) (by rw [bkL_len]; omega)
    rw [bkL_len, mxS_congr (s := sq (bkL xs)) (t := bkS xs) xs.length (fun i hi => sq_upL hi)] at hP
    obtain ⟨a, cap, rfl, _, _⟩ := intsA_slice ha
    have HL := Lib.hid hL; have HB := Lib.hid hB; have HP := Lib.hid hP; clear hL ha ht hB hP
    go_enter Try.func14, Try.ntmps14
    go_wp2_with fail
    refine HL.out.mono ?_
    rintro e w1 ⟨rfl, rfl⟩
    go_wp2_with fail
    refine HB.out.mono ?_
    rintro e w1 ⟨rfl, ho, hb⟩
    have HO := Lib.hid ho; have HB1 := Lib.hid hb; clear ho hb
    go_wp2_with fail
    refine (HP.out w1 _ HO.out).mono ?_
    rintro e w2 ⟨rfl, rfl⟩
    go_wp2_with fail
    go_ret2
    exact ⟨rfl, HB1.out⟩

end Go.Proofs.Ytpglkgpaaflikaa
