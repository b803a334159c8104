/- Chapter 6: FirstPlaces, PlacesOfNumber, GreatestGap on both sides, and their laws. -/
import Derived.Test.YtbjhalhahipjdaaY5
import Derived.Test.YtbjhalhahipjdaaY6
namespace Go.Proofs.Ytbjhalhahipjdaa
open Go.RowKit Go.BigFrame Go.Maps
set_option linter.unusedSimpArgs false
set_option linter.unusedVariables false
set_option maxRecDepth 4000

def fpO (xs : List Int) : Option (List Int) := if plL xs = true then some (pls (bkS xs) 0 xs.length) else none
theorem fpO_len (xs : List Int) : ((fpO xs).getD []).length ≤ 60 := by
  unfold fpO
  split
  · rename_i h; exact Nat.le_trans (pls_len _ _ _) (plL_open h).2.1
  · simp
def pnB (xs : List Int) (n : Int) : Bool := plL xs && decide (0 ≤ n ∧ n ≤ 1000)
def pnO (xs : List Int) (n : Int) : Option (List Int) := if pnB xs n = true then some (pls (sq xs) n xs.length) else none
theorem pnO_len (xs : List Int) (n : Int) : ((pnO xs n).getD []).length ≤ 60 := by
  unfold pnO
  split
  · rename_i h; rw [pnB, Bool.and_eq_true] at h; exact Nat.le_trans (pls_len _ _ _) (plL_open h.1).2.1
  · simp
def ggV (xs : List Int) : Int := if plL xs = true then mxS (bkS xs) xs.length else 0
theorem pls_congr {s t : Nat → Int} (y : Int) : ∀ k, (∀ i, i < k → s i = t i) → pls s y k = pls t y k
  | 0, _ => rfl
  | k + 1, h => by unfold pls; rw [h k (Nat.lt_succ_self k), pls_congr y k (fun i hi => h i (Nat.lt_succ_of_lt hi))]
theorem mxS_congr {s t : Nat → Int} : ∀ k, (∀ i, i < k → s i = t i) → mxS s k = mxS t k
  | 0, _ => rfl
  | k + 1, h => by unfold mxS; rw [h k (Nat.lt_succ_self k), mxS_congr k (fun i hi => h i (Nat.lt_succ_of_lt hi))]

set_option maxHeartbeats 2000000 in
theorem specFirstPlaces_any (w : World) (B : Nat) (v : Value) (xs : List Int) (ha : IntsA w B v xs) :
    Calls Try.prog 31 #[v] w fun e w' => IntsAOk (fpO xs) w w' e := by
  have hL := plGood_any w B v xs ha
  cases ht : plL xs with
  | false =>
    rw [ht] at hL
    rw [show fpO xs = none by unfold fpO; rw [ht]; rfl]
    obtain ⟨a, cap, rfl, _, _⟩ := intsA_slice ha
    have HL := Lib.hid hL; clear hL ha ht
    go_enter Try.func31, Try.ntmps31
    go_wp2_with fail
    refine HL.out.mono ?_
    rintro e w1 ⟨rfl, rfl⟩
    go_wp2_with fail
    go_ret2
    exact ⟨_, rfl, intsA_nil _ _, Below.refl _ _, fun _ => rfl⟩
  | true =>
    rw [ht] at hL
    rw [show fpO xs = some (pls (bkS xs) 0 xs.length) by unfold fpO; rw [ht]; rfl]
    obtain ⟨h1, h60, _⟩ := plL_open ht
    have hB := plBacks_any w B v xs ha h1 (by omega)
    obtain ⟨a, cap, hv, _, _⟩ := intsA_slice ha
    obtain ⟨N, hN⟩ : ∃ N, N = xs.length := ⟨_, rfl⟩
    have HN := Lib.hid hN
    rw [← hN] at hv h1 h60 ⊢
    subst hv
    have HL := Lib.hid hL; have HB := Lib.hid hB; clear hL ha ht hB hN
    go_enter Try.func31, Try.ntmps31
    go_wp2_with fail
    refine HL.out.mono ?_
    rintro e w1 ⟨rfl, rfl⟩
    go_wp2_with fail
    refine HB.out.mono ?_
    rintro e w2 ⟨u, rfl, hu, hb2⟩
    obtain ⟨gu, cu, rfl, hgu, hgw, hcu, hnc⟩ := ints_slice hu (by rw [bkL_len, ← HN.out]; exact h1)
    have hlen : (bkL xs).length = N := by rw [bkL_len, HN.out]
    rw [hlen] at hu hnc ⊢
    have HU := Lib.hid hu; have HB2 := Lib.hid hb2
    clear hu hb2 hlen
    go_wp2_with fail
    go_loopw [4, 13] (fun ov iv wr => ∃ k : Nat, k ≤ N ∧ iv = .int .i64 k ∧ Hid (Ints wr w2.heap.size ov (pls (bkS xs) 0 k) ∧ Below w2.heap.size w2 wr)) (fun _ iv _ => N - (intOf iv).toNat)
    case atStart => exact ⟨0, Nat.zero_le _, rfl, World.ownsRow_nil _ _ _ _, Below.refl _ _⟩
    case round =>
      obtain ⟨k, hk, rfl, HX⟩ := hrel
      by_cases hlt : k < N
      · have hk' : k < xs.length := by rw [← HN.out]; exact hlt
        have h2 : wr.cell? ⟨gu, k, none⟩ = some (.int .i64 (bkS xs k)) := (HX.out.2.cell (p := ⟨gu, k, none⟩) hgw).trans (by rw [ints_at HU.out k (by rw [bkL_len]; exact hk'), bkL_at hk']; rfl)
        have hstep : pls (bkS xs) 0 (k + 1) = pls (bkS xs) 0 k ++ if bkS xs k = 0 then [((k : Int) + 1)] else [] := rfl
        have hpl := pls_len (bkS xs) 0 k
        obtain ⟨x, hx⟩ : ∃ x, x = bkS xs k := ⟨_, rfl⟩
        rw [← hx] at h2 hstep
        have HPL := Lib.hid hpl
        clear hx hpl
        by_cases he : x = 0
        · rw [if_pos he] at hstep
          have hbe : (x == 0) = true := by simpa using he
          have HS := Lib.hid hstep
          clear he hstep
          go_wp2_with (at_builtin; refine wpI_app wr rfl _ _ rfl w2 ((k : Int) + 1) HX.out.1 rfl rfl HX.out.2 (by have := HPL.out; omega) ?_; intro v4 w4 ho4 hb4 hk4 hs4 hw4; have HO4 := Lib.hid ho4; have HB4 := Lib.hid hb4; clear ho4 hb4 hk4 hs4 hw4)
          go_roundw
          case rel => exact ⟨k + 1, by omega, by go_num, by rw [HS.out]; exact HO4.out, HB4.out⟩
          case measure => simp [intOf] <;> omega
        · rw [if_neg he, List.append_nil] at hstep
          have hbe : (x == 0) = false := by simpa using he
          have HS := Lib.hid hstep
          clear he hstep
          go_wp2_with fail
          go_roundw
          case rel => exact ⟨k + 1, by omega, by go_num, by rw [HS.out]; exact HX.out.1, HX.out.2⟩
          case measure => simp [intOf] <;> omega
      · obtain rfl : k = N := by omega
        go_wp2_with fail
        go_ret2
        exact ⟨_, rfl, intsA_mono (intsA_of HX.out.1) HB2.out.size, below_trans HB2.out HX.out.2, fun h => by cases h⟩

set_option maxHeartbeats 2000000 in
theorem implFirstPlaces_any (w : World) (B : Nat) (v : Value) (xs : List Int) (ha : IntsA w B v xs) :
    Calls Try.prog 32 #[v] w fun e w' => IntsAOk (fpO xs) w w' e := by
  have hL := isPlaceList_any w B v xs ha
  cases ht : plL xs with
  | false =>
    rw [ht] at hL
    rw [show fpO xs = none by unfold fpO; rw [ht]; rfl]
    obtain ⟨a, cap, rfl, _, _⟩ := intsA_slice ha
    have HL := Lib.hid hL; clear hL ha ht
    go_enter Try.func32, Try.ntmps32
    go_wp2_with fail
    refine HL.out.mono ?_
    rintro e w1 ⟨rfl, rfl⟩
    go_wp2_with fail
    go_ret2
    exact ⟨_, rfl, intsA_nil _ _, Below.refl _ _, fun _ => rfl⟩
  | true =>
    rw [ht] at hL
    rw [show fpO xs = some (pls (bkS xs) 0 xs.length) by unfold fpO; rw [ht]; rfl]
    obtain ⟨h1, h60, _⟩ := plL_open ht
    have hB := distancesBack_any w B v xs ha ht
    have hP := fun (W : World) (u : Value) (h : Ints W w.heap.size u (bkL xs)) => placesOf_any W u (bkL xs) 0 (argL_of_ints h) (by rw [bkL_len]; omega)
    rw [bkL_len, pls_congr (s := sq (bkL xs)) (t := bkS xs) 0 xs.length (fun i hi => sq_upL hi)] at hP
    obtain ⟨a, cap, rfl, _, _⟩ := intsA_slice ha
    have HL := Lib.hid hL; have HB := Lib.hid hB; have HP := Lib.hid hP; clear hL ha ht hB hP
    go_enter Try.func32, Try.ntmps32
    go_wp2_with fail
    refine HL.out.mono ?_
    rintro e w1 ⟨rfl, rfl⟩
    go_wp2_with fail
    refine HB.out.mono ?_
    rintro e w1 ⟨rfl, ho, hb⟩
    have HO := Lib.hid ho; have HB1 := Lib.hid hb; clear ho hb
    go_wp2_with fail
    refine (HP.out w1 _ HO.out).mono ?_
    rintro e w2 ⟨u, rfl, hu, hb⟩
    have HU := Lib.hid hu; have HB2 := Lib.hid hb; clear hu hb
    go_wp2_with fail
    go_ret2
    exact ⟨_, rfl, intsA_mono (intsA_of HU.out) HB1.out.size, below_trans HB1.out HB2.out, fun h => by cases h⟩

set_option maxHeartbeats 2000000 in
theorem specPlacesOfNumber_any (w : World) (B : Nat) (v : Value) (xs : List Int) (n : Int) (ha : IntsA w B v xs) :
    Calls Try.prog 33 #[v, .int .i64 n] w fun e w' => IntsAOk (pnO xs n) w w' e := by
  have hL := plGood_any w B v xs ha
  cases ht : plL xs with
  | false =>
    rw [ht] at hL
    rw [show pnO xs n = none by unfold pnO pnB; rw [ht]; rfl]
    obtain ⟨a, cap, rfl, _, _⟩ := intsA_slice ha
    have HL := Lib.hid hL; clear hL ha ht
    go_enter Try.func33, Try.ntmps33
    go_wp2_with fail
    refine HL.out.mono ?_
    rintro e w1 ⟨rfl, rfl⟩
    go_wp2_with fail
    go_ret2
    exact ⟨_, rfl, intsA_nil _ _, Below.refl _ _, fun _ => rfl⟩
  | true =>
    rw [ht] at hL
    obtain ⟨h1, h60, _⟩ := plL_open ht
    cases hd : decide ((0 : Int) ≤ n ∧ n ≤ 1000) with
    | false =>
      rw [show pnO xs n = none by unfold pnO pnB; rw [ht, hd]; rfl]
      obtain ⟨a, cap, rfl, _, _⟩ := intsA_slice ha
      have HL := Lib.hid hL; have HD := Lib.hid hd; clear hL ha ht hd
      go_enter Try.func33, Try.ntmps33
      go_wp2_with fail
      refine HL.out.mono ?_
      rintro e w1 ⟨rfl, rfl⟩
      go_wp2_with fail
      refine (l1In_is false _ _ _ _ HD.out).mono ?_
      rintro e w1 ⟨rfl, rfl⟩
      go_wp2_with fail
      go_ret2
      exact ⟨_, rfl, intsA_nil _ _, Below.refl _ _, fun _ => rfl⟩
    | true =>
      rw [show pnO xs n = some (pls (sq xs) n xs.length) by unfold pnO pnB; rw [ht, hd]; rfl]
      obtain ⟨g, cap, hv, hc1, hc2, _, hg, hce⟩ := intsA_at ha h1
      obtain ⟨N, hN⟩ : ∃ N, N = xs.length := ⟨_, rfl⟩
      have HN := Lib.hid hN
      rw [← hN] at hv h1 h60 hc1 ⊢
      subst hv
      have HL := Lib.hid hL; have HD := Lib.hid hd; have HC := Lib.hid hce; clear hL ha ht hN hd hce
      go_enter Try.func33, Try.ntmps33
      go_wp2_with fail
      refine HL.out.mono ?_
      rintro e w1 ⟨rfl, rfl⟩
      go_wp2_with fail
      refine (l1In_is true _ _ _ _ HD.out).mono ?_
      rintro e w1 ⟨rfl, rfl⟩
      go_wp2_with fail
      go_loopw [6, 19] (fun ov iv wr => ∃ k : Nat, k ≤ N ∧ iv = .int .i64 k ∧ Hid (Ints wr w.heap.size ov (pls (sq xs) n k) ∧ Below w.heap.size w wr)) (fun _ iv _ => N - (intOf iv).toNat)
      case atStart => exact ⟨0, Nat.zero_le _, rfl, World.ownsRow_nil _ _ _ _, Below.refl _ _⟩
      case round =>
        obtain ⟨k, hk, rfl, HX⟩ := hrel
        by_cases hlt : k < N
        · have hk' : k < xs.length := by rw [← HN.out]; exact hlt
          have h2 : wr.cell? ⟨g, k, none⟩ = some (.int .i64 xs[k]) := (HX.out.2.cell (p := ⟨g, k, none⟩) hg).trans (HC.out k hk')
          have hstep : pls (sq xs) n (k + 1) = pls (sq xs) n k ++ if xs[k] = n then [((k : Int) + 1)] else [] := by rw [← sq_at hk']; rfl
          have hpl := pls_len (sq xs) n k
          obtain ⟨x, hx⟩ : ∃ x, x = xs[k] := ⟨_, rfl⟩
          rw [← hx] at h2 hstep
          have HPL := Lib.hid hpl
          clear hx hpl
          by_cases he : x = n
          · rw [if_pos he] at hstep
            have hbe : (x == n) = true := by simpa using he
            have HS := Lib.hid hstep
            clear he hstep
            go_wp2_with (at_builtin; refine wpI_app wr rfl _ _ rfl w ((k : Int) + 1) HX.out.1 rfl rfl HX.out.2 (by have := HPL.out; omega) ?_; intro v4 w4 ho4 hb4 hk4 hs4 hw4; have HO4 := Lib.hid ho4; have HB4 := Lib.hid hb4; clear ho4 hb4 hk4 hs4 hw4)
            go_roundw
            case rel => exact ⟨k + 1, by omega, by go_num, by rw [HS.out]; exact HO4.out, HB4.out⟩
            case measure => simp [intOf] <;> omega
          · rw [if_neg he, List.append_nil] at hstep
            have hbe : (x == n) = false := by simpa using he
            have HS := Lib.hid hstep
            clear he hstep
            go_wp2_with fail
            go_roundw
            case rel => exact ⟨k + 1, by omega, by go_num, by rw [HS.out]; exact HX.out.1, HX.out.2⟩
            case measure => simp [intOf] <;> omega
        · obtain rfl : k = N := by omega
          go_wp2_with fail
          go_ret2
          exact ⟨_, rfl, intsA_of HX.out.1, HX.out.2, fun h => by cases h⟩

set_option maxHeartbeats 2000000 in
theorem implPlacesOfNumber_any (w : World) (B : Nat) (v : Value) (xs : List Int) (n : Int) (ha : IntsA w B v xs) :
    Calls Try.prog 34 #[v, .int .i64 n] w fun e w' => IntsAOk (pnO xs n) w w' e := by
  have hL := isPlaceList_any w B v xs ha
  cases ht : plL xs with
  | false =>
    rw [ht] at hL
    rw [show pnO xs n = none by unfold pnO pnB; rw [ht]; rfl]
    obtain ⟨a, cap, rfl, _, _⟩ := intsA_slice ha
    have HL := Lib.hid hL; clear hL ha ht
    go_enter Try.func34, Try.ntmps34
    go_wp2_with fail
    refine HL.out.mono ?_
    rintro e w1 ⟨rfl, rfl⟩
    go_wp2_with fail
    go_ret2
    exact ⟨_, rfl, intsA_nil _ _, Below.refl _ _, fun _ => rfl⟩
  | true =>
    rw [ht] at hL
    obtain ⟨h1, h60, _⟩ := plL_open ht
    cases hd : decide ((0 : Int) ≤ n ∧ n ≤ 1000) with
    | false =>
      rw [show pnO xs n = none by unfold pnO pnB; rw [ht, hd]; rfl]
      obtain ⟨a, cap, rfl, _, _⟩ := intsA_slice ha
      have HL := Lib.hid hL; have HD := Lib.hid hd; clear hL ha ht hd
      go_enter Try.func34, Try.ntmps34
      go_wp2_with fail
      refine HL.out.mono ?_
      rintro e w1 ⟨rfl, rfl⟩
      go_wp2_with fail
      refine (isWithin_is false _ _ _ _ HD.out).mono ?_
      rintro e w1 ⟨rfl, rfl⟩
      go_wp2_with fail
      go_ret2
      exact ⟨_, rfl, intsA_nil _ _, Below.refl _ _, fun _ => rfl⟩
    | true =>
      rw [show pnO xs n = some (pls (sq xs) n xs.length) by unfold pnO pnB; rw [ht, hd]; rfl]
      have hP := placesOf_any w v xs n (argL_of_intsA ha) (by omega)
      obtain ⟨a, cap, rfl, _, _⟩ := intsA_slice ha
      have HL := Lib.hid hL; have HD := Lib.hid hd; have HP := Lib.hid hP; clear hL ha ht hd hP
      go_enter Try.func34, Try.ntmps34
      go_wp2_with fail
      refine HL.out.mono ?_
      rintro e w1 ⟨rfl, rfl⟩
      go_wp2_with fail
      refine (isWithin_is true _ _ _ _ HD.out).mono ?_
      rintro e w1 ⟨rfl, rfl⟩
      go_wp2_with fail
      refine HP.out.mono ?_
      rintro e w2 ⟨u, rfl, hu, hb⟩
      have HU := Lib.hid hu; have HB2 := Lib.hid hb; clear hu hb
      go_wp2_with fail
      go_ret2
      exact ⟨_, rfl, intsA_of HU.out, HB2.out, fun h => by cases h⟩

set_option maxHeartbeats 2000000 in
theorem specGreatestGap_any (w : World) (B : Nat) (v : Value) (xs : List Int) (ha : IntsA w B v xs) :
    Calls Try.prog 35 #[v] w fun e w' => e = .returned (.tuple #[.int .i64 (ggV xs), .bool (plL xs)]) ∧ Below w.heap.size w w' := by
  have hL := plGood_any w B v xs ha
  cases ht : plL xs with
  | false =>
    rw [ht] at hL
    rw [show ggV xs = 0 by unfold ggV; rw [ht]; rfl]
    obtain ⟨a, cap, rfl, _, _⟩ := intsA_slice ha
    have HL := Lib.hid hL; clear hL ha ht
    go_enter Try.func35, Try.ntmps35
    go_wp2_with fail
    refine HL.out.mono ?_
    rintro e w1 ⟨rfl, rfl⟩
    go_wp2_with fail
    go_ret2
    exact ⟨rfl, Below.refl _ _⟩
  | true =>
    rw [ht] at hL
    rw [show ggV xs = mxS (bkS xs) xs.length by unfold ggV; rw [ht]; rfl]
    obtain ⟨h1, h60, _⟩ := plL_open ht
    have hB := plBacks_any w B v xs ha h1 (by omega)
    obtain ⟨a, cap, hv, _, _⟩ := intsA_slice ha
    obtain ⟨N, hN⟩ : ∃ N, N = xs.length := ⟨_, rfl⟩
    have HN := Lib.hid hN
    rw [← hN] at hv h1 h60 ⊢
    subst hv
    have HL := Lib.hid hL; have HB := Lib.hid hB; clear hL ha ht hB hN
    go_enter Try.func35, Try.ntmps35
    go_wp2_with fail
    refine HL.out.mono ?_
    rintro e w1 ⟨rfl, rfl⟩
    go_wp2_with fail
    refine HB.out.mono ?_
    rintro e w2 ⟨u, rfl, hu, hb2⟩
    obtain ⟨gu, cu, rfl, hgu, hgw, hcu, hnc⟩ := ints_slice hu (by rw [bkL_len, ← HN.out]; exact h1)
    have hlen : (bkL xs).length = N := by rw [bkL_len, HN.out]
    rw [hlen] at hu hnc ⊢
    have HU := Lib.hid hu; have HB2 := Lib.hid hb2
    clear hu hb2 hlen
    go_wp2_with fail
    go_loop [4, 13] (fun mv iv => ∃ (k : Nat) (m : Int), k ≤ N ∧ iv = .int .i64 k ∧ mv = .int .i64 m ∧ Hid (m = mxS (bkS xs) k)) (fun _ iv => N - (intOf iv).toNat)
    case atStart => exact ⟨0, 0, Nat.zero_le _, rfl, rfl, rfl⟩
    case round =>
      obtain ⟨k, m, hk, rfl, rfl, HX⟩ := hrel
      by_cases hlt : k < N
      · have hk' : k < xs.length := by rw [← HN.out]; exact hlt
        have h2 : w2.cell? ⟨gu, k, none⟩ = some (.int .i64 (bkS xs k)) := by rw [ints_at HU.out k (by rw [bkL_len]; exact hk'), bkL_at hk']; rfl
        have hstep : mxS (bkS xs) (k + 1) = if m > bkS xs k then m else bkS xs k := by rw [HX.out]; rfl
        obtain ⟨x, hx⟩ : ∃ x, x = bkS xs k := ⟨_, rfl⟩
        rw [← hx] at h2 hstep
        have HS := Lib.hid hstep
        clear hx hstep
        go_wp2_with fail
        refine (l1Most_any w2 m x).mono ?_
        rintro e w3 ⟨rfl, rfl⟩
        go_wp2_with fail
        go_round
        case rel => exact ⟨k + 1, _, by omega, by go_num, rfl, Lib.hid HS.out.symm⟩
        case measure => simp [intOf] <;> omega
      · obtain rfl : k = N := by omega
        go_wp2_with fail
        go_ret2
        exact ⟨by rw [HX.out]; rfl, HB2.out⟩

set_option maxHeartbeats 2000000 in
theorem implGreatestGap_any (w : World) (B : Nat) (v : Value) (xs : List Int) (ha : IntsA w B v xs) :
    Calls Try.prog 36 #[v] w fun e w' => e = .returned (.tuple #[.int .i64 (ggV xs), .bool (plL xs)]) ∧ Below w.heap.size w w' := by
  have hL := isPlaceList_any w B v xs ha
  cases ht : plL xs with
  | false =>
    rw [ht] at hL
    rw [show ggV xs = 0 by unfold ggV; rw [ht]; rfl]
    obtain ⟨a, cap, rfl, _, _⟩ := intsA_slice ha
    have HL := Lib.hid hL; clear hL ha ht
    go_enter Try.func36, Try.ntmps36
    go_wp2_with fail
    refine HL.out.mono ?_
    rintro e w1 ⟨rfl, rfl⟩
    go_wp2_with fail
    go_ret2
    exact ⟨rfl, Below.refl _ _⟩
  | true =>
    rw [ht] at hL
    rw [show ggV xs = mxS (bkS xs) xs.length by unfold ggV; rw [ht]; rfl]
    obtain ⟨h1, h60, _⟩ := plL_open ht
    have hB := distancesBack_any w B v xs ha ht
    have hP := fun (W : World) (u : Value) (h : Ints W w.heap.size u (bkL xs)) => greatestOf_any W u (bkL xs) (argL_of_ints h) (by rw [bkL_len]; omega)
    rw [bkL_len, mxS_congr (s := sq (bkL xs)) (t := bkS xs) xs.length (fun i hi => sq_upL hi)] at hP
    obtain ⟨a, cap, rfl, _, _⟩ := intsA_slice ha
    have HL := Lib.hid hL; have HB := Lib.hid hB; have HP := Lib.hid hP; clear hL ha ht hB hP
    go_enter Try.func36, Try.ntmps36
    go_wp2_with fail
    refine HL.out.mono ?_
    rintro e w1 ⟨rfl, rfl⟩
    go_wp2_with fail
    refine HB.out.mono ?_
    rintro e w1 ⟨rfl, ho, hb⟩
    have HO := Lib.hid ho; have HB1 := Lib.hid hb; clear ho hb
    go_wp2_with fail
    refine (HP.out w1 _ HO.out).mono ?_
    rintro e w2 ⟨rfl, rfl⟩
    go_wp2_with fail
    go_ret2
    exact ⟨rfl, HB1.out⟩

set_option maxRecDepth 100000 in
set_option maxHeartbeats 1000000 in
theorem law_FirstPlaces (v : Value) (xs : List Int) (w : World) (h : ArgL w v xs) :
    Calls Try.prog 9 #[v] w fun e w' => e = .returned (.bool true) ∧ Below w.heap.size w w' := by
  obtain ⟨A, C, hv, hC1, hC2, hce⟩ := h
  by_cases hb : 1048576 < xs.length
  · obtain ⟨N, hN⟩ : ∃ N, N = xs.length := ⟨_, rfl⟩
    rw [← hN] at hv hb hC1
    subst hv
    clear hce hN
    go_enter Try.func9, Try.ntmps9
    go_wp2_with fail
    go_ret
    exact ⟨rfl, Below.refl _ _⟩
  · have hn : xs.length ≤ 1048576 := by omega
    have h : ArgL w v xs := ⟨A, C, hv, hC1, hC2, hce⟩
    have hto := fun (W : World) (hbW : Below w.heap.size w W) => toIntL_any W v xs (argL_below h hbW) hn
    have hspec := fun (W : World) (B : Nat) (u : Value) (ha : IntsA W B u xs) => specFirstPlaces_any W B u xs ha
    have himpl := fun (W : World) (B : Nat) (u : Value) (ha : IntsA W B u xs) => implFirstPlaces_any W B u xs ha
    obtain ⟨op, hop⟩ : ∃ op, op = fpO xs := ⟨_, rfl⟩
    rw [← hop] at hspec himpl
    obtain ⟨ns, hns⟩ : ∃ ns, ns = op.getD [] := ⟨_, rfl⟩
    obtain ⟨y, hy⟩ : ∃ y, y = op.isSome := ⟨_, rfl⟩
    have hlen : ns.length ≤ 5000 := by rw [hns, hop]; exact Nat.le_trans (fpO_len xs) (by omega)
    unfold IntsAOk at hspec himpl
    rw [← hns, ← hy] at hspec himpl
    obtain ⟨N, hN⟩ : ∃ N, N = xs.length := ⟨_, rfl⟩
    obtain ⟨tt, ht⟩ : ∃ tt, tt = 1 + ns.length := ⟨_, rfl⟩
    obtain ⟨kk, hk⟩ : ∃ kk, kk = 1 + N := ⟨_, rfl⟩
    rw [← hN] at hv hto hC1
    have ht2 : tt ≤ 5001 := by omega
    have ht1 : 1 ≤ tt := by omega
    have hk1 : 1 ≤ kk := by omega
    have hk2 : kk ≤ 1048577 := by omega
    have hNle : N ≤ 1048576 := by omega
    have hkl : kk = 1 + xs.length := by rw [hk, hN]
    have e1 : ((tt : Int) != (tt : Int)) = false := by simp
    have e2 : (y != y) = false := by simp
    subst hv
    have HS := Lib.hid hspec; have HI := Lib.hid himpl; have HT := Lib.hid hto; have HTT := Lib.hid ht; have HK := Lib.hid hkl; have HLEN := Lib.hid hlen; have HNN := Lib.hid hn
    clear hspec himpl hto ht hkl hlen hop hns hy hN hk h hce hC1 hC2 hb hn
    go_enter Try.func9, Try.ntmps9
    go_wp2_with fail
    refine (HT.out w (Below.refl _ _)).mono ?_
    rintro e w1 ⟨rfl, a1, b1, _⟩
    have A1 := Lib.hid a1; have B1 := Lib.hid b1; clear a1 b1
    go_wp2_with fail
    refine (HS.out w1 _ _ A1.out).mono ?_
    rintro e w2 ⟨v0, rfl, a2, b2, _⟩
    have A2 := Lib.hid a2; have B2 := Lib.hid (below_trans B1.out b2); clear a2 b2
    have S1 := Lib.hid B1.out.size
    go_wp2_with fail
    refine (HT.out w2 B2.out).mono ?_
    rintro e w3 ⟨rfl, a3, b3, s3⟩
    have A3 := Lib.hid a3; have B3 := Lib.hid b3; have C3 := Lib.hid (below_trans B2.out b3); have S3 := Lib.hid s3; clear a3 b3 s3
    go_wp2_with fail
    refine (HI.out w3 _ _ A3.out).mono ?_
    rintro e w4 ⟨v1, rfl, a4, b4, _⟩
    have A4 := Lib.hid a4; have B4 := Lib.hid b4; clear a4 b4
    have Z4 := Lib.hid (intsA_below A2.out (below_trans B3.out B4.out)); have X4 := Lib.hid (intsA_below A3.out B4.out); have C4 := Lib.hid (below_trans C3.out B4.out)
    go_wp2_with fail
    refine (eqIntA_same w4 _ _ v1 v0 ns A4.out Z4.out).mono ?_
    rintro e w5 ⟨rfl, b5⟩
    have B5 := Lib.hid b5; clear b5
    have A5 := Lib.hid (intsA_below A4.out B5.out); have Z5 := Lib.hid (intsA_below Z4.out B5.out); have X5 := Lib.hid (intsA_below X4.out B5.out); have C5 := Lib.hid (below_trans C4.out B5.out)
    go_wp2_with fail
    refine (HT.out w5 C5.out).mono ?_
    rintro e w6 ⟨rfl, a6, b6, _⟩
    have B6 := Lib.hid b6; have T6 := Lib.hid a6; clear a6 b6
    have A6 := Lib.hid (intsA_below A5.out B6.out); have Z6 := Lib.hid (intsA_below Z5.out B6.out); have X6 := Lib.hid (intsA_below X5.out B6.out); have C6 := Lib.hid (below_trans C5.out B6.out)
    go_wp2_with fail
    refine (eqIntA_same w6 _ _ _ _ xs X6.out T6.out).mono ?_
    rintro e w7 ⟨rfl, b7⟩
    have B7 := Lib.hid b7; clear b7
    have A7 := Lib.hid (intsA_below A6.out B7.out); have Z7 := Lib.hid (intsA_below Z6.out B7.out); have X7 := Lib.hid (intsA_below X6.out B7.out); have C7 := Lib.hid (below_trans C6.out B7.out)
    have L7 := Lib.hid (Nat.le_trans (Nat.le_trans (Nat.le_trans B4.out.size B5.out.size) B6.out.size) B7.out.size)
    go_wp2_with fail
    refine (markIntA_any w7 _ 1 _ xs X7.out (by have := HNN.out; omega)).mono ?_
    rintro e w8 ⟨rfl, a8, b8, o8⟩
    rw [← HK.out]
    have hA8 : IntsA w8 w3.heap.size v1 ns := intsA_other A7.out (fun k k1 k2 => o8 k (slice_ne (by have := S3.out; omega)) k2)
    have hZ8 : IntsA w8 w1.heap.size v0 ns := by
      rcases A2.out with hq | ⟨g, cap, E, rest, q1, q2, q3, q4⟩
      · exact .inl hq
      · have hg2 : g < w2.heap.size := (Array.getElem?_eq_some_iff.1 q3).1
        rcases Z7.out with hq | ⟨g', cap', E', rest', r1, r2, r3, r4⟩
        · exact .inl hq
        · rw [q1] at r1
          have hgg : g = g' := by simp only [Value.slice.injEq, Option.some.injEq, Addr.mk.injEq] at r1; exact r1.1.1
          subst hgg
          refine .inr ⟨g, cap', E', rest', by rw [q1]; exact r1, r2, ?_, r4⟩
          rw [o8 g (slice_ne (by omega)) (Array.getElem?_eq_some_iff.1 r3).1]
          exact r3
    have A8 := Lib.hid hA8; have Z8 := Lib.hid hZ8; have C8 : Hid (Below w.heap.size w w8) := C7.out.trans (b8.mono (B2.out.size))
    clear a8 o8 hA8 hZ8 b8
    have hk0 : ¬ ((kk : Int) < 0) := by omega
    go_wp2_with fail
    refine (eqIntA_same w8 _ _ v1 v0 ns A8.out Z8.out).mono ?_
    rintro e w9 ⟨rfl, b9⟩
    have A9 := Lib.hid (intsA_below A8.out b9); have Z9 := Lib.hid (intsA_below Z8.out b9); have C9 := Lib.hid (below_trans C8.out b9); have S9 := Lib.hid b9.size; clear b9
    go_wp2_with fail
    refine (markIntA_any w9 _ 1 v1 ns A9.out (by have := HLEN.out; omega)).mono ?_
    rintro e w10 ⟨rfl, a10, b10, o10⟩
    rw [← HTT.out]
    have Z10 : Hid (IntsA w10 w1.heap.size v0 ns) := by
      rcases A2.out with hq | ⟨g, cap, E, rest, q1, q2, q3, q4⟩
      · exact .inl hq
      · have hg2 : g < w2.heap.size := (Array.getElem?_eq_some_iff.1 q3).1
        rcases Z9.out with hq | ⟨g', cap', E', rest', r1, r2, r3, r4⟩
        · exact .inl hq
        · rw [q1] at r1
          have hgg : g = g' := by simp only [Value.slice.injEq, Option.some.injEq, Addr.mk.injEq] at r1; exact r1.1.1
          subst hgg
          refine .inr ⟨g, cap', E', rest', by rw [q1]; exact r1, r2, ?_, r4⟩
          rw [b10.block g (by have := B3.out.size; omega)]
          exact r3
    have A10 := Lib.hid a10; have C10 : Hid (Below w.heap.size w w10) := C9.out.trans (b10.mono C3.out.size)
    clear a10 b10 o10
    have ht0 : ¬ ((tt : Int) < 0) := by omega
    go_wp2_with fail
    refine (heldIntA_any w10 _ 1 ns.length v1 A10.out (by have := HLEN.out; omega)).mono ?_
    rintro e w11 ⟨rfl, b11⟩
    rw [← HTT.out]
    have A11 := Lib.hid (intsA_below A10.out b11); have Z11 := Lib.hid (intsA_below Z10.out b11); have C11 := Lib.hid (below_trans C10.out b11); clear b11
    go_wp2_with fail
    refine (HT.out w11 C11.out).mono ?_
    rintro e w12 ⟨rfl, a12, b12, _⟩
    have T12 := Lib.hid a12; have A12 := Lib.hid (intsA_below A11.out b12); have Z12 := Lib.hid (intsA_below Z11.out b12); have C12 := Lib.hid (below_trans C11.out b12); clear a12 b12
    go_wp2_with fail
    refine (HI.out w12 _ _ T12.out).mono ?_
    rintro e w13 ⟨v6, rfl, a13, b13, _⟩
    have H13 := Lib.hid a13; have A13 := Lib.hid (intsA_below A12.out b13); have Z13 := Lib.hid (intsA_below Z12.out b13); have C13 := Lib.hid (below_trans C12.out b13); clear a13 b13
    go_wp2_with fail
    refine (eqIntA_same w13 _ _ v6 v0 ns H13.out Z13.out).mono ?_
    rintro e w14 ⟨rfl, b14⟩
    have A14 := Lib.hid (intsA_below A13.out b14); have C14 := Lib.hid (below_trans C13.out b14); clear b14
    go_wp2_with fail
    refine (heldIntA_any w14 _ 1 ns.length v1 A14.out (by have := HLEN.out; omega)).mono ?_
    rintro e w15 ⟨rfl, b15⟩
    rw [← HTT.out]
    have C15 := Lib.hid (below_trans C14.out b15); clear b15
    go_wp2_with fail
    go_ret
    exact ⟨rfl, C15.out⟩

set_option maxRecDepth 100000 in
set_option maxHeartbeats 1000000 in
theorem law_PlacesOfNumber (v : Value) (xs : List Int) (n : Int) (w : World) (h : ArgL w v xs) :
    Calls Try.prog 10 #[v, .int .i64 n] w fun e w' => e = .returned (.bool true) ∧ Below w.heap.size w w' := by
  obtain ⟨A, C, hv, hC1, hC2, hce⟩ := h
  by_cases hb : 1048576 < xs.length
  · obtain ⟨N, hN⟩ : ∃ N, N = xs.length := ⟨_, rfl⟩
    rw [← hN] at hv hb hC1
    subst hv
    clear hce hN
    go_enter Try.func10, Try.ntmps10
    go_wp2_with fail
    go_ret
    exact ⟨rfl, Below.refl _ _⟩
  · have hn : xs.length ≤ 1048576 := by omega
    have h : ArgL w v xs := ⟨A, C, hv, hC1, hC2, hce⟩
    have hto := fun (W : World) (hbW : Below w.heap.size w W) => toIntL_any W v xs (argL_below h hbW) hn
    have hspec := fun (W : World) (B : Nat) (u : Value) (ha : IntsA W B u xs) => specPlacesOfNumber_any W B u xs n ha
    have himpl := fun (W : World) (B : Nat) (u : Value) (ha : IntsA W B u xs) => implPlacesOfNumber_any W B u xs n ha
    obtain ⟨op, hop⟩ : ∃ op, op = pnO xs n := ⟨_, rfl⟩
    rw [← hop] at hspec himpl
    obtain ⟨ns, hns⟩ : ∃ ns, ns = op.getD [] := ⟨_, rfl⟩
    obtain ⟨y, hy⟩ : ∃ y, y = op.isSome := ⟨_, rfl⟩
    have hlen : ns.length ≤ 5000 := by rw [hns, hop]; exact Nat.le_trans (pnO_len xs n) (by omega)
    unfold IntsAOk at hspec himpl
    rw [← hns, ← hy] at hspec himpl
    obtain ⟨N, hN⟩ : ∃ N, N = xs.length := ⟨_, rfl⟩
    obtain ⟨tt, ht⟩ : ∃ tt, tt = 1 + ns.length := ⟨_, rfl⟩
    obtain ⟨kk, hk⟩ : ∃ kk, kk = 1 + N := ⟨_, rfl⟩
    rw [← hN] at hv hto hC1
    have ht2 : tt ≤ 5001 := by omega
    have ht1 : 1 ≤ tt := by omega
    have hk1 : 1 ≤ kk := by omega
    have hk2 : kk ≤ 1048577 := by omega
    have hNle : N ≤ 1048576 := by omega
    have hkl : kk = 1 + xs.length := by rw [hk, hN]
    have e1 : ((tt : Int) != (tt : Int)) = false := by simp
    have e2 : (y != y) = false := by simp
    subst hv
    have HS := Lib.hid hspec; have HI := Lib.hid himpl; have HT := Lib.hid hto; have HTT := Lib.hid ht; have HK := Lib.hid hkl; have HLEN := Lib.hid hlen; have HNN := Lib.hid hn
    clear hspec himpl hto ht hkl hlen hop hns hy hN hk h hce hC1 hC2 hb hn
    go_enter Try.func10, Try.ntmps10
    go_wp2_with fail
    refine (HT.out w (Below.refl _ _)).mono ?_
    rintro e w1 ⟨rfl, a1, b1, _⟩
    have A1 := Lib.hid a1; have B1 := Lib.hid b1; clear a1 b1
    go_wp2_with fail
    refine (HS.out w1 _ _ A1.out).mono ?_
    rintro e w2 ⟨v0, rfl, a2, b2, _⟩
    have A2 := Lib.hid a2; have B2 := Lib.hid (below_trans B1.out b2); clear a2 b2
    have S1 := Lib.hid B1.out.size
    go_wp2_with fail
    refine (HT.out w2 B2.out).mono ?_
    rintro e w3 ⟨rfl, a3, b3, s3⟩
    have A3 := Lib.hid a3; have B3 := Lib.hid b3; have C3 := Lib.hid (below_trans B2.out b3); have S3 := Lib.hid s3; clear a3 b3 s3
    go_wp2_with fail
    refine (HI.out w3 _ _ A3.out).mono ?_
    rintro e w4 ⟨v1, rfl, a4, b4, _⟩
    have A4 := Lib.hid a4; have B4 := Lib.hid b4; clear a4 b4
    have Z4 := Lib.hid (intsA_below A2.out (below_trans B3.out B4.out)); have X4 := Lib.hid (intsA_below A3.out B4.out); have C4 := Lib.hid (below_trans C3.out B4.out)
    go_wp2_with fail
    refine (eqIntA_same w4 _ _ v1 v0 ns A4.out Z4.out).mono ?_
    rintro e w5 ⟨rfl, b5⟩
    have B5 := Lib.hid b5; clear b5
    have A5 := Lib.hid (intsA_below A4.out B5.out); have Z5 := Lib.hid (intsA_below Z4.out B5.out); have X5 := Lib.hid (intsA_below X4.out B5.out); have C5 := Lib.hid (below_trans C4.out B5.out)
    go_wp2_with fail
    refine (HT.out w5 C5.out).mono ?_
    rintro e w6 ⟨rfl, a6, b6, _⟩
    have B6 := Lib.hid b6; have T6 := Lib.hid a6; clear a6 b6
    have A6 := Lib.hid (intsA_below A5.out B6.out); have Z6 := Lib.hid (intsA_below Z5.out B6.out); have X6 := Lib.hid (intsA_below X5.out B6.out); have C6 := Lib.hid (below_trans C5.out B6.out)
    go_wp2_with fail
    refine (eqIntA_same w6 _ _ _ _ xs X6.out T6.out).mono ?_
    rintro e w7 ⟨rfl, b7⟩
    have B7 := Lib.hid b7; clear b7
    have A7 := Lib.hid (intsA_below A6.out B7.out); have Z7 := Lib.hid (intsA_below Z6.out B7.out); have X7 := Lib.hid (intsA_below X6.out B7.out); have C7 := Lib.hid (below_trans C6.out B7.out)
    have L7 := Lib.hid (Nat.le_trans (Nat.le_trans (Nat.le_trans B4.out.size B5.out.size) B6.out.size) B7.out.size)
    go_wp2_with fail
    refine (markIntA_any w7 _ 1 _ xs X7.out (by have := HNN.out; omega)).mono ?_
    rintro e w8 ⟨rfl, a8, b8, o8⟩
    rw [← HK.out]
    have hA8 : IntsA w8 w3.heap.size v1 ns := intsA_other A7.out (fun k k1 k2 => o8 k (slice_ne (by have := S3.out; omega)) k2)
    have hZ8 : IntsA w8 w1.heap.size v0 ns := by
      rcases A2.out with hq | ⟨g, cap, E, rest, q1, q2, q3, q4⟩
      · exact .inl hq
      · have hg2 : g < w2.heap.size := (Array.getElem?_eq_some_iff.1 q3).1
        rcases Z7.out with hq | ⟨g', cap', E', rest', r1, r2, r3, r4⟩
        · exact .inl hq
        · rw [q1] at r1
          have hgg : g = g' := by simp only [Value.slice.injEq, Option.some.injEq, Addr.mk.injEq] at r1; exact r1.1.1
          subst hgg
          refine .inr ⟨g, cap', E', rest', by rw [q1]; exact r1, r2, ?_, r4⟩
          rw [o8 g (slice_ne (by omega)) (Array.getElem?_eq_some_iff.1 r3).1]
          exact r3
    have A8 := Lib.hid hA8; have Z8 := Lib.hid hZ8; have C8 : Hid (Below w.heap.size w w8) := C7.out.trans (b8.mono (B2.out.size))
    clear a8 o8 hA8 hZ8 b8
    have hk0 : ¬ ((kk : Int) < 0) := by omega
    go_wp2_with fail
    refine (eqIntA_same w8 _ _ v1 v0 ns A8.out Z8.out).mono ?_
    rintro e w9 ⟨rfl, b9⟩
    have A9 := Lib.hid (intsA_below A8.out b9); have Z9 := Lib.hid (intsA_below Z8.out b9); have C9 := Lib.hid (below_trans C8.out b9); have S9 := Lib.hid b9.size; clear b9
    go_wp2_with fail
    refine (markIntA_any w9 _ 1 v1 ns A9.out (by have := HLEN.out; omega)).mono ?_
    rintro e w10 ⟨rfl, a10, b10, o10⟩
    rw [← HTT.out]
    have Z10 : Hid (IntsA w10 w1.heap.size v0 ns) := by
      rcases A2.out with hq | ⟨g, cap, E, rest, q1, q2, q3, q4⟩
      · exact .inl hq
      · have hg2 : g < w2.heap.size := (Array.getElem?_eq_some_iff.1 q3).1
        rcases Z9.out with hq | ⟨g', cap', E', rest', r1, r2, r3, r4⟩
        · exact .inl hq
        · rw [q1] at r1
          have hgg : g = g' := by simp only [Value.slice.injEq, Option.some.injEq, Addr.mk.injEq] at r1; exact r1.1.1
          subst hgg
          refine .inr ⟨g, cap', E', rest', by rw [q1]; exact r1, r2, ?_, r4⟩
          rw [b10.block g (by have := B3.out.size; omega)]
          exact r3
    have A10 := Lib.hid a10; have C10 : Hid (Below w.heap.size w w10) := C9.out.trans (b10.mono C3.out.size)
    clear a10 b10 o10
    have ht0 : ¬ ((tt : Int) < 0) := by omega
    go_wp2_with fail
    refine (heldIntA_any w10 _ 1 ns.length v1 A10.out (by have := HLEN.out; omega)).mono ?_
    rintro e w11 ⟨rfl, b11⟩
    rw [← HTT.out]
    have A11 := Lib.hid (intsA_below A10.out b11); have Z11 := Lib.hid (intsA_below Z10.out b11); have C11 := Lib.hid (below_trans C10.out b11); clear b11
    go_wp2_with fail
    refine (HT.out w11 C11.out).mono ?_
    rintro e w12 ⟨rfl, a12, b12, _⟩
    have T12 := Lib.hid a12; have A12 := Lib.hid (intsA_below A11.out b12); have Z12 := Lib.hid (intsA_below Z11.out b12); have C12 := Lib.hid (below_trans C11.out b12); clear a12 b12
    go_wp2_with fail
    refine (HI.out w12 _ _ T12.out).mono ?_
    rintro e w13 ⟨v6, rfl, a13, b13, _⟩
    have H13 := Lib.hid a13; have A13 := Lib.hid (intsA_below A12.out b13); have Z13 := Lib.hid (intsA_below Z12.out b13); have C13 := Lib.hid (below_trans C12.out b13); clear a13 b13
    go_wp2_with fail
    refine (eqIntA_same w13 _ _ v6 v0 ns H13.out Z13.out).mono ?_
    rintro e w14 ⟨rfl, b14⟩
    have A14 := Lib.hid (intsA_below A13.out b14); have C14 := Lib.hid (below_trans C13.out b14); clear b14
    go_wp2_with fail
    refine (heldIntA_any w14 _ 1 ns.length v1 A14.out (by have := HLEN.out; omega)).mono ?_
    rintro e w15 ⟨rfl, b15⟩
    rw [← HTT.out]
    have C15 := Lib.hid (below_trans C14.out b15); clear b15
    go_wp2_with fail
    go_ret
    exact ⟨rfl, C15.out⟩

set_option maxRecDepth 100000 in
set_option maxHeartbeats 1000000 in
theorem law_GreatestGap (v : Value) (xs : List Int) (w : World) (h : ArgL w v xs) :
    Calls Try.prog 11 #[v] w fun e w' => e = .returned (.bool true) ∧ Below w.heap.size w w' := by
  obtain ⟨A, C, hv, hC1, hC2, hce⟩ := h
  by_cases hb : 1048576 < xs.length
  · obtain ⟨N, hN⟩ : ∃ N, N = xs.length := ⟨_, rfl⟩
    rw [← hN] at hv hb hC1
    subst hv
    clear hce hN
    go_enter Try.func11, Try.ntmps11
    go_wp2_with fail
    go_ret
    exact ⟨rfl, Below.refl _ _⟩
  · have hn : xs.length ≤ 1048576 := by omega
    have h : ArgL w v xs := ⟨A, C, hv, hC1, hC2, hce⟩
    have hto := fun (W : World) (hbW : Below w.heap.size w W) => toIntL_any W v xs (argL_below h hbW) hn
    have hspec := fun (W : World) (B : Nat) (u : Value) (ha : IntsA W B u xs) => specGreatestGap_any W B u xs ha
    have himpl := fun (W : World) (B : Nat) (u : Value) (ha : IntsA W B u xs) => implGreatestGap_any W B u xs ha
    obtain ⟨x, hx⟩ : ∃ x, x = ggV xs := ⟨_, rfl⟩
    obtain ⟨y, hy⟩ : ∃ y, y = plL xs := ⟨_, rfl⟩
    rw [← hx, ← hy] at hspec himpl
    obtain ⟨N, hN⟩ : ∃ N, N = xs.length := ⟨_, rfl⟩
    rw [← hN] at hv hto hC1
    have hNle : N ≤ 1048576 := by omega
    have e1 : (x != x) = false := by simp
    have e2 : (y != y) = false := by simp
    subst hv
    have HS := Lib.hid hspec; have HI := Lib.hid himpl; have HT := Lib.hid hto
    clear hspec himpl hto hx hy hN h hce hC1 hC2 hb hn
    go_enter Try.func11, Try.ntmps11
    go_wp2_with fail
    refine (HT.out w (Below.refl _ _)).mono ?_
    rintro e w1 ⟨rfl, a1, b1, _⟩
    have A1 := Lib.hid a1; have B1 := Lib.hid b1; clear a1 b1
    go_wp2_with fail
    refine (HS.out w1 _ _ A1.out).mono ?_
    rintro e w2 ⟨rfl, b2⟩
    have B2 := Lib.hid (below_trans B1.out b2); clear b2
    go_wp2_with fail
    refine (HT.out w2 B2.out).mono ?_
    rintro e w3 ⟨rfl, a3, b3, _⟩
    have A3 := Lib.hid a3; have C3 := Lib.hid (below_trans B2.out b3); clear a3 b3
    go_wp2_with fail
    refine (HI.out w3 _ _ A3.out).mono ?_
    rintro e w4 ⟨rfl, b4⟩
    have A4 := Lib.hid (intsA_below A3.out b4); have C4 := Lib.hid (below_trans C3.out b4); clear b4
    go_wp2_with fail
    refine (HT.out w4 C4.out).mono ?_
    rintro e w5 ⟨rfl, a5, b5, _⟩
    have T5 := Lib.hid a5; have A5 := Lib.hid (intsA_below A4.out b5); have C5 := Lib.hid (below_trans C4.out b5); clear a5 b5
    go_wp2_with fail
    refine (eqIntA_same w5 _ _ _ _ xs A5.out T5.out).mono ?_
    rintro e w6 ⟨rfl, b6⟩
    have C6 := Lib.hid (below_trans C5.out b6); clear b6
    go_wp2_with fail
    go_ret
    exact ⟨rfl, C6.out⟩

end Go.Proofs.Ytbjhalhahipjdaa
