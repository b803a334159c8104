/- Chapter 6: IsEck on both sides, and the law. -/
import Derived.Test.YtpglkgpaaflikaaY7
namespace Go.Proofs.Ytpglkgpaaflikaa
open Go.RowKit Go.BigFrame Go.Maps
set_option linter.unusedSimpArgs false
set_option linter.unusedVariables false
set_option maxRecDepth 4000

def ieB (xs : List Int) (n : Int) : Bool := plL xs && decide (1 ≤ n ∧ n ≤ (xs.length : Int))
def ieE (xs : List Int) (m : Nat) : Bool := decide (xs.drop (m + 1) = ((bkL xs).take (xs.length - 1)).drop m)
def ieV (xs : List Int) (n : Int) : Bool := if ieB xs n = true then ieE xs (n.toNat - 1) else false
theorem ie_iff (xs : List Int) (m : Nat) (hm : m < xs.length) : (xs.drop (m + 1) = ((bkL xs).take (xs.length - 1)).drop m) ↔ ∀ j, m ≤ j → (hj : j + 1 < xs.length) → xs[j + 1] = bkS xs j := by
  constructor
  · intro h j h1 hj
    have e := congrArg (fun l => l[j - m]?) h
    simp only [List.getElem?_drop, List.getElem?_take] at e
    rw [show m + 1 + (j - m) = j + 1 by omega, show m + (j - m) = j by omega, if_pos (by omega), List.getElem?_eq_getElem hj, List.getElem?_eq_getElem (by rw [bkL_len]; omega), bkL_at (by omega)] at e
    exact Option.some.inj e
  · intro h
    refine List.ext_getElem (by simp [bkL_len]; omega) fun i h1 h2 => ?_
    simp only [List.length_drop] at h1
    rw [List.getElem_drop, List.getElem_drop, List.getElem_take, bkL_at (by omega)]
    have := h (m + i) (by omega) (by omega)
    rw [← bkS, ← this]
    congr 1; omega

set_option maxHeartbeats 2000000 in
theorem implIsEck_any (w : World) (B : Nat) (v : Value) (xs : List Int) (n : Int) (ha : IntsA w B v xs) :
    Calls Try.prog 51 #[v, .int .i64 n] w fun e w' => e = .returned (.tuple #[.bool (ieV xs n), .bool (ieB xs n)]) ∧ Below w.heap.size w w' := by
  have hL := isPlaceList_any w B v xs ha
  cases ht : plL xs with
  | false =>
    rw [ht] at hL
    have hB : ieB xs n = false := by unfold ieB; rw [ht]; rfl
    rw [show ieV xs n = false by unfold ieV; rw [hB]; rfl, hB]
    obtain ⟨a, cap, rfl, _, _⟩ := intsA_slice ha
    have HL := Lib.hid hL; clear hL ha ht hB
    go_enter Try.func51, Try.ntmps51
    go_wp2_with fail
    refine HL.out.mono ?_
    rintro e w1 ⟨rfl, rfl⟩
    go_wp2_with fail
    go_ret2
    exact ⟨rfl, Below.refl _ _⟩
  | true =>
    rw [ht] at hL
    obtain ⟨h1, h60, _⟩ := plL_open ht
    cases hd : decide ((1 : Int) ≤ n ∧ n ≤ (xs.length : Int)) with
    | false =>
      have hB : ieB xs n = false := by unfold ieB; rw [ht, hd]; rfl
      rw [show ieV xs n = false by unfold ieV; rw [hB]; rfl, hB]
      obtain ⟨a, cap, rfl, _, _⟩ := intsA_slice ha
      have HL := Lib.hid hL; have HD := Lib.hid hd; clear hL ha ht hd hB
      go_enter Try.func51, Try.ntmps51
      go_wp2_with fail
      refine HL.out.mono ?_
      rintro e w1 ⟨rfl, rfl⟩
      go_wp2_with fail
      refine (isWithin_is false _ _ _ _ HD.out).mono ?_
      rintro e w1 ⟨rfl, rfl⟩
      go_wp2_with fail
      go_ret2
      exact ⟨rfl, Below.refl _ _⟩
    | true =>
      have hB : ieB xs n = true := by unfold ieB; rw [ht, hd]; rfl
      have hV : ieV xs n = ieE xs (n.toNat - 1) := by unfold ieV; rw [hB]; rfl
      have hn := of_decide_eq_true hd
      obtain ⟨m, hm⟩ : ∃ m : Nat, n = (m : Int) + 1 := ⟨(n - 1).toNat, by omega⟩
      rw [hB, hV, show n.toNat - 1 = m by omega]
      subst hm
      have hmN : m < xs.length := by omega
      have hDB := distancesBack_any w B v xs ha ht
      have HA := Lib.hid ha
      have hE := fun (W : World) (u1 u2 : Value) (g1 : ArgL W u1 (xs.drop (m + 1))) (g2 : ArgL W u2 (((bkL xs).take (xs.length - 1)).drop m)) => slEqual_any W u1 u2 _ _ g1 g2 (by simp; omega) (by simp [bkL_len]; omega)
      obtain ⟨E, hEE⟩ : ∃ E, E = ieE xs m := ⟨_, rfl⟩
      rw [show (decide (xs.drop (m + 1) = ((bkL xs).take (xs.length - 1)).drop m)) = E from hEE.symm] at hE
      rw [← hEE]
      obtain ⟨g, cap, hv, hc1, hc2, _, hg, hce⟩ := intsA_at ha h1
      obtain ⟨N, hN⟩ : ∃ N, N = xs.length := ⟨_, rfl⟩
      have HN := Lib.hid hN
      rw [← hN] at hv h1 h60 hc1 hmN hDB hd
      subst hv
      have HL := Lib.hid hL; have HD := Lib.hid hd; have HC := Lib.hid hce; have HDB := Lib.hid hDB; have HE := Lib.hid hE
      clear hL ha ht hN hd hce hDB hE hEE hB hV hn
      have e1 : (m : Int) + 1 - 1 = (m : Int) := by omega
      have e2 : (N : Int) - 1 = ((N - 1 : Nat) : Int) := by omega
      have e3 : m < N - 1 + 1 := by omega
      have hA2 : ∀ W, Below w.heap.size w W → ∀ A, (m + 1 < N → A = some ⟨g, m + 1, none⟩) → ArgL W (.slice A (N - (m + 1)) (cap - (m + 1))) (xs.drop (m + 1)) := by
        intro W hb A hA
        by_cases hlt : m + 1 < N
        · rw [hA hlt]
          have := argL_part (intsA_below HA.out hb) HN.out.symm (m + 1) N (cap - (m + 1)) (by omega) (Nat.le_refl _) (by omega) (by omega)
          rwa [List.take_of_length_le (by rw [HN.out]; exact Nat.le_refl _)] at this
        · have e : xs.drop (m + 1) = [] := List.drop_of_length_le (by rw [← HN.out]; omega)
          rw [e, show N - (m + 1) = 0 by omega]
          exact argL_nil _ _ _ (by omega)
      have hU2 : ∀ W, Ints W w.heap.size (.slice (some ⟨w.heap.size, 0, none⟩) N N) (bkL xs) → ArgL W (.slice (some ⟨w.heap.size, m, none⟩) (N - 1 - m) (N - m)) (((bkL xs).take (xs.length - 1)).drop m) := by
        intro W h
        rw [← HN.out]
        exact argL_part (intsA_of h) (by rw [bkL_len, HN.out]) m (N - 1) (N - m) (by omega) (by omega) (by omega) (by omega)
      have HA2 := Lib.hid hA2; have HU2 := Lib.hid hU2; clear hA2 hU2
      by_cases hcap : cap = m + 1
      · subst hcap
        go_enter Try.func51, Try.ntmps51
        go_wp2_with fail
        refine HL.out.mono ?_
        rintro e w1 ⟨rfl, rfl⟩
        go_wp2_with fail
        refine (isWithin_is true _ _ _ _ HD.out).mono ?_
        rintro e w1 ⟨rfl, rfl⟩
        go_wp2_with fail
        refine HDB.out.mono ?_
        rintro e w2 ⟨rfl, hu, hb⟩
        have HU := Lib.hid hu; have HB := Lib.hid hb; clear hu hb
        go_wp2_with fail
        have a1 : ArgL w2 (.slice (some ⟨g, 0, none⟩) 0 0) (xs.drop (m + 1)) := by
          have := HA2.out w2 HB.out (some ⟨g, 0, none⟩) (by omega)
          rwa [show N - (m + 1) = 0 by omega, Nat.sub_self] at this
        have a2 : ArgL w2 (.slice (some ⟨w.heap.size, m, none⟩) 0 (N - m)) (((bkL xs).take (xs.length - 1)).drop m) := by
          have := HU2.out w2 HU.out
          rwa [show N - 1 - m = 0 by omega] at this
        refine (HE.out w2 _ _ a1 a2).mono ?_
        rintro e w3 ⟨rfl, hb⟩
        have HB3 := Lib.hid hb; clear hb
        go_wp2_with fail
        go_ret2
        exact ⟨rfl, below_trans HB.out HB3.out⟩
      · go_enter Try.func51, Try.ntmps51
        go_wp2_with fail
        refine HL.out.mono ?_
        rintro e w1 ⟨rfl, rfl⟩
        go_wp2_with fail
        refine (isWithin_is true _ _ _ _ HD.out).mono ?_
        rintro e w1 ⟨rfl, rfl⟩
        go_wp2_with fail
        refine HDB.out.mono ?_
        rintro e w2 ⟨rfl, hu, hb⟩
        have HU := Lib.hid hu; have HB := Lib.hid hb; clear hu hb
        go_wp2_with fail
        refine (HE.out w2 _ _ (HA2.out w2 HB.out _ (fun _ => rfl)) (HU2.out w2 HU.out)).mono ?_
        rintro e w3 ⟨rfl, hb⟩
        have HB3 := Lib.hid hb; clear hb
        go_wp2_with fail
        go_ret2
        exact ⟨rfl, below_trans HB.out HB3.out⟩

set_option maxHeartbeats 2000000 in
theorem specIsEck_any (w : World) (B : Nat) (v : Value) (xs : List Int) (n : Int) (ha : IntsA w B v xs) :
    Calls Try.prog 52 #[v, .int .i64 n] w fun e w' => e = .returned (.tuple #[.bool (ieV xs n), .bool (ieB xs n)]) ∧ Below w.heap.size w w' := by
  have hL := plGood_any w B v xs ha
  cases ht : plL xs with
  | false =>
    rw [ht] at hL
    have hB : ieB xs n = false := by unfold ieB; rw [ht]; rfl
    rw [show ieV xs n = false by unfold ieV; rw [hB]; rfl, hB]
    obtain ⟨a, cap, rfl, _, _⟩ := intsA_slice ha
    have HL := Lib.hid hL; clear hL ha ht hB
    go_enter Try.func52, Try.ntmps52
    go_wp2_with fail
    refine HL.out.mono ?_
    rintro e w1 ⟨rfl, rfl⟩
    go_wp2_with fail
    go_ret2
    exact ⟨rfl, Below.refl _ _⟩
  | true =>
    rw [ht] at hL
    obtain ⟨h1, h60, _⟩ := plL_open ht
    cases hd : decide ((1 : Int) ≤ n ∧ n ≤ (xs.length : Int)) with
    | false =>
      have hB : ieB xs n = false := by unfold ieB; rw [ht, hd]; rfl
      rw [show ieV xs n = false by unfold ieV; rw [hB]; rfl, hB]
      obtain ⟨a, cap, rfl, _, _⟩ := intsA_slice ha
      have HL := Lib.hid hL; have HD := Lib.hid hd; clear hL ha ht hd hB
      go_enter Try.func52, Try.ntmps52
      go_wp2_with fail
      refine HL.out.mono ?_
      rintro e w1 ⟨rfl, rfl⟩
      go_wp2_with fail
      refine (l1In_is false _ _ _ _ HD.out).mono ?_
      rintro e w1 ⟨rfl, rfl⟩
      go_wp2_with fail
      go_ret2
      exact ⟨rfl, Below.refl _ _⟩
    | true =>
      have hB : ieB xs n = true := by unfold ieB; rw [ht, hd]; rfl
      have hV : ieV xs n = ieE xs (n.toNat - 1) := by unfold ieV; rw [hB]; rfl
      have hn := of_decide_eq_true hd
      obtain ⟨m, hm⟩ : ∃ m : Nat, n = (m : Int) + 1 := ⟨(n - 1).toNat, by omega⟩
      rw [hB, hV, show n.toNat - 1 = m by omega]
      subst hm
      have hmN : m < xs.length := by omega
      have hPB := fun (k : Nat) (hk : k < xs.length) (W : World) (n : Nat) (hW : ∃ q, W = w.drewN q) => plBackQ_any (W.drewN n) B v xs k (intsA_below (by obtain ⟨q, rfl⟩ := hW; exact intsA_below ha (belowN _ _ _)) (belowN _ _ _)) hk (by omega)
      have hiff : ieE xs m = true ↔ ∀ j, m ≤ j → (hj : j + 1 < xs.length) → xs[j + 1] = bkS xs j := by unfold ieE; rw [decide_eq_true_eq]; exact ie_iff xs m hmN
      obtain ⟨g, cap, hv, hc1, hc2, _, hg, hce⟩ := intsA_at ha h1
      obtain ⟨N, hN⟩ : ∃ N, N = xs.length := ⟨_, rfl⟩
      have HN := Lib.hid hN
      rw [← hN] at hv h1 h60 hc1 hmN hd
      subst hv
      have HL := Lib.hid hL; have HD := Lib.hid hd; have HC := Lib.hid hce; have HPB := Lib.hid hPB; have HIFF := Lib.hid hiff
      clear hL ha ht hN hd hce hPB hiff hB hV hn
      go_enter Try.func52, Try.ntmps52
      go_wp2_with fail
      refine HL.out.mono ?_
      rintro e w1 ⟨rfl, rfl⟩
      go_wp2_with fail
      refine (l1In_is true _ _ _ _ HD.out).mono ?_
      rintro e w1 ⟨rfl, rfl⟩
      go_wp2_with fail
      go_loopw [6] (fun iv wr => ∃ K k : Nat, Hid (K = k + 1) ∧ m ≤ k ∧ k < N ∧ iv = .int .i64 K ∧ Hid (∃ q, wr = w.drewN q) ∧ Hid (∀ j, m ≤ j → j < k → (hj : j + 1 < xs.length) → xs[j + 1] = bkS xs j)) (fun iv _ => N + 1 - (intOf iv).toNat)
      case atStart => exact ⟨m + 1, m, Lib.hid rfl, Nat.le_refl _, hmN, by go_num, Lib.hid ⟨0, rfl⟩, Lib.hid (fun j h1 h2 => by omega)⟩
      case round =>
        obtain ⟨K, k, HK, hmk, hk, rfl, HW, HX⟩ := hrel
        have hKN : K ≤ N := by have := HK.out; omega
        by_cases hlt : K < N
        · have hk' : k + 1 < xs.length := by rw [← HN.out, ← HK.out]; exact hlt
          have h2 : wr.cell? ⟨g, K, none⟩ = some (.int .i64 xs[k + 1]) := by obtain ⟨q, hq⟩ := HW.out; rw [hq, HK.out]; exact HC.out (k + 1) hk'
          obtain ⟨x, hx⟩ : ∃ x, x = xs[k + 1] := ⟨_, rfl⟩
          obtain ⟨y, hy⟩ : ∃ y, y = bkS xs k := ⟨_, rfl⟩
          rw [← hx] at h2
          have hcall := fun (n : Nat) => HPB.out k (by omega) wr n HW.out
          rw [show ((bk (sq xs) k : Nat) : Int) = y from hy.symm] at hcall
          have HCALL := Lib.hid hcall
          have e1 : (K : Int) - 1 = (k : Int) := by have := HK.out; omega
          by_cases he : x = y
          · have hbe : (x != y) = false := by simpa using he
            have hnew : Hid (∀ j, m ≤ j → j < k + 1 → (hj : j + 1 < xs.length) → xs[j + 1] = bkS xs j) := fun j h1 h2 hj => by
              by_cases e : j = k
              · subst e; rw [← hx, ← hy]; exact he
              · exact HX.out j h1 (by omega) hj
            clear hx hy he hcall
            go_wp2_with fail
            go_quiet (first | (go_at_call 81; exact Calls.quiet_of (HCALL.out _)))
            go_wp2_with fail
            go_roundw
            case rel => exact ⟨K + 1, k + 1, Lib.hid (by rw [HK.out]), by omega, by have := HK.out; omega, by go_num, Lib.hid (by obtain ⟨q, hq⟩ := HW.out; exact ⟨q + nq, by rw [hq]; exact World.drewN_drewN _ _ _⟩), hnew⟩
            case measure => simp [intOf] <;> omega
          · have hbe : (x != y) = true := by simpa using he
            have hd : ieE xs m = false := by
              rw [← Bool.not_eq_true]
              intro h
              exact he (by rw [hx, hy]; exact HIFF.out.1 h k hmk hk')
            have HD2 := Lib.hid hd
            clear hx hy he hcall hd
            go_wp2_with fail
            go_quiet (first | (go_at_call 81; exact Calls.quiet_of (HCALL.out _)))
            go_wp2_with fail
            go_ret2
            exact ⟨by rw [HD2.out]; rfl, by obtain ⟨q, hq⟩ := HW.out; rw [hq]; exact (belowN _ _ _).trans (belowN _ _ _)⟩
        · obtain rfl : K = N := by omega
          have hd : ieE xs m = true := HIFF.out.2 (fun j h1 hj => HX.out j h1 (by rw [← HN.out] at hj; have := HK.out; omega) hj)
          have HD2 := Lib.hid hd
          clear hd
          go_wp2_with fail
          go_ret2
          exact ⟨by rw [HD2.out]; rfl, by obtain ⟨q, hq⟩ := HW.out; rw [hq]; exact belowN _ _ _⟩

end Go.Proofs.Ytpglkgpaaflikaa
