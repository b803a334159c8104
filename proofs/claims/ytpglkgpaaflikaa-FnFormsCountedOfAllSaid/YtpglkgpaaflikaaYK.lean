/- Chapter 6, at rows of numbers that lie anywhere: ranks and Eck sequences (by tools/genwide.py). -/
import Derived.Test.YtpglkgpaaflikaaYM
import Derived.Test.YtpglkgpaaflikaaYF
import Derived.Test.YtpglkgpaaflikaaY8
import Derived.Test.YtpglkgpaaflikaaZ4
namespace Go.Proofs.Ytpglkgpaaflikaa
open Go.RowKit Go.BigFrame Go.Maps
set_option linter.unusedSimpArgs false
set_option linter.unusedVariables false
set_option maxRecDepth 4000

/-- A row's part. -/
theorem argL_partL {w : World} {g o n c : Nat} {xs : List Int} (h : ArgL w (.slice (some ⟨g, o, none⟩) n c) xs) (hn : xs.length = n) (lo hi C : Nat) (hl : lo ≤ hi) (hh : hi ≤ n) (hC : hi - lo ≤ C) (hC9 : C ≤ 9223372036854775807) :
    ArgL w (.slice (some ⟨g, o + lo, none⟩) (hi - lo) C) ((xs.take hi).drop lo) := by
  have hlen : ((xs.take hi).drop lo).length = hi - lo := by simp; omega
  obtain ⟨A, C2, h2, h3, h4, h5⟩ := h
  refine ⟨_, C, by rw [hlen], by rw [hlen]; exact hC, hC9, fun k hk => ?_⟩
  rw [hlen] at hk
  obtain ⟨b, o', e1, e2, e3⟩ := h5 (lo + k) (by omega)
  cases h2; cases e1
  exact ⟨g, o + lo, rfl, e2, by rw [show o + lo + k = o + (lo + k) by omega, e3]; simp⟩

set_option maxHeartbeats 2000000 in
theorem implIsEck_arg (w : World) (v : Value) (xs : List Int) (n : Int) (ha : ArgL w v xs) :
    Calls Try.prog 51 #[v, .int .i64 n] w fun e w' => e = .returned (.tuple #[.bool (ieV xs n), .bool (ieB xs n)]) ∧ Below w.heap.size w w' := by
  have hL := isPlaceList_arg w v xs ha
  cases ht : plL xs with
  | false =>
    rw [ht] at hL
    have hB : ieB xs n = false := by unfold ieB; rw [ht]; rfl
    rw [show ieV xs n = false by unfold ieV; rw [hB]; rfl, hB]
    obtain ⟨a, cap, rfl, _, _⟩ := argL_slice ha
    have HL := Lib.hid hL; clear hL ha ht hB
    go_enter Try.func51, Try.ntmps51
    go_wp2_with fail
    refine HL.out.mono ?_
    rintro e w1 ⟨rfl, rfl⟩
    go_wp2_with fail
    go_ret2
    exact ⟨rfl, Below.refl _ _⟩
  | true =>
    rw [ht] at hL
    obtain ⟨h1, h60, _⟩ := plL_open ht
    cases hd : decide ((1 : Int) ≤ n ∧ n ≤ (xs.length : Int)) with
    | false =>
      have hB : ieB xs n = false := by unfold ieB; rw [ht, hd]; rfl
      rw [show ieV xs n = false by unfold ieV; rw [hB]; rfl, hB]
      obtain ⟨a, cap, rfl, _, _⟩ := argL_slice ha
      have HL := Lib.hid hL; have HD := Lib.hid hd; clear hL ha ht hd hB
      go_enter Try.func51, Try.ntmps51
      go_wp2_with fail
      refine HL.out.mono ?_
      rintro e w1 ⟨rfl, rfl⟩
      go_wp2_with fail
      refine (isWithin_is false _ _ _ _ HD.out).mono ?_
      rintro e w1 ⟨rfl, rfl⟩
      go_wp2_with fail
      go_ret2
      exact ⟨rfl, Below.refl _ _⟩
    | true =>
      have hB : ieB xs n = true := by unfold ieB; rw [ht, hd]; rfl
      have hV : ieV xs n = ieE xs (n.toNat - 1) := by unfold ieV; rw [hB]; rfl
      have hn := of_decide_eq_true hd
      obtain ⟨m, hm⟩ : ∃ m : Nat, n = (m : Int) + 1 := ⟨(n - 1).toNat, by omega⟩
      rw [hB, hV, show n.toNat - 1 = m by omega]
      subst hm
      have hmN : m < xs.length := by omega
      have hDB := distancesBack_arg w v xs ha ht
      have HA := Lib.hid ha
      have hE := fun (W : World) (u1 u2 : Value) (g1 : ArgL W u1 (xs.drop (m + 1))) (g2 : ArgL W u2 (((bkL xs).take (xs.length - 1)).drop m)) => slEqual_any W u1 u2 _ _ g1 g2 (by simp; omega) (by simp [bkL_len]; omega)
      obtain ⟨E, hEE⟩ : ∃ E, E = ieE xs m := ⟨_, rfl⟩
      rw [show (decide (xs.drop (m + 1) = ((bkL xs).take (xs.length - 1)).drop m)) = E from hEE.symm] at hE
      rw [← hEE]
      obtain ⟨g, o, cap, hv, hc1, hc2, hg, hce⟩ := argL_at ha h1
      obtain ⟨N, hN⟩ : ∃ N, N = xs.length := ⟨_, rfl⟩
      have HN := Lib.hid hN
      rw [← hN] at hv h1 h60 hc1 hmN hDB hd
      subst hv
      have HL := Lib.hid hL; have HD := Lib.hid hd; have HC := Lib.hid hce; have HDB := Lib.hid hDB; have HE := Lib.hid hE
      clear hL ha ht hN hd hce hDB hE hEE hB hV hn
      have e1 : (m : Int) + 1 - 1 = (m : Int) := by omega
      have e2 : (N : Int) - 1 = ((N - 1 : Nat) : Int) := by omega
      have e3 : m < N - 1 + 1 := by omega
      have hA2 : ∀ W, Below w.heap.size w W → ∀ A, (m + 1 < N → A = some ⟨g, o + (m + 1), none⟩) → ArgL W (.slice A (N - (m + 1)) (cap - (m + 1))) (xs.drop (m + 1)) := by
        intro W hb A hA
        by_cases hlt : m + 1 < N
        · rw [hA hlt]
          have := argL_partL (argL_below HA.out hb) HN.out.symm (m + 1) N (cap - (m + 1)) (by omega) (Nat.le_refl _) (by omega) (by omega)
          rwa [List.take_of_length_le (by rw [HN.out]; exact Nat.le_refl _)] at this
        · have e : xs.drop (m + 1) = [] := List.drop_of_length_le (by rw [← HN.out]; omega)
          rw [e, show N - (m + 1) = 0 by omega]
          exact argL_nil _ _ _ (by omega)
      have hU2 : ∀ W, Ints W w.heap.size (.slice (some ⟨w.heap.size, 0, none⟩) N N) (bkL xs) → ArgL W (.slice (some ⟨w.heap.size, m, none⟩) (N - 1 - m) (N - m)) (((bkL xs).take (xs.length - 1)).drop m) := by
        intro W h
        rw [← HN.out]
        exact argL_part (intsA_of h) (by rw [bkL_len, HN.out]) m (N - 1) (N - m) (by omega) (by omega) (by omega) (by omega)
      have HA2 := Lib.hid hA2; have HU2 := Lib.hid hU2; clear hA2 hU2
      by_cases hcap : cap = m + 1
      · subst hcap
        go_enter Try.func51, Try.ntmps51
        go_wp2_with fail
        refine HL.out.mono ?_
        rintro e w1 ⟨rfl, rfl⟩
        go_wp2_with fail
        refine (isWithin_is true _ _ _ _ HD.out).mono ?_
        rintro e w1 ⟨rfl, rfl⟩
        go_wp2_with fail
        refine HDB.out.mono ?_
        rintro e w2 ⟨rfl, hu, hb⟩
        have HU := Lib.hid hu; have HB := Lib.hid hb; clear hu hb
        go_wp2_with fail
        have a1 : ArgL w2 (.slice (some ⟨g, o, none⟩) 0 0) (xs.drop (m + 1)) := by
          have := HA2.out w2 HB.out (some ⟨g, o, none⟩) (by omega)
          rwa [show N - (m + 1) = 0 by omega, Nat.sub_self] at this
        have a2 : ArgL w2 (.slice (some ⟨w.heap.size, m, none⟩) 0 (N - m)) (((bkL xs).take (xs.length - 1)).drop m) := by
          have := HU2.out w2 HU.out
          rwa [show N - 1 - m = 0 by omega] at this
        refine (HE.out w2 _ _ a1 a2).mono ?_
        rintro e w3 ⟨rfl, hb⟩
        have HB3 := Lib.hid hb; clear hb
        go_wp2_with fail
        go_ret2
        exact ⟨rfl, below_trans HB.out HB3.out⟩
      · go_enter Try.func51, Try.ntmps51
        go_wp2_with fail
        refine HL.out.mono ?_
        rintro e w1 ⟨rfl, rfl⟩
        go_wp2_with fail
        refine (isWithin_is true _ _ _ _ HD.out).mono ?_
        rintro e w1 ⟨rfl, rfl⟩
        go_wp2_with fail
        refine HDB.out.mono ?_
        rintro e w2 ⟨rfl, hu, hb⟩
        have HU := Lib.hid hu; have HB := Lib.hid hb; clear hu hb
        go_wp2_with fail
        refine (HE.out w2 _ _ (HA2.out w2 HB.out _ (fun _ => rfl)) (HU2.out w2 HU.out)).mono ?_
        rintro e w3 ⟨rfl, hb⟩
        have HB3 := Lib.hid hb; clear hb
        go_wp2_with fail
        go_ret2
        exact ⟨rfl, below_trans HB.out HB3.out⟩

set_option maxHeartbeats 2000000 in
theorem specIsEck_arg (w : World) (v : Value) (xs : List Int) (n : Int) (ha : ArgL w v xs) :
    Calls Try.prog 52 #[v, .int .i64 n] w fun e w' => e = .returned (.tuple #[.bool (ieV xs n), .bool (ieB xs n)]) ∧ Below w.heap.size w w' := by
  have hL := plGood_arg w v xs ha
  cases ht : plL xs with
  | false =>
    rw [ht] at hL
    have hB : ieB xs n = false := by unfold ieB; rw [ht]; rfl
    rw [show ieV xs n = false by unfold ieV; rw [hB]; rfl, hB]
    obtain ⟨a, cap, rfl, _, _⟩ := argL_slice ha
    have HL := Lib.hid hL; clear hL ha ht hB
    go_enter Try.func52, Try.ntmps52
    go_wp2_with fail
    refine HL.out.mono ?_
    rintro e w1 ⟨rfl, rfl⟩
    go_wp2_with fail
    go_ret2
    exact ⟨rfl, Below.refl _ _⟩
  | true =>
    rw [ht] at hL
    obtain ⟨h1, h60, _⟩ := plL_open ht
    cases hd : decide ((1 : Int) ≤ n ∧ n ≤ (xs.length : Int)) with
    | false =>
      have hB : ieB xs n = false := by unfold ieB; rw [ht, hd]; rfl
      rw [show ieV xs n = false by unfold ieV; rw [hB]; rfl, hB]
      obtain ⟨a, cap, rfl, _, _⟩ := argL_slice ha
      have HL := Lib.hid hL; have HD := Lib.hid hd; clear hL ha ht hd hB
      go_enter Try.func52, Try.ntmps52
      go_wp2_with fail
      refine HL.out.mono ?_
      rintro e w1 ⟨rfl, rfl⟩
      go_wp2_with fail
      refine (l1In_is false _ _ _ _ HD.out).mono ?_
      rintro e w1 ⟨rfl, rfl⟩
      go_wp2_with fail
      go_ret2
      exact ⟨rfl, Below.refl _ _⟩
    | true =>
      have hB : ieB xs n = true := by unfold ieB; rw [ht, hd]; rfl
      have hV : ieV xs n = ieE xs (n.toNat - 1) := by unfold ieV; rw [hB]; rfl
      have hn := of_decide_eq_true hd
      obtain ⟨m, hm⟩ : ∃ m : Nat, n = (m : Int) + 1 := ⟨(n - 1).toNat, by omega⟩
      rw [hB, hV, show n.toNat - 1 = m by omega]
      subst hm
      have hmN : m < xs.length := by omega
      have hPB := fun (k : Nat) (hk : k < xs.length) (W : World) (n : Nat) (hW : ∃ q, W = w.drewN q) => plBackQ_arg (W.drewN n) v xs k (argL_below (by obtain ⟨q, rfl⟩ := hW; exact argL_below ha (belowN _ _ _)) (belowN _ _ _)) hk (by omega)
      have hiff : ieE xs m = true ↔ ∀ j, m ≤ j → (hj : j + 1 < xs.length) → xs[j + 1] = bkS xs j := by unfold ieE; rw [decide_eq_true_eq]; exact ie_iff xs m hmN
      obtain ⟨g, o, cap, hv, hc1, hc2, hg, hce⟩ := argL_at ha h1
      obtain ⟨N, hN⟩ : ∃ N, N = xs.length := ⟨_, rfl⟩
      have HN := Lib.hid hN
      rw [← hN] at hv h1 h60 hc1 hmN hd
      subst hv
      have HL := Lib.hid hL; have HD := Lib.hid hd; have HC := Lib.hid hce; have HPB := Lib.hid hPB; have HIFF := Lib.hid hiff
      clear hL ha ht hN hd hce hPB hiff hB hV hn
      go_enter Try.func52, Try.ntmps52
      go_wp2_with fail
      refine HL.out.mono ?_
      rintro e w1 ⟨rfl, rfl⟩
      go_wp2_with fail
      refine (l1In_is true _ _ _ _ HD.out).mono ?_
      rintro e w1 ⟨rfl, rfl⟩
      go_wp2_with fail
      go_loopw [6] (fun iv wr => ∃ K k : Nat, Hid (K = k + 1) ∧ m ≤ k ∧ k < N ∧ iv = .int .i64 K ∧ Hid (∃ q, wr = w.drewN q) ∧ Hid (∀ j, m ≤ j → j < k → (hj : j + 1 < xs.length) → xs[j + 1] = bkS xs j)) (fun iv _ => N + 1 - (intOf iv).toNat)
      case atStart => exact ⟨m + 1, m, Lib.hid rfl, Nat.le_refl _, hmN, by go_num, Lib.hid ⟨0, rfl⟩, Lib.hid (fun j h1 h2 => by omega)⟩
      case round =>
        obtain ⟨K, k, HK, hmk, hk, rfl, HW, HX⟩ := hrel
        have hKN : K ≤ N := by have := HK.out; omega
        by_cases hlt : K < N
        · have hk' : k + 1 < xs.length := by rw [← HN.out, ← HK.out]; exact hlt
          have h2 : wr.cell? ⟨g, o + K, none⟩ = some (.int .i64 xs[k + 1]) := by obtain ⟨q, hq⟩ := HW.out; rw [hq, HK.out]; exact HC.out (k + 1) hk'
          obtain ⟨x, hx⟩ : ∃ x, x = xs[k + 1] := ⟨_, rfl⟩
          obtain ⟨y, hy⟩ : ∃ y, y = bkS xs k := ⟨_, rfl⟩
          rw [← hx] at h2
          have hcall := fun (n : Nat) => HPB.out k (by omega) wr n HW.out
          rw [show ((bk (sq xs) k : Nat) : Int) = y from hy.symm] at hcall
          have HCALL := Lib.hid hcall
          have e1 : (K : Int) - 1 = (k : Int) := by have := HK.out; omega
          by_cases he : x = y
          · have hbe : (x != y) = false := by simpa using he
            have hnew : Hid (∀ j, m ≤ j → j < k + 1 → (hj : j + 1 < xs.length) → xs[j + 1] = bkS xs j) := fun j h1 h2 hj => by
              by_cases e : j = k
              · subst e; rw [← hx, ← hy]; exact he
              · exact HX.out j h1 (by omega) hj
            clear hx hy he hcall
            go_wp2_with fail
            go_quiet (first | (go_at_call 81; exact Calls.quiet_of (HCALL.out _)))
            go_wp2_with fail
            go_roundw
            case rel => exact ⟨K + 1, k + 1, Lib.hid (by rw [HK.out]), by omega, by have := HK.out; omega, by go_num, Lib.hid (by obtain ⟨q, hq⟩ := HW.out; exact ⟨q + nq, by rw [hq]; exact World.drewN_drewN _ _ _⟩), hnew⟩
            case measure => simp [intOf] <;> omega
          · have hbe : (x != y) = true := by simpa using he
            have hd : ieE xs m = false := by
              rw [← Bool.not_eq_true]
              intro h
              exact he (by rw [hx, hy]; exact HIFF.out.1 h k hmk hk')
            have HD2 := Lib.hid hd
            clear hx hy he hcall hd
            go_wp2_with fail
            go_quiet (first | (go_at_call 81; exact Calls.quiet_of (HCALL.out _)))
            go_wp2_with fail
            go_ret2
            exact ⟨by rw [HD2.out]; rfl, by obtain ⟨q, hq⟩ := HW.out; rw [hq]; exact (belowN _ _ _).trans (belowN _ _ _)⟩
        · obtain rfl : K = N := by omega
          have hd : ieE xs m = true := HIFF.out.2 (fun j h1 hj => HX.out j h1 (by rw [← HN.out] at hj; have := HK.out; omega) hj)
          have HD2 := Lib.hid hd
          clear hd
          go_wp2_with fail
          go_ret2
          exact ⟨by rw [HD2.out]; rfl, by obtain ⟨q, hq⟩ := HW.out; rw [hq]; exact belowN _ _ _⟩

set_option maxHeartbeats 4000000 in
theorem specRank_true_arg (w : World) (v : Value) (xs : List Int) (ha : ArgL w v xs) (hf : isF xs = true) (h20 : xs.length ≤ 20) :
    Calls Try.prog 36 #[v] w fun e w' => e = .returned (.tuple #[.int .i64 (rkV xs), .bool (rkB xs)]) ∧ Below w.heap.size w w' := by
  have hB : rkB xs = true := by unfold rkB; rw [hf, decide_eq_true h20]; rfl
  have hV : rkV xs = ((rkN xs xs.length : Nat) : Int) := by unfold rkV; rw [hB]; rfl
  rw [hB, hV]
  have hL := plGood_arg w v xs ha
  have ht : plL xs = true := by unfold isF at hf; rw [Bool.and_eq_true] at hf; exact hf.1
  rw [ht] at hL
  have hI := plIs_arg w v xs ha ht
  rw [hf] at hI
  obtain ⟨h1, h60, _⟩ := plL_open ht
  have hix := fun k hk => rk_ix hf k hk
  have hml := fun k hk => rkM_le hf k hk
  have hns := fun k hk => rkN_step hf h20 k hk
  have hnl := fun k hk => rkN_le hf h20 k hk
  obtain ⟨g, o, cap, hv, hc1, hc2, hg, hce⟩ := argL_at ha h1
  obtain ⟨N, hN⟩ : ∃ N, N = xs.length := ⟨_, rfl⟩
  have HN := Lib.hid hN
  rw [← hN] at hv h1 h60 hc1 h20 hix hml hns hnl
  subst hv
  have HL := Lib.hid hL; have HI := Lib.hid hI
  have HC := Lib.hid hce; have HIX := Lib.hid hix; have HML := Lib.hid hml; have HNS := Lib.hid hns; have HNL := Lib.hid hnl
  clear ha hce hix hml hns hnl hN hB hV ht hf hL hI
  go_enter Try.func36, Try.ntmps36
  go_wp2_with fail
  refine HL.out.mono ?_
  rintro e w1 ⟨rfl, rfl⟩
  go_wp2_with fail
  refine HI.out.mono ?_
  rintro e w1 ⟨rfl, hb⟩
  have HB := Lib.hid hb; clear hb
  go_wp2_with fail
  go_loopw [4, 5, 23] (fun rv mv iv wr => ∃ (k q m : Nat), k ≤ N ∧ m ≤ k ∧ q ≤ k * (19 * 474869816156751) ∧ iv = .int .i64 k ∧ rv = .int .i64 q ∧ mv = .int .i64 m ∧ Hid (q = rkN xs k ∧ m = rkM xs k) ∧ Hid (Below w.heap.size w wr)) (fun _ _ iv _ => N - (intOf iv).toNat)
  case atStart => exact ⟨0, 0, 0, Nat.zero_le _, Nat.le_refl _, by omega, rfl, rfl, rfl, Lib.hid ⟨rfl, rfl⟩, HB⟩
  case round =>
    obtain ⟨k, q, m, hk, hmk, hq, rfl, rfl, rfl, HX, HW⟩ := hrel
    by_cases hlt : k < N
    · have hk' : k < xs.length := by rw [← HN.out]; exact hlt
      obtain ⟨x0, x1, x2⟩ := HIX.out k hlt
      have h2 : wr.cell? ⟨g, o + k, none⟩ = some (.int .i64 ((rkX xs k : Nat) : Int)) := by
        rw [← x0, sq_at hk']
        exact (HW.out.cell (p := ⟨g, o + k, none⟩) hg).trans (HC.out k hk')
      obtain ⟨lf, hlf⟩ : ∃ lf, lf = N - (k + 1) := ⟨_, rfl⟩
      have hsN : rkN xs (k + 1) = q + (rkX xs k - 1) * endN lf m := by rw [hlf, HX.out.1, HX.out.2, HN.out]; rfl
      have hsM : rkM xs (k + 1) = if m > rkX xs k then m else rkX xs k := by rw [HX.out.2]; rfl
      have hst := HNS.out k hlt
      rw [← HX.out.2, ← hlf] at hst
      have hG := fun W => plGo_any W m lf (by omega)
      obtain ⟨X, hX⟩ : ∃ X, X = rkX xs k := ⟨_, rfl⟩
      rw [← hX] at h2 x1 x2 hsN hsM hst
      obtain ⟨y, hy⟩ : ∃ y, y = X - 1 := ⟨_, rfl⟩
      obtain ⟨E, hE⟩ : ∃ E, E = endN lf m := ⟨_, rfl⟩
      rw [← hE] at hG hsN hst
      rw [← hy] at hsN hst
      obtain ⟨t, htt⟩ : ∃ t, t = y * E := ⟨_, rfl⟩
      rw [← htt] at hsN hst
      have ey : (X : Int) - 1 = (y : Int) := by omega
      have hmul : (y : Int) * (E : Int) = (t : Int) := by rw [htt]; simp
      have hq9 : q ≤ 19 * (19 * 474869816156751) := Nat.le_trans hq (Nat.mul_le_mul_right _ (by omega))
      have hqn : q + t ≤ (k + 1) * (19 * 474869816156751) := by rw [Nat.succ_mul]; omega
      have e1 : (N : Int) - 1 = ((N - 1 : Nat) : Int) := by omega
      have e2 : ((N - 1 : Nat) : Int) - (k : Int) = (lf : Int) := by omega
      obtain ⟨N1, hN1⟩ : ∃ N1, N1 = N - 1 := ⟨_, rfl⟩
      rw [← hN1] at e1 e2
      clear hN1
      have HG := Lib.hid hG; have HSN := Lib.hid hsN; have HSM := Lib.hid hsM; have HQN := Lib.hid hqn
      clear x0 hlf hX hE hy htt hG hsN hsM hqn hq
      by_cases hmx : m > X
      · have hsm := HSM.out
        rw [if_pos hmx] at hsm
        have HSM2 := Lib.hid hsm
        clear hsm
        go_wp2_with fail
        refine (HG.out _).mono ?_
        rintro e w2 ⟨rfl, hb2⟩
        have HB2 := Lib.hid (below_trans HW.out hb2); clear hb2
        go_wp2_with fail
        refine (l1Most_any w2 (m : Int) (X : Int)).mono ?_
        rintro e w3 ⟨rfl, rfl⟩
        have HB3 := HB2
        go_wp2_with fail
        go_roundw
        case rel => exact ⟨k + 1, q + t, m, by omega, by omega, HQN.out, by go_num, by go_num, rfl, Lib.hid ⟨HSN.out.symm, HSM2.out.symm⟩, HB3⟩
        case measure => simp [intOf] <;> omega
      · have hsm := HSM.out
        rw [if_neg hmx] at hsm
        have HSM2 := Lib.hid hsm
        clear hsm
        go_wp2_with fail
        refine (HG.out _).mono ?_
        rintro e w2 ⟨rfl, hb2⟩
        have HB2 := Lib.hid (below_trans HW.out hb2); clear hb2
        go_wp2_with fail
        refine (l1Most_any w2 (m : Int) (X : Int)).mono ?_
        rintro e w3 ⟨rfl, rfl⟩
        have HB3 := HB2
        go_wp2_with fail
        go_roundw
        case rel => exact ⟨k + 1, q + t, X, by omega, by omega, HQN.out, by go_num, by go_num, by first | rfl | (congr 1; split <;> omega), Lib.hid ⟨HSN.out.symm, HSM2.out.symm⟩, HB3⟩
        case measure => simp [intOf] <;> omega
    · obtain rfl : k = N := by omega
      go_wp2_with fail
      go_ret2
      exact ⟨by rw [HX.out.1, HN.out]; rfl, HW.out⟩

set_option maxHeartbeats 2000000 in
theorem specRankOfForm_arg (w : World) (v : Value) (xs : List Int) (ha : ArgL w v xs) :
    Calls Try.prog 36 #[v] w fun e w' => e = .returned (.tuple #[.int .i64 (rkV xs), .bool (rkB xs)]) ∧ Below w.heap.size w w' := by
  have hL := plGood_arg w v xs ha
  cases ht0 : plL xs with
  | false =>
    rw [ht0] at hL
    have hf : isF xs = false := by unfold isF; rw [ht0]; rfl
    have hB : rkB xs = false := by unfold rkB; rw [hf]; rfl
    rw [hB, show rkV xs = 0 by unfold rkV; rw [hB]; rfl]
    obtain ⟨a, cap, rfl, _, _⟩ := argL_slice ha
    have HL := Lib.hid hL; clear hL ha ht0 hf hB
    go_enter Try.func36, Try.ntmps36
    go_wp2_with fail
    refine HL.out.mono ?_
    rintro e w1 ⟨rfl, rfl⟩
    go_wp2_with fail
    go_ret2
    exact ⟨rfl, Below.refl _ _⟩
  | true =>
    rw [ht0] at hL
    have hI := plIs_arg w v xs ha ht0
    by_cases h20 : xs.length ≤ 20
    · cases hf : isF xs with
      | false =>
        rw [hf] at hI
        have hB : rkB xs = false := by unfold rkB; rw [hf]; rfl
        rw [hB, show rkV xs = 0 by unfold rkV; rw [hB]; rfl]
        obtain ⟨a, cap, hv, _, _⟩ := argL_slice ha
        obtain ⟨N, hN⟩ : ∃ N, N = xs.length := ⟨_, rfl⟩
        rw [← hN] at hv h20
        subst hv
        have HL := Lib.hid hL; have HI := Lib.hid hI; clear hL ha ht0 hf hB hI hN
        go_enter Try.func36, Try.ntmps36
        go_wp2_with fail
        refine HL.out.mono ?_
        rintro e w1 ⟨rfl, rfl⟩
        go_wp2_with fail
        refine HI.out.mono ?_
        rintro e w1 ⟨rfl, hb⟩
        have HB := Lib.hid hb; clear hb
        go_wp2_with fail
        go_ret2
        exact ⟨rfl, HB.out⟩
      | true => exact specRank_true_arg w v xs ha hf h20
    · have hB : rkB xs = false := by unfold rkB; rw [decide_eq_false h20, Bool.and_false]
      rw [hB, show rkV xs = 0 by unfold rkV; rw [hB]; rfl]
      obtain ⟨a, cap, hv, _, _⟩ := argL_slice ha
      obtain ⟨N, hN⟩ : ∃ N, N = xs.length := ⟨_, rfl⟩
      rw [← hN] at hv h20
      subst hv
      have HL := Lib.hid hL; clear hL ha ht0 hB hI hN
      go_enter Try.func36, Try.ntmps36
      go_wp2_with fail
      refine HL.out.mono ?_
      rintro e w1 ⟨rfl, rfl⟩
      go_wp2_with fail
      go_ret2
      exact ⟨rfl, Below.refl _ _⟩

set_option maxHeartbeats 4000000 in
theorem implRank_true_arg (w : World) (v : Value) (xs : List Int) (ha : ArgL w v xs) (hf : isF xs = true) (h20 : xs.length ≤ 20) :
    Calls Try.prog 35 #[v] w fun e w' => e = .returned (.tuple #[.int .i64 (rkV xs), .bool (rkB xs)]) ∧ Below w.heap.size w w' := by
  have hB : rkB xs = true := by unfold rkB; rw [hf, decide_eq_true h20]; rfl
  have hV : rkV xs = ((rkN xs xs.length : Nat) : Int) := by unfold rkV; rw [hB]; rfl
  rw [hB, hV]
  have ht : plL xs = true := by unfold isF at hf; rw [Bool.and_eq_true] at hf; exact hf.1
  have hI := implIsForm_arg w v xs ha
  rw [hf, ht] at hI
  obtain ⟨h1, h60, _⟩ := plL_open ht
  have hix := fun k hk => rk_ix hf k hk
  have hml := fun k hk => rkM_le hf k hk
  have hns := fun k hk => rkN_step hf h20 k hk
  have hnl := fun k hk => rkN_le hf h20 k hk
  obtain ⟨g, o, cap, hv, hc1, hc2, hg, hce⟩ := argL_at ha h1
  obtain ⟨N, hN⟩ : ∃ N, N = xs.length := ⟨_, rfl⟩
  have HN := Lib.hid hN
  rw [← hN] at hv h1 h60 hc1 h20 hix hml hns hnl
  subst hv
  have HI := Lib.hid hI
  have HC := Lib.hid hce; have HIX := Lib.hid hix; have HML := Lib.hid hml; have HNS := Lib.hid hns; have HNL := Lib.hid hnl
  clear ha hce hix hml hns hnl hN hB hV ht hf hI
  go_enter Try.func35, Try.ntmps35
  go_wp2_with fail
  refine HI.out.mono ?_
  rintro e w1 ⟨rfl, hb⟩
  have HB := Lib.hid hb; clear hb
  go_wp2_with fail
  go_loopw [6, 7, 24] (fun rv mv iv wr => ∃ (k q m : Nat), k ≤ N ∧ m ≤ k ∧ q ≤ k * (19 * 474869816156751) ∧ iv = .int .i64 k ∧ rv = .int .i64 q ∧ mv = .int .i64 m ∧ Hid (q = rkN xs k ∧ m = rkM xs k) ∧ Hid (Below w.heap.size w wr)) (fun _ _ iv _ => N - (intOf iv).toNat)
  case atStart => exact ⟨0, 0, 0, Nat.zero_le _, Nat.le_refl _, by omega, rfl, rfl, rfl, Lib.hid ⟨rfl, rfl⟩, HB⟩
  case round =>
    obtain ⟨k, q, m, hk, hmk, hq, rfl, rfl, rfl, HX, HW⟩ := hrel
    by_cases hlt : k < N
    · have hk' : k < xs.length := by rw [← HN.out]; exact hlt
      obtain ⟨x0, x1, x2⟩ := HIX.out k hlt
      have h2 : wr.cell? ⟨g, o + k, none⟩ = some (.int .i64 ((rkX xs k : Nat) : Int)) := by
        rw [← x0, sq_at hk']
        exact (HW.out.cell (p := ⟨g, o + k, none⟩) hg).trans (HC.out k hk')
      obtain ⟨lf, hlf⟩ : ∃ lf, lf = N - (k + 1) := ⟨_, rfl⟩
      have hsN : rkN xs (k + 1) = q + (rkX xs k - 1) * endN lf m := by rw [hlf, HX.out.1, HX.out.2, HN.out]; rfl
      have hsM : rkM xs (k + 1) = if m > rkX xs k then m else rkX xs k := by rw [HX.out.2]; rfl
      have hst := HNS.out k hlt
      rw [← HX.out.2, ← hlf] at hst
      have hG := fun W => countEndings_any W lf m (by omega)
      obtain ⟨X, hX⟩ : ∃ X, X = rkX xs k := ⟨_, rfl⟩
      rw [← hX] at h2 x1 x2 hsN hsM hst
      obtain ⟨y, hy⟩ : ∃ y, y = X - 1 := ⟨_, rfl⟩
      obtain ⟨E, hE⟩ : ∃ E, E = endN lf m := ⟨_, rfl⟩
      rw [← hE] at hG hsN hst
      rw [← hy] at hsN hst
      obtain ⟨t, htt⟩ : ∃ t, t = y * E := ⟨_, rfl⟩
      rw [← htt] at hsN hst
      have ey : (X : Int) - 1 = (y : Int) := by omega
      have hmul : (y : Int) * (E : Int) = (t : Int) := by rw [htt]; simp
      have hq9 : q ≤ 19 * (19 * 474869816156751) := Nat.le_trans hq (Nat.mul_le_mul_right _ (by omega))
      have hqn : q + t ≤ (k + 1) * (19 * 474869816156751) := by rw [Nat.succ_mul]; omega
      obtain ⟨u0, hu0⟩ : ∃ u0, u0 = N - k := ⟨_, rfl⟩
      have e1 : (N : Int) - (k : Int) = (u0 : Int) := by omega
      have e2 : (u0 : Int) - 1 = (lf : Int) := by omega
      clear hu0
      have HG := Lib.hid hG; have HSN := Lib.hid hsN; have HSM := Lib.hid hsM; have HQN := Lib.hid hqn
      clear x0 hlf hX hE hy htt hG hsN hsM hqn hq
      by_cases hmx : m > X
      · have hsm := HSM.out
        rw [if_pos hmx] at hsm
        have HSM2 := Lib.hid hsm
        clear hsm
        go_wp2_with fail
        refine (HG.out _).mono ?_
        rintro e w2 ⟨rfl, hb2⟩
        have HB3 := Lib.hid (below_trans HW.out hb2); clear hb2
        go_wp2_with fail
        go_roundw
        case rel => exact ⟨k + 1, q + t, m, by omega, by omega, HQN.out, by go_num, by go_num, rfl, Lib.hid ⟨HSN.out.symm, HSM2.out.symm⟩, HB3⟩
        case measure => simp [intOf] <;> omega
      · have hsm := HSM.out
        rw [if_neg hmx] at hsm
        have HSM2 := Lib.hid hsm
        clear hsm
        go_wp2_with fail
        refine (HG.out _).mono ?_
        rintro e w2 ⟨rfl, hb2⟩
        have HB3 := Lib.hid (below_trans HW.out hb2); clear hb2
        go_wp2_with fail
        go_roundw
        case rel => exact ⟨k + 1, q + t, X, by omega, by omega, HQN.out, by go_num, by go_num, by first | rfl | (congr 1; split <;> omega), Lib.hid ⟨HSN.out.symm, HSM2.out.symm⟩, HB3⟩
        case measure => simp [intOf] <;> omega
    · obtain rfl : k = N := by omega
      go_wp2_with fail
      go_ret2
      exact ⟨by rw [HX.out.1, HN.out]; rfl, HW.out⟩

set_option maxHeartbeats 2000000 in
theorem implRankOfForm_arg (w : World) (v : Value) (xs : List Int) (ha : ArgL w v xs) :
    Calls Try.prog 35 #[v] w fun e w' => e = .returned (.tuple #[.int .i64 (rkV xs), .bool (rkB xs)]) ∧ Below w.heap.size w w' := by
  have hI := implIsForm_arg w v xs ha
  cases hf : isF xs with
  | false =>
    rw [hf] at hI
    have hB : rkB xs = false := by unfold rkB; rw [hf]; rfl
    rw [hB, show rkV xs = 0 by unfold rkV; rw [hB]; rfl]
    obtain ⟨y, hy⟩ : ∃ y, y = plL xs := ⟨_, rfl⟩
    rw [← hy] at hI
    obtain ⟨a, cap, rfl, _, _⟩ := argL_slice ha
    have HI := Lib.hid hI; clear ha hf hB hI hy
    go_enter Try.func35, Try.ntmps35
    go_wp2_with fail
    refine HI.out.mono ?_
    rintro e w1 ⟨rfl, hb⟩
    have HB := Lib.hid hb; clear hb
    go_wp2_with fail
    go_ret2
    exact ⟨rfl, HB.out⟩
  | true =>
    rw [hf] at hI
    by_cases h20 : xs.length ≤ 20
    · exact implRank_true_arg w v xs ha hf h20
    · have hB : rkB xs = false := by unfold rkB; rw [decide_eq_false h20, Bool.and_false]
      rw [hB, show rkV xs = 0 by unfold rkV; rw [hB]; rfl]
      obtain ⟨y, hy⟩ : ∃ y, y = plL xs := ⟨_, rfl⟩
      rw [← hy] at hI
      obtain ⟨a, cap, hv, _, _⟩ := argL_slice ha
      obtain ⟨N, hN⟩ : ∃ N, N = xs.length := ⟨_, rfl⟩
      rw [← hN] at hv h20
      subst hv
      have HI := Lib.hid hI; clear ha hf hB hI hy hN
      go_enter Try.func35, Try.ntmps35
      go_wp2_with fail
      refine HI.out.mono ?_
      rintro e w1 ⟨rfl, hb⟩
      have HB := Lib.hid hb; clear hb
      go_wp2_with fail
      go_ret2
      exact ⟨rfl, HB.out⟩

set_option maxHeartbeats 4000000 in
theorem eckBeginning_arg (w : World) (v : Value) (ns : List Int) (n most : Int) (ha : ArgL w v ns) (hm : most ≤ 10000) :
    Calls Try.prog 77 #[v, .int .i64 n, .int .i64 most] w fun e w' => IntsAOk (ebO ns n most) w w' e := by
  obtain ⟨i0, hi, hz0, hz1, hz2⟩ := info_parts info_intT
  have hL := isPlaceList_arg w v ns ha
  cases ht : plL ns with
  | false =>
    rw [ht] at hL
    rw [show ebO ns n most = none by unfold ebO; rw [ht]; rfl]
    obtain ⟨a, cap, rfl, _, _⟩ := argL_slice ha
    have HL := Lib.hid hL; clear hL ha ht
    go_enter Try.func77, Try.ntmps77
    go_wp2_with fail
    refine HL.out.mono ?_
    rintro e w1 ⟨rfl, rfl⟩
    go_wp2_with fail
    go_ret2
    exact ⟨_, rfl, intsA_nil _ _, Below.refl _ _, fun _ => rfl⟩
  | true =>
    rw [ht] at hL
    cases hd : decide ((1 : Int) ≤ n ∧ n ≤ most) with
    | false =>
      rw [show ebO ns n most = none by unfold ebO; rw [ht, hd]; rfl]
      obtain ⟨a, cap, rfl, _, _⟩ := argL_slice ha
      have HL := Lib.hid hL; have HD := Lib.hid hd; clear hL ha ht hd
      go_enter Try.func77, Try.ntmps77
      go_wp2_with fail
      refine HL.out.mono ?_
      rintro e w1 ⟨rfl, rfl⟩
      go_wp2_with fail
      refine (isWithin_is false _ _ _ _ HD.out).mono ?_
      rintro e w1 ⟨rfl, rfl⟩
      go_wp2_with fail
      go_ret2
      exact ⟨_, rfl, intsA_nil _ _, Below.refl _ _, fun _ => rfl⟩
    | true =>
      have hn := of_decide_eq_true hd
      rw [show ebO ns n most = some (upL (eckS ns) n.toNat) by unfold ebO; rw [ht, hd]; rfl]
      obtain ⟨K, rfl⟩ := Int.eq_ofNat_of_zero_le (show 0 ≤ n by omega)
      rw [Int.toNat_natCast]
      have hK9 : K ≤ 10000 := by omega
      have hK1 : 1 ≤ K := by omega
      have harg := fun (W : World) (hb : Below w.heap.size w W) => argL_below ha hb
      obtain ⟨a, cap, hv, _, _⟩ := argL_slice ha
      obtain ⟨N, hN⟩ : ∃ N, N = ns.length := ⟨_, rfl⟩
      rw [← hN] at hv
      subst hv
      have HL := Lib.hid hL; have HD := Lib.hid hd; have HP := Lib.hid ht; have HA := Lib.hid harg
      clear hL ha ht hd hn harg hN
      go_enter Try.func77, Try.ntmps77
      go_wp2_with fail
      refine HL.out.mono ?_
      rintro e w1 ⟨rfl, rfl⟩
      go_wp2_with fail
      refine (isWithin_is true _ _ _ _ HD.out).mono ?_
      rintro e w1 ⟨rfl, rfl⟩
      go_wp2_with (refine wpList_make_own _ rfl _ _ 22 rfl w.heap.size 3 i0 (.int .i64 0) 1 Try.underlying22 hi hz0 hz1 .i64 .i64 (K : Int) K rfl rfl rfl (by rw [hz2]; omega) (by unfold maxLen; omega) (Nat.le_refl _) ?_; intro w1 hown hgr; have HO := Lib.hid hown; have HB := Lib.hid ((Below.refl w.heap.size w).grown hgr (Nat.le_refl _) (fun k h => by cases h)); clear hown hgr)
      refine (eckFrom_any w1 a N cap ns).mono ?_
      rintro e w2 ⟨rfl, hl, hb⟩
      have hlt : w.heap.size < w1.heap.size := (HO.out.lt w.heap.size rfl).2
      have HO2 := Lib.hid (own_below HO.out hb); have HL2 := Lib.hid hl; have HB2 := Lib.hid (below_trans HB.out hb)
      clear hl hb
      unfold eckV
      go_wp2_with fail
      go_loopw [8, 24] (fun ov iv wr => ∃ k : Nat, k ≤ K ∧ ov = .slice (some ⟨w.heap.size, 0, none⟩) k K ∧ iv = .int .i64 k ∧ Hid (Ints wr w.heap.size (.slice (some ⟨w.heap.size, 0, none⟩) k K) (upL (eckS ns) k) ∧ EckAt wr w1.heap.size k ns (.slice a N cap) ∧ w1.heap.size ≤ wr.heap.size ∧ Below w.heap.size w wr)) (fun _ iv _ => K - (intOf iv).toNat)
      case atStart => exact ⟨0, Nat.zero_le _, rfl, rfl, HO2.out, HL2.out, by have := HL2.out.2.1; omega, HB2.out⟩
      case round =>
        obtain ⟨k, hk, rfl, rfl, HX⟩ := hrel
        by_cases hlt2 : k < K
        · have hcall := eck1_any wr w1.heap.size k ns _ HX.out.2.1 (HA.out wr HX.out.2.2.2) HP.out (by omega)
          have HCALL := Lib.hid hcall; clear hcall
          go_wp2_with fail
          refine HCALL.out.mono ?_
          rintro e w3 ⟨rfl, hl3, hb3⟩
          have hrow3 : Ints w3 w.heap.size (.slice (some ⟨w.heap.size, 0, none⟩) k K) (upL (eckS ns) k) := own_block HX.out.1 (fun j hj => by
            cases hj
            exact hb3.block w.heap.size hlt)
          have HL3 := Lib.hid hl3; have HR3 := Lib.hid hrow3; have HB3 := Lib.hid (HX.out.2.2.2.trans (hb3.mono (Nat.le_of_lt hlt))); have HS3 := Lib.hid (Nat.le_trans HX.out.2.2.1 hb3.size)
          clear hl3 hb3 hrow3
          go_wp2_with (at_builtin; refine wpI_fits w3 rfl _ _ rfl w (eckS ns k) HR3.out rfl rfl (upL_len _ _) HB3.out (by omega) ?_; intro w4 ho4 hb4 hk4 hs4; have HO4 := Lib.hid ho4; have HB4 := Lib.hid hb4; have HK4 := Lib.hid hk4; have HS4 := Lib.hid hs4; clear ho4 hb4 hk4 hs4)
          go_roundw
          case rel =>
            refine ⟨k + 1, by omega, rfl, by go_num, by rw [upL_succ]; exact HO4.out, HL3.out.keep HS4.out (fun j h1 h2 => HK4.out j h2 (by omega)), Nat.le_trans HS3.out HS4.out, HB4.out⟩
          case measure => simp [intOf] <;> omega
        · obtain rfl : k = K := by omega
          go_wp2_with fail
          go_ret2
          exact ⟨_, rfl, intsA_of HX.out.1, HX.out.2.2.2, fun h => by cases h⟩

set_option maxHeartbeats 8000000 in
theorem plEck_arg (w : World) (v : Value) (ns : List Int) (K : Nat) (ha : ArgL w v ns) (hp : plL ns = true) (hK : K ≤ 10000) :
    Calls Try.prog 78 #[v, .int .i64 K] w fun e w' => ∃ u, e = .returned u ∧ Ints w' w.heap.size u (upL (eckS ns) K) ∧ Below w.heap.size w w' := by
  obtain ⟨i0, hi, hz0, hz1, hz2⟩ := info_parts info_intT
  obtain ⟨h1, h60, _⟩ := plL_open hp
  obtain ⟨g, o, cap, rfl, hc1, hc2, hg, hce⟩ := argL_at ha h1
  have HC := Lib.hid hce; have HP := Lib.hid hp
  obtain ⟨N, hN⟩ : ∃ N, N = ns.length := ⟨_, rfl⟩
  have HN := Lib.hid hN
  obtain ⟨m0, hm0⟩ : ∃ m0 : Nat, m0 = if K > 60 then K else 60 := ⟨_, rfl⟩
  have hmost := l1Most_any w (K : Int) 60
  rw [show (if (K : Int) > 60 then (K : Int) else 60) = (m0 : Int) by rw [hm0]; split <;> split <;> omega] at hmost
  have hm1 : K ≤ m0 := by rw [hm0]; split <;> omega
  have hm2 : m0 ≤ 10000 := by rw [hm0]; split <;> omega
  have HM := Lib.hid hmost
  rw [← hN] at hc1 h1 h60 ⊢
  clear ha hce hN hp hm0 hmost
  have HNX := Lib.hid (fun k => nx_succ ns k)
  obtain ⟨M, hM⟩ : ∃ M, M = m0 + 1000 + 2 := ⟨_, rfl⟩
  have e1 : (m0 : Int) + 1000 + 2 = (M : Int) := by omega
  have hM9 : M ≤ 12000 := by omega
  have hMK : K + 1000 < M := by omega
  clear hM
  go_enter Try.func78, Try.ntmps78
  go_wp2_with fail
  refine HM.out.mono ?_
  rintro e w0 ⟨rfl, rfl⟩
  go_wp2_with (refine wpList_make_full _ rfl _ _ 22 rfl w.heap.size 3 i0 (.int .i64 0) 1 Try.underlying22 hi hz0 hz1 .i64 .i64 (M : Int) (M : Int) M rfl rfl rfl rfl (by rw [hz2]; omega) (by unfold maxLen; omega) (Nat.le_refl _) ?_; intro w1 hown hgr; have HO := Lib.hid hown; have HB := Lib.hid ((Below.refl w.heap.size w).grown hgr (Nat.le_refl _) (fun k h => by cases h)); clear hown hgr)
  go_loopw [6, 7, 8] (fun ov nv iv wr => ∃ k q : Nat, k ≤ K ∧ nv = .int .i64 q ∧ iv = .int .i64 k ∧ Hid (q = nx ns k) ∧ Hid (Ints wr w.heap.size ov (upL (eckS ns) k) ∧ ov.ownBlock ≠ some w.heap.size ∧ Ints wr w.heap.size (.slice (some ⟨w.heap.size, 0, none⟩) M M) (lstL (eckS ns) k M) ∧ Below w.heap.size w wr)) (fun _ _ iv _ => K - (intOf iv).toNat)
  case atStart =>
    refine ⟨0, 0, Nat.zero_le _, rfl, rfl, Lib.hid rfl, World.ownsRow_nil _ _ _ _, by simp [Value.ownBlock], ?_, HB.out⟩
    have e : (madeCells (Value.int .i64 0).cells (M * 1)).toList = (lstL (eckS ns) 0 M).map (.int .i64) := by
      rw [Nat.mul_one, lstL_zero, List.map_replicate]; exact toList_madeCells_one _ _
    unfold Ints
    rw [lstL_len]
    exact e ▸ HO.out
  case round =>
    obtain ⟨k, q, hk, rfl, rfl, HQ, HX⟩ := hrel
    by_cases hlt : k < K
    · have hbd := eckS_bd HP.out k
      obtain ⟨X, hX⟩ := Int.eq_ofNat_of_zero_le hbd.1
      have hXM : X < M := by omega
      obtain ⟨L, hL⟩ : ∃ L, L = lst (eckS ns) (X : Int) k := ⟨_, rfl⟩
      have hLk : L ≤ k := by rw [hL]; exact lst_le _ _ _
      have hbk : bk (eckS ns) k = if L = 0 then 0 else k + 1 - L := by unfold bk; rw [hX, ← hL]
      have hnx := HNX.out k
      rw [hbk] at hnx
      have hset := lstL_set (eckS ns) k M X hX
      have hat := lstL_at (eckS ns) k M X hXM
      rw [← hL] at hat
      have hmem : X < (lstL (eckS ns) k M).length := by rw [lstL_len]; exact hXM
      have hatg : (lstL (eckS ns) k M)[X]'hmem = (L : Int) := by
        rw [List.getElem?_eq_getElem hmem] at hat; exact Option.some.inj hat
      have hgt : w.heap.size < wr.heap.size := (HX.out.2.2.1.lt w.heap.size rfl).2
      have HSET := Lib.hid hset; have HATG := Lib.hid hatg; have HXX := Lib.hid hX; have HGT := Lib.hid hgt
      have hNin : k < N → wr.cell? ⟨g, o + k, none⟩ = some (.int .i64 (X : Int)) := fun h => by
        have hk' : k < ns.length := by rw [← HN.out]; exact h
        rw [← HXX.out, eckS_in hk']
        exact (HX.out.2.2.2.cell (p := ⟨g, o + k, none⟩) hg).trans (HC.out k hk')
      have hNout : ¬ k < N → X = q := fun h => by
        have h1' : 1 ≤ ns.length := by rw [← HN.out]; exact h1
        have := eckS_out h1' (k := k) (by rw [← HN.out]; exact h)
        rw [HXX.out, ← HQ.out] at this
        omega
      clear hbd hX hL hbk hset hat hatg hgt
      by_cases hlN : k < N
      · have h2 := hNin hlN
        clear hNin hNout
        by_cases hL0 : L = 0
        · rw [if_pos hL0] at hnx
          have HNX2 := Lib.hid hnx
          subst hL0
          clear hnx
          go_wp2_with (at_builtin; go_must (refine wpI_app wr rfl _ _ rfl w (X : Int) HX.out.1 rfl rfl HX.out.2.2.2 (by rw [upL_len]; omega) ?_; intro v4 w4 ho4 hb4 hk4 hs4 hw4; have HO4 := Lib.hid ho4; have HB4 := Lib.hid hb4; have HW4 := Lib.hid hw4; have HT4 : Hid (Ints w4 w.heap.size (.slice (some ⟨w.heap.size, 0, none⟩) M M) (lstL (eckS ns) k M)) := Lib.hid (own_block HX.out.2.2.1 (w' := w4) (fun j hj => by cases hj; exact hk4 w.heap.size HGT.out HX.out.2.1)); have h5 := ints_cell HT4.out X (by rw [lstL_len]; exact hXM); rw [HATG.out] at h5; have h6 : w4.frozen? ⟨w.heap.size, X, none⟩ = false := ints_frozenZ HT4.out (lstL_len _ _ _) X; clear ho4 hb4 hk4 hs4 hw4))
          go_roundw
          case rel =>
            refine ⟨k + 1, _, by omega, rfl, by go_num, Lib.hid HNX2.out.symm, ?_, ?_, ?_, HB4.out.setCell (p := ⟨w.heap.size, X, none⟩) (Nat.le_refl _) _⟩
            · rw [upL_succ, HXX.out]
              exact own_block HO4.out (fun j hj => Below.heap_setCell _ _ _ _ (fun e => ne4 HW4.out HX.out.2.1 HGT.out (by rw [hj, e])))
            · exact ne4 HW4.out HX.out.2.1 HGT.out
            · rw [← HSET.out]
              exact ints_storeZ HT4.out (lstL_len _ _ _) X _
          case measure => simp [intOf] <;> omega
        · have hLp : 0 < L := by omega
          rw [if_neg hL0] at hnx
          have HNX2 := Lib.hid hnx
          obtain ⟨m, hm⟩ : ∃ m, m = k + 1 - L := ⟨_, rfl⟩
          rw [← hm] at HNX2
          have he : (k : Int) + 1 - (L : Int) = (m : Int) := by omega
          clear hnx hm
          skip
          go_wp2_with (at_builtin; go_must (refine wpI_app wr rfl _ _ rfl w (X : Int) HX.out.1 rfl rfl HX.out.2.2.2 (by rw [upL_len]; omega) ?_; intro v4 w4 ho4 hb4 hk4 hs4 hw4; have HO4 := Lib.hid ho4; have HB4 := Lib.hid hb4; have HW4 := Lib.hid hw4; have HT4 : Hid (Ints w4 w.heap.size (.slice (some ⟨w.heap.size, 0, none⟩) M M) (lstL (eckS ns) k M)) := Lib.hid (own_block HX.out.2.2.1 (w' := w4) (fun j hj => by cases hj; exact hk4 w.heap.size HGT.out HX.out.2.1)); have h5 := ints_cell HT4.out X (by rw [lstL_len]; exact hXM); rw [HATG.out] at h5; have h6 : w4.frozen? ⟨w.heap.size, X, none⟩ = false := ints_frozenZ HT4.out (lstL_len _ _ _) X; clear ho4 hb4 hk4 hs4 hw4))
          go_roundw
          case rel =>
            refine ⟨k + 1, _, by omega, rfl, by go_num, Lib.hid HNX2.out.symm, ?_, ?_, ?_, HB4.out.setCell (p := ⟨w.heap.size, X, none⟩) (Nat.le_refl _) _⟩
            · rw [upL_succ, HXX.out]
              exact own_block HO4.out (fun j hj => Below.heap_setCell _ _ _ _ (fun e => ne4 HW4.out HX.out.2.1 HGT.out (by rw [hj, e])))
            · exact ne4 HW4.out HX.out.2.1 HGT.out
            · rw [← HSET.out]
              exact ints_storeZ HT4.out (lstL_len _ _ _) X _
          case measure => simp [intOf] <;> omega
      · have hqX := hNout hlN
        clear hNin hNout
        by_cases hL0 : L = 0
        · rw [if_pos hL0] at hnx
          have HNX2 := Lib.hid hnx
          subst hL0; subst hqX
          clear hnx
          go_wp2_with (at_builtin; go_must (refine wpI_app wr rfl _ _ rfl w (X : Int) HX.out.1 rfl rfl HX.out.2.2.2 (by rw [upL_len]; omega) ?_; intro v4 w4 ho4 hb4 hk4 hs4 hw4; have HO4 := Lib.hid ho4; have HB4 := Lib.hid hb4; have HW4 := Lib.hid hw4; have HT4 : Hid (Ints w4 w.heap.size (.slice (some ⟨w.heap.size, 0, none⟩) M M) (lstL (eckS ns) k M)) := Lib.hid (own_block HX.out.2.2.1 (w' := w4) (fun j hj => by cases hj; exact hk4 w.heap.size HGT.out HX.out.2.1)); have h5 := ints_cell HT4.out X (by rw [lstL_len]; exact hXM); rw [HATG.out] at h5; have h6 : w4.frozen? ⟨w.heap.size, X, none⟩ = false := ints_frozenZ HT4.out (lstL_len _ _ _) X; clear ho4 hb4 hk4 hs4 hw4))
          go_roundw
          case rel =>
            refine ⟨k + 1, _, by omega, rfl, by go_num, Lib.hid HNX2.out.symm, ?_, ?_, ?_, HB4.out.setCell (p := ⟨w.heap.size, X, none⟩) (Nat.le_refl _) _⟩
            · rw [upL_succ, HXX.out]
              exact own_block HO4.out (fun j hj => Below.heap_setCell _ _ _ _ (fun e => ne4 HW4.out HX.out.2.1 HGT.out (by rw [hj, e])))
            · exact ne4 HW4.out HX.out.2.1 HGT.out
            · rw [← HSET.out]
              exact ints_storeZ HT4.out (lstL_len _ _ _) X _
          case measure => simp [intOf] <;> omega
        · have hLp : 0 < L := by omega
          rw [if_neg hL0] at hnx
          have HNX2 := Lib.hid hnx
          obtain ⟨m, hm⟩ : ∃ m, m = k + 1 - L := ⟨_, rfl⟩
          rw [← hm] at HNX2
          have he : (k : Int) + 1 - (L : Int) = (m : Int) := by omega
          clear hnx hm
          subst hqX
          go_wp2_with (at_builtin; go_must (refine wpI_app wr rfl _ _ rfl w (X : Int) HX.out.1 rfl rfl HX.out.2.2.2 (by rw [upL_len]; omega) ?_; intro v4 w4 ho4 hb4 hk4 hs4 hw4; have HO4 := Lib.hid ho4; have HB4 := Lib.hid hb4; have HW4 := Lib.hid hw4; have HT4 : Hid (Ints w4 w.heap.size (.slice (some ⟨w.heap.size, 0, none⟩) M M) (lstL (eckS ns) k M)) := Lib.hid (own_block HX.out.2.2.1 (w' := w4) (fun j hj => by cases hj; exact hk4 w.heap.size HGT.out HX.out.2.1)); have h5 := ints_cell HT4.out X (by rw [lstL_len]; exact hXM); rw [HATG.out] at h5; have h6 : w4.frozen? ⟨w.heap.size, X, none⟩ = false := ints_frozenZ HT4.out (lstL_len _ _ _) X; clear ho4 hb4 hk4 hs4 hw4))
          go_roundw
          case rel =>
            refine ⟨k + 1, _, by omega, rfl, by go_num, Lib.hid HNX2.out.symm, ?_, ?_, ?_, HB4.out.setCell (p := ⟨w.heap.size, X, none⟩) (Nat.le_refl _) _⟩
            · rw [upL_succ, HXX.out]
              exact own_block HO4.out (fun j hj => Below.heap_setCell _ _ _ _ (fun e => ne4 HW4.out HX.out.2.1 HGT.out (by rw [hj, e])))
            · exact ne4 HW4.out HX.out.2.1 HGT.out
            · rw [← HSET.out]
              exact ints_storeZ HT4.out (lstL_len _ _ _) X _
          case measure => simp [intOf] <;> omega
    · obtain rfl : k = K := by omega
      go_wp2_with fail
      go_ret
      exact ⟨_, rfl, HX.out.1, HX.out.2.2.2⟩

set_option maxHeartbeats 2000000 in
theorem specEckList_arg (w : World) (v : Value) (xs : List Int) (n : Int) (ha : ArgL w v xs) :
    Calls Try.prog 41 #[v, .int .i64 n] w fun e w' => IntsAOk (ebO xs n 1000) w w' e := by
  have hL := plGood_arg w v xs ha
  cases ht : plL xs with
  | false =>
    rw [ht] at hL
    have hB : ebB xs n 1000 = false := by unfold ebB; rw [ht]; rfl
    rw [ebO_bad hB]
    obtain ⟨a, cap, rfl, _, _⟩ := argL_slice ha
    have HL := Lib.hid hL; clear hL ha ht hB
    go_enter Try.func41, Try.ntmps41
    go_wp2_with fail
    refine HL.out.mono ?_
    rintro e w1 ⟨rfl, rfl⟩
    go_wp2_with fail
    go_ret2
    exact ⟨_, rfl, intsA_nil _ _, Below.refl _ _, fun _ => rfl⟩
  | true =>
    rw [ht] at hL
    cases hd : decide ((1 : Int) ≤ n ∧ n ≤ 1000) with
    | false =>
      have hB : ebB xs n 1000 = false := by unfold ebB; rw [ht, hd]; rfl
      rw [ebO_bad hB]
      obtain ⟨a, cap, rfl, _, _⟩ := argL_slice ha
      have HL := Lib.hid hL; have HD := Lib.hid hd; clear hL ha ht hd hB
      go_enter Try.func41, Try.ntmps41
      go_wp2_with fail
      refine HL.out.mono ?_
      rintro e w1 ⟨rfl, rfl⟩
      go_wp2_with fail
      refine (l1In_is false _ _ _ _ HD.out).mono ?_
      rintro e w1 ⟨rfl, rfl⟩
      go_wp2_with fail
      go_ret2
      exact ⟨_, rfl, intsA_nil _ _, Below.refl _ _, fun _ => rfl⟩
    | true =>
      have hB : ebB xs n 1000 = true := by unfold ebB; rw [ht, hd]; rfl
      have hn := of_decide_eq_true hd
      rw [ebO_ok hB]
      obtain ⟨K, rfl⟩ := Int.eq_ofNat_of_zero_le (show 0 ≤ n by omega)
      rw [Int.toNat_natCast]
      have hK9 : K ≤ 5000 := by omega
      have hK1 : 1 ≤ K := by omega
      have hE := plEck_arg w v xs K ha ht (by omega)
      obtain ⟨a, cap, rfl, _, _⟩ := argL_slice ha
      have HL := Lib.hid hL; have HD := Lib.hid hd; have HE := Lib.hid hE
      clear hL ha ht hd hn hE hB
      go_enter Try.func41, Try.ntmps41
      go_wp2_with fail
      refine HL.out.mono ?_
      rintro e w1 ⟨rfl, rfl⟩
      go_wp2_with fail
      refine (l1In_is true _ _ _ _ HD.out).mono ?_
      rintro e w1 ⟨rfl, rfl⟩
      go_wp2_with fail
      refine HE.out.mono ?_
      rintro e w2 ⟨u, rfl, hu, hb⟩
      go_wp2_with fail
      go_ret2
      exact ⟨_, rfl, intsA_of hu, hb, fun h => by cases h⟩

set_option maxHeartbeats 2000000 in
theorem specEckNumber_arg (w : World) (v : Value) (xs : List Int) (n : Int) (ha : ArgL w v xs) :
    Calls Try.prog 44 #[v, .int .i64 n] w fun e w' => e = .returned (.tuple #[.int .i64 (enV xs n), .bool (ebB xs n 5000)]) ∧ Below w.heap.size w w' := by
  have hL := plGood_arg w v xs ha
  cases ht : plL xs with
  | false =>
    rw [ht] at hL
    have hB : ebB xs n 5000 = false := by unfold ebB; rw [ht]; rfl
    rw [show enV xs n = 0 by unfold enV; rw [hB]; rfl, hB]
    obtain ⟨a, cap, rfl, _, _⟩ := argL_slice ha
    have HL := Lib.hid hL; clear hL ha ht hB
    go_enter Try.func44, Try.ntmps44
    go_wp2_with fail
    refine HL.out.mono ?_
    rintro e w1 ⟨rfl, rfl⟩
    go_wp2_with fail
    go_ret2
    exact ⟨rfl, Below.refl _ _⟩
  | true =>
    rw [ht] at hL
    cases hd : decide ((1 : Int) ≤ n ∧ n ≤ 5000) with
    | false =>
      have hB : ebB xs n 5000 = false := by unfold ebB; rw [ht, hd]; rfl
      rw [show enV xs n = 0 by unfold enV; rw [hB]; rfl, hB]
      obtain ⟨a, cap, rfl, _, _⟩ := argL_slice ha
      have HL := Lib.hid hL; have HD := Lib.hid hd; clear hL ha ht hd hB
      go_enter Try.func44, Try.ntmps44
      go_wp2_with fail
      refine HL.out.mono ?_
      rintro e w1 ⟨rfl, rfl⟩
      go_wp2_with fail
      refine (l1In_is false _ _ _ _ HD.out).mono ?_
      rintro e w1 ⟨rfl, rfl⟩
      go_wp2_with fail
      go_ret2
      exact ⟨rfl, Below.refl _ _⟩
    | true =>
      have hB : ebB xs n 5000 = true := by unfold ebB; rw [ht, hd]; rfl
      have hn := of_decide_eq_true hd
      rw [show enV xs n = eckS xs (n.toNat - 1) by unfold enV; rw [hB]; rfl, hB]
      obtain ⟨K, rfl⟩ := Int.eq_ofNat_of_zero_le (show 0 ≤ n by omega)
      rw [Int.toNat_natCast]
      have hK9 : K ≤ 5000 := by omega
      have hK1 : 1 ≤ K := by omega
      have hE := plEck_arg w v xs K ha ht (by omega)
      obtain ⟨a, cap, rfl, _, _⟩ := argL_slice ha
      have HL := Lib.hid hL; have HD := Lib.hid hd; have HE := Lib.hid hE
      clear hL ha ht hd hn hE hB
      go_enter Try.func44, Try.ntmps44
      go_wp2_with fail
      refine HL.out.mono ?_
      rintro e w1 ⟨rfl, rfl⟩
      go_wp2_with fail
      refine (l1In_is true _ _ _ _ HD.out).mono ?_
      rintro e w1 ⟨rfl, rfl⟩
      go_wp2_with fail
      refine HE.out.mono ?_
      rintro e w2 ⟨u, rfl, hu, hb⟩
      rcases ints_open hu with ⟨_, h0⟩ | ⟨g, c, rfl, h1, h2, h3, h4, h5, _⟩
      · have := congrArg List.length h0; rw [upL_len] at this; simp at this; omega
      · obtain ⟨m, rfl⟩ : ∃ m, K = m + 1 := ⟨K - 1, by omega⟩
        have hc := h5 m (by rw [upL_len]; omega)
        rw [upL_at (by omega)] at hc
        rw [upL_len] at h3 ⊢
        have HB := Lib.hid hb
        have e1 : ((m + 1 : Nat) : Int) - 1 = (m : Int) := by omega
        have e2 : (m : Int) + 1 - 1 = (m : Int) := by omega
        clear hu h5 hb
        go_wp2_with fail
        go_ret2
        exact ⟨rfl, HB.out⟩

set_option maxHeartbeats 2000000 in
theorem specEckZeros_arg (w : World) (v : Value) (xs : List Int) (n : Int) (ha : ArgL w v xs) :
    Calls Try.prog 46 #[v, .int .i64 n] w fun e w' => e = .returned (.tuple #[.int .i64 (ezV xs n), .bool (ebB xs n 5000)]) ∧ Below w.heap.size w w' := by
  have hL := plGood_arg w v xs ha
  cases ht : plL xs with
  | false =>
    rw [ht] at hL
    have hB : ebB xs n 5000 = false := by unfold ebB; rw [ht]; rfl
    rw [show ezV xs n = 0 by unfold ezV; rw [hB]; rfl, hB]
    obtain ⟨a, cap, rfl, _, _⟩ := argL_slice ha
    have HL := Lib.hid hL; clear hL ha ht hB
    go_enter Try.func46, Try.ntmps46
    go_wp2_with fail
    refine HL.out.mono ?_
    rintro e w1 ⟨rfl, rfl⟩
    go_wp2_with fail
    go_ret2
    exact ⟨rfl, Below.refl _ _⟩
  | true =>
    rw [ht] at hL
    cases hd : decide ((1 : Int) ≤ n ∧ n ≤ 5000) with
    | false =>
      have hB : ebB xs n 5000 = false := by unfold ebB; rw [ht, hd]; rfl
      rw [show ezV xs n = 0 by unfold ezV; rw [hB]; rfl, hB]
      obtain ⟨a, cap, rfl, _, _⟩ := argL_slice ha
      have HL := Lib.hid hL; have HD := Lib.hid hd; clear hL ha ht hd hB
      go_enter Try.func46, Try.ntmps46
      go_wp2_with fail
      refine HL.out.mono ?_
      rintro e w1 ⟨rfl, rfl⟩
      go_wp2_with fail
      refine (l1In_is false _ _ _ _ HD.out).mono ?_
      rintro e w1 ⟨rfl, rfl⟩
      go_wp2_with fail
      go_ret2
      exact ⟨rfl, Below.refl _ _⟩
    | true =>
      have hB : ebB xs n 5000 = true := by unfold ebB; rw [ht, hd]; rfl
      have hn := of_decide_eq_true hd
      rw [show ezV xs n = ((pls (eckS xs) 0 n.toNat).length : Int) by unfold ezV; rw [hB]; rfl, hB]
      obtain ⟨K, rfl⟩ := Int.eq_ofNat_of_zero_le (show 0 ≤ n by omega)
      rw [Int.toNat_natCast]
      have hK9 : K ≤ 5000 := by omega
      have hK1 : 1 ≤ K := by omega
      have hE := plEck_arg w v xs K ha ht (by omega)
      obtain ⟨a, cap, rfl, _, _⟩ := argL_slice ha
      have HL := Lib.hid hL; have HD := Lib.hid hd; have HE := Lib.hid hE
      clear hL ha ht hd hn hE hB
      go_enter Try.func46, Try.ntmps46
      go_wp2_with fail
      refine HL.out.mono ?_
      rintro e w1 ⟨rfl, rfl⟩
      go_wp2_with fail
      refine (l1In_is true _ _ _ _ HD.out).mono ?_
      rintro e w1 ⟨rfl, rfl⟩
      go_wp2_with fail
      refine HE.out.mono ?_
      rintro e w2 ⟨u, rfl, hu, hb⟩
      rcases ints_open hu with ⟨_, h0⟩ | ⟨g, c, rfl, h1, h2, h3, h4, h5, _⟩
      · have := congrArg List.length h0; rw [upL_len] at this; simp at this; omega
      · have hc : ∀ i, i < K → w2.cell? ⟨g, i, none⟩ = some (.int .i64 (eckS xs i)) := fun i hi => by
          rw [h5 i (by rw [upL_len]; exact hi), upL_at hi]
        rw [upL_len] at h3 ⊢
        have HB := Lib.hid hb; have HC := Lib.hid hc
        clear hu h5 hb hc
        go_wp2_with fail
        go_loop [6, 21] (fun cv iv => ∃ k q : Nat, k ≤ K ∧ iv = .int .i64 k ∧ cv = .int .i64 q ∧ q ≤ k ∧ Hid (q = (pls (eckS xs) 0 k).length)) (fun _ iv => K - (intOf iv).toNat)
        case atStart => exact ⟨0, 0, Nat.zero_le _, rfl, rfl, Nat.le_refl _, rfl⟩
        case round =>
          obtain ⟨k, q, hk, rfl, rfl, hqk, HX⟩ := hrel
          by_cases hlt : k < K
          · have h2' := HC.out k hlt
            have hstep : (pls (eckS xs) 0 (k + 1)).length = q + if eckS xs k = 0 then 1 else 0 := by
              rw [HX.out]
              show (pls (eckS xs) 0 k ++ _).length = _
              rw [List.length_append]; split <;> rfl
            obtain ⟨x, hx⟩ : ∃ x, x = eckS xs k := ⟨_, rfl⟩
            rw [← hx] at h2' hstep
            clear hx
            by_cases he : x = 0
            · rw [if_pos he] at hstep
              have hbe : (x == 0) = true := by simpa using he
              have HS := Lib.hid hstep
              clear he hstep
              go_wp2_with fail
              go_round
              case rel => exact ⟨k + 1, q + 1, by omega, by go_num, by go_num, by omega, Lib.hid HS.out.symm⟩
              case measure => simp [intOf] <;> omega
            · rw [if_neg he, Nat.add_zero] at hstep
              have hbe : (x == 0) = false := by simpa using he
              have HS := Lib.hid hstep
              clear he hstep
              go_wp2_with fail
              go_round
              case rel => exact ⟨k + 1, q, by omega, by go_num, rfl, by omega, Lib.hid HS.out.symm⟩
              case measure => simp [intOf] <;> omega
          · obtain rfl : k = K := by omega
            go_wp2_with fail
            go_ret2
            exact ⟨by rw [← HX.out]; rfl, HB.out⟩

set_option maxHeartbeats 2000000 in
theorem implEckList_arg (w : World) (v : Value) (xs : List Int) (n : Int) (ha : ArgL w v xs) :
    Calls Try.prog 40 #[v, .int .i64 n] w fun e w' => IntsAOk (ebO xs n 1000) w w' e := by
  have hE := eckBeginning_arg w v xs n 1000 ha (by omega)
  obtain ⟨O, hO⟩ : ∃ O, O = ebO xs n 1000 := ⟨_, rfl⟩
  rw [← hO] at hE ⊢
  obtain ⟨ys, hys⟩ : ∃ ys, ys = O.getD [] := ⟨_, rfl⟩
  obtain ⟨y, hy⟩ : ∃ y, y = O.isSome := ⟨_, rfl⟩
  unfold IntsAOk at hE ⊢
  rw [← hys, ← hy] at hE ⊢
  obtain ⟨a, cap, rfl, _, _⟩ := argL_slice ha
  have HE := Lib.hid hE
  clear hE ha hO hys hy
  go_enter Try.func40, Try.ntmps40
  go_wp2_with fail
  refine HE.out.mono ?_
  rintro e w2 ⟨u, rfl, hu, hb, hz⟩
  have HU := Lib.hid hu; have HB := Lib.hid hb; have HZ := Lib.hid hz; clear hu hb hz
  go_wp2_with fail
  go_ret2
  exact ⟨_, rfl, HU.out, HB.out, HZ.out⟩

set_option maxHeartbeats 2000000 in
theorem implEckNumber_arg (w : World) (v : Value) (xs : List Int) (n : Int) (ha : ArgL w v xs) :
    Calls Try.prog 43 #[v, .int .i64 n] w fun e w' => e = .returned (.tuple #[.int .i64 (enV xs n), .bool (ebB xs n 5000)]) ∧ Below w.heap.size w w' := by
  have hE := eckBeginning_arg w v xs n 5000 ha (by omega)
  cases hB : ebB xs n 5000 with
  | false =>
    rw [ebO_bad hB] at hE
    rw [show enV xs n = 0 by unfold enV; rw [hB]; rfl]
    obtain ⟨a, cap, rfl, _, _⟩ := argL_slice ha
    have HE := Lib.hid hE
    clear hE ha hB
    go_enter Try.func43, Try.ntmps43
    go_wp2_with fail
    refine HE.out.mono ?_
    rintro e w2 ⟨u, rfl, hu, hb, hz⟩
    have HB := Lib.hid hb; clear hu hb hz
    go_wp2_with fail
    go_ret2
    exact ⟨rfl, HB.out⟩
  | true =>
    rw [ebO_ok hB] at hE
    rw [show enV xs n = eckS xs (n.toNat - 1) by unfold enV; rw [hB]; rfl]
    unfold ebB at hB
    rw [Bool.and_eq_true, decide_eq_true_eq] at hB
    have hn := hB.2
    obtain ⟨m, rfl⟩ : ∃ m : Nat, n = (m : Int) + 1 := ⟨(n - 1).toNat, by omega⟩
    rw [show ((m : Int) + 1).toNat = m + 1 by omega] at hE
    rw [show ((m : Int) + 1).toNat - 1 = m by omega]
    have hm9 : m ≤ 5000 := by omega
    obtain ⟨a, cap, rfl, _, _⟩ := argL_slice ha
    have HE := Lib.hid hE
    clear hE ha hB hn
    go_enter Try.func43, Try.ntmps43
    go_wp2_with fail
    refine HE.out.mono ?_
    rintro e w2 ⟨u, rfl, hu, hb, hz⟩
    simp only [Option.getD_some] at hu
    rcases intsA_open hu with ⟨_, h0⟩ | ⟨g, c, E, rest, rfl, h1, h2, _, h3, h4, _, h5⟩
    · have := congrArg List.length h0; rw [upL_len] at this; simp at this
    · have hc := h5 m (by rw [upL_len]; omega)
      rw [upL_at (by omega)] at hc
      rw [upL_len] at h3 ⊢
      have HB := Lib.hid hb
      have e2 : (m : Int) + 1 - 1 = (m : Int) := by omega
      clear hu h5 hb hz
      go_wp2_with fail
      go_ret2
      exact ⟨rfl, HB.out⟩

set_option maxHeartbeats 2000000 in
theorem implEckZeros_arg (w : World) (v : Value) (xs : List Int) (n : Int) (ha : ArgL w v xs) :
    Calls Try.prog 45 #[v, .int .i64 n] w fun e w' => e = .returned (.tuple #[.int .i64 (ezV xs n), .bool (ebB xs n 5000)]) ∧ Below w.heap.size w w' := by
  have hE := eckBeginning_arg w v xs n 5000 ha (by omega)
  obtain ⟨ys, hys⟩ : ∃ ys, ys = (ebO xs n 5000).getD [] := ⟨_, rfl⟩
  have hlen : ys.length ≤ 5000 := by rw [hys]; exact ebO_len xs n 5000 (by omega)
  have hv : ezV xs n = ((pls (sq ys) 0 ys.length).length : Int) := by
    unfold ezV
    cases hB : ebB xs n 5000 with
    | false => rw [hys, ebO_bad hB]; rfl
    | true =>
      rw [hys, ebO_ok hB, if_pos rfl]
      simp only [Option.getD_some, upL_len]
      rw [plsZ_congr (s := sq (upL (eckS xs) n.toNat)) (t := eckS xs) 0 n.toNat (fun i hi => sq_upL hi)]
  have hs := ebO_some xs n 5000
  unfold IntsAOk at hE
  rw [← hys, hs] at hE
  rw [hv]
  obtain ⟨y, hy⟩ : ∃ y, y = ebB xs n 5000 := ⟨_, rfl⟩
  rw [← hy] at hE ⊢
  obtain ⟨a, cap, rfl, _, _⟩ := argL_slice ha
  have HE := Lib.hid hE
  clear hE ha hv hs hys hy
  go_enter Try.func45, Try.ntmps45
  go_wp2_with fail
  refine HE.out.mono ?_
  rintro e w2 ⟨u, rfl, hu, hb, hz⟩
  have hP := placesOf_any w2 u ys 0 (argL_of_intsA hu) (by omega)
  obtain ⟨a2, cap2, rfl, _, _⟩ := intsA_slice hu
  have HP := Lib.hid hP; have HB := Lib.hid hb; clear hu hb hz hP
  go_wp2_with fail
  refine HP.out.mono ?_
  rintro e w3 ⟨u, rfl, hu, hb⟩
  obtain ⟨a3, cap3, rfl, _, _⟩ := intsA_slice (intsA_of hu)
  have HB3 := Lib.hid hb; clear hu hb
  go_wp2_with fail
  go_ret2
  exact ⟨rfl, below_trans HB.out HB3.out⟩

set_option maxHeartbeats 2000000 in
theorem specEckFirst_arg (w : World) (v : Value) (xs : List Int) (n : Int) (ha : ArgL w v xs) :
    Calls Try.prog 49 #[v, .int .i64 n] w fun e w' => e = .returned (.tuple #[.int .i64 (efV (efO xs n)), .bool (efO xs n).isSome]) ∧ Below w.heap.size w w' := by
  have hL := plGood_arg w v xs ha
  cases ht : plL xs with
  | false =>
    rw [ht] at hL
    rw [show efO xs n = none by unfold efO; rw [ht]; rfl]
    obtain ⟨a, cap, rfl, _, _⟩ := argL_slice ha
    have HL := Lib.hid hL; clear hL ha ht
    go_enter Try.func49, Try.ntmps49
    go_wp2_with fail
    refine HL.out.mono ?_
    rintro e w1 ⟨rfl, rfl⟩
    go_wp2_with fail
    go_ret2
    exact ⟨rfl, Below.refl _ _⟩
  | true =>
    rw [ht] at hL
    by_cases hn : n < 0
    · rw [show efO xs n = none by unfold efO; rw [ht, decide_eq_false (by omega)]; rfl]
      obtain ⟨a, cap, rfl, _, _⟩ := argL_slice ha
      have HL := Lib.hid hL; clear hL ha ht
      go_enter Try.func49, Try.ntmps49
      go_wp2_with fail
      refine HL.out.mono ?_
      rintro e w1 ⟨rfl, rfl⟩
      go_wp2_with fail
      go_ret2
      exact ⟨rfl, Below.refl _ _⟩
    · rw [efO_ok ht hn]
      have hE := plEck_arg w v xs 5000 ha ht (by omega)
      have e5 : ((5000 : Nat) : Int) = 5000 := by simp
      rw [e5] at hE
      clear e5
      obtain ⟨O, hO⟩ : ∃ O, O = fstE (eckS xs) n 0 5000 := ⟨_, rfl⟩
      rw [← hO]
      obtain ⟨L, hL2⟩ : ∃ L, L = upL (eckS xs) 5000 := ⟨_, rfl⟩
      rw [← hL2] at hE
      have hat : ∀ i (h : i < L.length), L[i] = eckS xs i := fun i h => upL_get hL2 i h
      have hlen : L.length = 5000 := by rw [hL2, upL_len]
      rw [← hlen] at hO
      obtain ⟨a, cap, rfl, _, _⟩ := argL_slice ha
      have HL := Lib.hid hL; have HE := Lib.hid hE; have HO := Lib.hid hO; have HAT := Lib.hid hat; have HLEN := Lib.hid hlen
      clear hL ha ht hE hO hL2 hat hlen
      go_enter Try.func49, Try.ntmps49
      go_wp2_with fail
      refine HL.out.mono ?_
      rintro e w1 ⟨rfl, rfl⟩
      go_wp2_with fail
      refine HE.out.mono ?_
      rintro e w2 ⟨u, rfl, hu, hb⟩
      obtain ⟨K, hK⟩ : ∃ K, K = L.length := ⟨_, rfl⟩
      rcases ints_open hu with ⟨_, h0⟩ | ⟨g, c, rfl, h1, h2, h3, h4, h5, _⟩
      · have := congrArg List.length h0; rw [HLEN.out] at this; simp at this
      · have hc : ∀ i, i < K → w2.cell? ⟨g, i, none⟩ = some (.int .i64 (eckS xs i)) := fun i hi => by
          rw [h5 i (by rw [← hK]; exact hi), HAT.out]
        have HB := Lib.hid hb; have HC := Lib.hid hc; have HO2 : Hid (O = fstE (eckS xs) n 0 K) := Lib.hid (by rw [hK]; exact HO.out)
        rw [← hK] at h3 ⊢
        clear hu h5 hb hc hK
        go_wp2_with fail
        go_loop [18] (fun iv => ∃ k : Nat, k ≤ K ∧ iv = .int .i64 k ∧ Hid (O = fstE (eckS xs) n k (K - k))) (fun iv => K - (intOf iv).toNat)
        case atStart => exact ⟨0, Nat.zero_le _, rfl, HO2⟩
        case round =>
          obtain ⟨k, hk, rfl, HX⟩ := hrel
          by_cases hlt : k < K
          · have h2' := HC.out k hlt
            have hstep : O = if eckS xs k = n then some k else fstE (eckS xs) n (k + 1) (K - (k + 1)) := by
              rw [HX.out, show K - k = (K - (k + 1)) + 1 by omega]; rfl
            obtain ⟨x, hx⟩ : ∃ x, x = eckS xs k := ⟨_, rfl⟩
            rw [← hx] at h2' hstep
            clear hx
            by_cases he : x = n
            · rw [if_pos he] at hstep
              have hbe : (x == n) = true := by simpa using he
              have HS := Lib.hid hstep
              clear he hstep
              go_wp2_with fail
              go_ret2
              exact ⟨by rw [HS.out]; rfl, HB.out⟩
            · rw [if_neg he] at hstep
              have hbe : (x == n) = false := by simpa using he
              have HS := Lib.hid hstep
              clear he hstep
              go_wp2_with fail
              go_round
              case rel => exact ⟨k + 1, by omega, by go_num, HS⟩
              case measure => simp [intOf] <;> omega
          · obtain rfl : k = K := by omega
            have hstep : O = none := by rw [HX.out, Nat.sub_self]; rfl
            have HS := Lib.hid hstep
            clear hstep
            go_wp2_with fail
            go_ret2
            exact ⟨by rw [HS.out]; rfl, HB.out⟩

set_option maxHeartbeats 4000000 in
theorem implEckFirst_arg (w : World) (v : Value) (xs : List Int) (n : Int) (ha : ArgL w v xs) :
    Calls Try.prog 48 #[v, .int .i64 n] w fun e w' => e = .returned (.tuple #[.int .i64 (efV (efO xs n)), .bool (efO xs n).isSome]) ∧ Below w.heap.size w w' := by
  have hL := isPlaceList_arg w v xs ha
  cases ht : plL xs with
  | false =>
    rw [ht] at hL
    rw [show efO xs n = none by unfold efO; rw [ht]; rfl]
    obtain ⟨a, cap, rfl, _, _⟩ := argL_slice ha
    have HL := Lib.hid hL; clear hL ha ht
    go_enter Try.func48, Try.ntmps48
    go_wp2_with fail
    refine wp_scope_again 0 (fun _ _ => False) (fun _ _ => 0) rfl (fun _ _ h => h.elim) (fun _ => ?_)
    go_wp2_with fail
    refine HL.out.mono ?_
    rintro e w1 ⟨rfl, rfl⟩
    go_wp2_with fail
    simp only [Exit.jump]
    go_ret2
    exact ⟨rfl, Below.refl _ _⟩
  | true =>
    rw [ht] at hL
    by_cases hn : n < 0
    · rw [show efO xs n = none by unfold efO; rw [ht, decide_eq_false (by omega)]; rfl]
      obtain ⟨a, cap, rfl, _, _⟩ := argL_slice ha
      have HL := Lib.hid hL; clear hL ha ht
      go_enter Try.func48, Try.ntmps48
      go_wp2_with fail
      refine wp_scope_again 0 (fun _ _ => False) (fun _ _ => 0) rfl (fun _ _ h => h.elim) (fun _ => ?_)
      go_wp2_with fail
      refine HL.out.mono ?_
      rintro e w1 ⟨rfl, rfl⟩
      go_wp2_with fail
      simp only [Exit.jump]
      go_ret2
      exact ⟨rfl, Below.refl _ _⟩
    · rw [efO_ok ht hn]
      obtain ⟨O, hO⟩ : ∃ O, O = fstE (eckS xs) n 0 5000 := ⟨_, rfl⟩
      rw [← hO]
      have harg := fun (W : World) (hb : Below w.heap.size w W) => argL_below ha hb
      obtain ⟨a, cap, hv, _, _⟩ := argL_slice ha
      obtain ⟨N, hN⟩ : ∃ N, N = xs.length := ⟨_, rfl⟩
      rw [← hN] at hv
      subst hv
      have HL := Lib.hid hL; have HO := Lib.hid hO; have HP := Lib.hid ht; have HA := Lib.hid harg
      clear hL ha ht hO harg hN
      go_enter Try.func48, Try.ntmps48
      go_wp2_with fail
      refine wp_scope_again 0 (LabelE w a N cap xs n O) labelE rfl ?_ ?_
      · rintro a' wr ⟨k, u2, u3, u4, u5, u8, u9, u10, u11, u12, u13, u14, u15, u16, u17, u18, u19, u20, u21, u22, u23, u24, u25, hk, rfl, HX⟩
        by_cases hlt : k < 5000
        · have hcall := eck1_any wr w.heap.size k xs _ HX.out.1 (HA.out wr HX.out.2.1) HP.out (by omega)
          have hstep : O = if eckS xs k = n then some k else fstE (eckS xs) n (k + 1) (5000 - (k + 1)) := by
            rw [HX.out.2.2, show 5000 - k = (5000 - (k + 1)) + 1 by omega]; rfl
          obtain ⟨x, hx⟩ : ∃ x, x = eckS xs k := ⟨_, rfl⟩
          rw [← hx] at hcall hstep
          have HCALL := Lib.hid hcall
          have hk5 : ((k : Int) == 5000) = false := by simp; omega
          clear hx hcall
          unfold eckV
          by_cases he : x = n
          · rw [if_pos he] at hstep
            have hbe : (x != n) = false := by simpa using he
            have HS := Lib.hid hstep
            clear he hstep
            go_wp2_with fail
            refine HCALL.out.mono ?_
            rintro e w3 ⟨rfl, hl3, hb3⟩
            have HB3 := Lib.hid (HX.out.2.1.trans hb3); clear hl3 hb3
            go_wp2_with fail
            simp only [Exit.jump]
            go_ret2
            exact ⟨by rw [HS.out]; rfl, HB3.out⟩
          · rw [if_neg he] at hstep
            have hbe : (x != n) = true := by simpa using he
            have HS := Lib.hid hstep
            clear he hstep
            go_wp2_with fail
            refine HCALL.out.mono ?_
            rintro e w3 ⟨rfl, hl3, hb3⟩
            have HL3 := Lib.hid hl3; have HB3 := Lib.hid (HX.out.2.1.trans hb3); clear hl3 hb3
            go_wp2_with fail
            go_step3
            refine ⟨rfl, ⟨k + 1, _, _, _, _, _, _, _, _, _, _, _, _, _, _, _, _, _, _, _, _, _, _, by omega, rfl, Lib.hid ⟨HL3.out, HB3.out, HS.out⟩⟩, ?_⟩
            simp [labelE, intOf]; omega
        · obtain rfl : k = 5000 := by omega
          have hstep : O = none := by rw [HX.out.2.2, Nat.sub_self]; rfl
          have HS := Lib.hid hstep
          clear hstep
          go_wp2_with fail
          simp only [Exit.jump]
          go_ret2
          exact ⟨by rw [HS.out]; rfl, HX.out.2.1⟩
      · intro hp
        go_wp2_with fail
        refine HL.out.mono ?_
        rintro e w1 ⟨rfl, rfl⟩
        go_wp2_with fail
        refine (eckFrom_any w a N cap xs).mono ?_
        rintro e w2 ⟨rfl, hl, hb⟩
        have HL2 := Lib.hid hl; have HB2 := Lib.hid hb
        clear hl hb
        go_wp2_with fail
        refine wp_label ?_
        rename_i K1 hk
        exact hk _ _ (hp _ _ ⟨0, _, _, _, _, _, _, _, _, _, _, _, _, _, _, _, _, _, _, _, _, _, _, by omega, rfl, Lib.hid ⟨HL2.out, HB2.out, HO.out⟩⟩)

end Go.Proofs.Ytpglkgpaaflikaa
