/- Chapter 6, at rows of numbers that lie anywhere: the bounds and the distances back (by tools/genwide.py). -/
import Derived.Test.YtpglkgpaaflikaaY3
namespace Go.Proofs.Ytpglkgpaaflikaa
open Go.RowKit Go.BigFrame Go.Maps
set_option linter.unusedSimpArgs false
set_option linter.unusedVariables false
set_option maxRecDepth 4000

theorem argL_at {w : World} {v : Value} {xs : List Int} (h : ArgL w v xs) (h1 : 1 ≤ xs.length) :
    ∃ g o cap, v = .slice (some ⟨g, o, none⟩) xs.length cap ∧ xs.length ≤ cap ∧ cap ≤ 9223372036854775807 ∧ g < w.heap.size ∧ (∀ i (hi : i < xs.length), w.cell? ⟨g, o + i, none⟩ = some (.int .i64 xs[i])) := by
  obtain ⟨A, C, h2, h3, h4, h5⟩ := h
  obtain ⟨b, o, e1, e2, e3⟩ := h5 0 (by omega)
  subst e1
  refine ⟨b, o, C, h2, h3, h4, e2, fun i hi => ?_⟩
  obtain ⟨b', o', f1, f2, f3⟩ := h5 i hi
  cases f1
  exact f3
theorem argL_slice {w : World} {v : Value} {xs : List Int} (h : ArgL w v xs) : ∃ a cap, v = .slice a xs.length cap ∧ cap ≤ 9223372036854775807 ∧ xs.length ≤ 9223372036854775807 := by
  obtain ⟨A, C, h2, h3, h4, h5⟩ := h
  exact ⟨A, C, h2, h4, by omega⟩

set_option maxHeartbeats 1000000 in
theorem l1All_arg (w : World) (v : Value) (xs : List Int) (lo hi : Int) (ha : ArgL w v xs) (h1 : 1 ≤ xs.length) :
    Calls Try.prog 83 #[v, .int .i64 lo, .int .i64 hi] w fun e w' => e = .returned (.bool (xs.all (inB lo hi))) ∧ w = w' := by
  obtain ⟨g, o, cap, rfl, hc1, hc2, hg, hce⟩ := argL_at ha h1
  have HC := Lib.hid hce
  obtain ⟨N, hN⟩ : ∃ N, N = xs.length := ⟨_, rfl⟩
  have HN := Lib.hid hN
  rw [← hN] at hc1 h1 ⊢
  clear ha hce hN
  go_enter Try.func83, Try.ntmps83
  go_wp2_with fail
  go_loop [11] (fun i => ∃ k : Nat, i = .int .i64 k ∧ k ≤ N ∧ Hid ((xs.take k).all (inB lo hi) = true)) (fun i => N - (intOf i).toNat)
  case atStart => exact ⟨0, rfl, Nat.zero_le _, rfl⟩
  case round =>
    obtain ⟨k, rfl, hk, HX⟩ := hrel
    by_cases hlt : k < N
    · have hk' : k < xs.length := by rw [← HN.out]; exact hlt
      have h2 : w.cell? ⟨g, o + k, none⟩ = some (.int .i64 xs[k]) := HC.out k hk'
      have hs := allI_succ (inB lo hi) xs k hk'
      rw [HX.out, Bool.true_and] at hs
      obtain ⟨x, hx⟩ : ∃ x, x = xs[k] := ⟨_, rfl⟩
      rw [← hx] at h2 hs
      obtain ⟨b, hb⟩ : ∃ b, b = decide (lo ≤ x ∧ x ≤ hi) := ⟨_, rfl⟩
      rw [show inB lo hi x = b from hb.symm] at hs
      have HS := Lib.hid hs; have HB := Lib.hid hb; clear hs hx hb
      go_wp2_with fail
      refine (l1In_is b _ _ _ _ HB.out.symm).mono ?_
      rintro e w2 ⟨rfl, rfl⟩
      cases b with
      | true =>
        go_wp2_with fail
        go_round
        case rel => exact ⟨k + 1, by go_num, by omega, HS.out⟩
        case measure => simp [intOf] <;> omega
      | false =>
        have hf := allI_false (inB lo hi) xs (k + 1) HS.out
        have HF := Lib.hid hf; clear hf
        go_wp2_with fail
        go_ret
        exact ⟨by rw [HF.out]; rfl, rfl⟩
    · obtain rfl : k = N := by omega
      have hf : xs.all (inB lo hi) = true := by have := HX.out; rw [List.take_of_length_le (by rw [← HN.out]; exact Nat.le_refl _)] at this; exact this
      have HF := Lib.hid hf; clear hf
      go_wp2_with fail
      go_ret
      exact ⟨by rw [HF.out]; rfl, rfl⟩

set_option maxHeartbeats 1000000 in
theorem plGood_arg (w : World) (v : Value) (xs : List Int) (ha : ArgL w v xs) :
    Calls Try.prog 55 #[v] w fun e w' => e = .returned (.bool (plL xs)) ∧ w = w' := by
  obtain ⟨a, cap, hv, hcp, hn⟩ := argL_slice ha
  by_cases h1 : 1 ≤ xs.length ∧ xs.length ≤ 60
  · have ht : plL xs = xs.all (inB 0 1000) := by unfold plL; rw [decide_eq_true h1]; rfl
    have hall := l1All_arg w v xs 0 1000 ha h1.1
    rw [← ht] at hall
    have hd : decide ((1 : Int) ≤ (xs.length : Int) ∧ (xs.length : Int) ≤ 60) = true := by simp; omega
    obtain ⟨N, hN⟩ : ∃ N, N = xs.length := ⟨_, rfl⟩
    rw [← hN] at hv hd
    subst hv
    have HALL := Lib.hid hall; have HD := Lib.hid hd; clear hall hd ht ha hN
    go_enter Try.func55, Try.ntmps55
    go_wp2_with fail
    refine (l1In_is true _ _ _ _ HD.out).mono ?_
    rintro e w2 ⟨rfl, rfl⟩
    go_wp2_with fail
    refine HALL.out.mono ?_
    rintro e w2 ⟨rfl, rfl⟩
    go_wp2_with fail
    go_ret
    exact ⟨rfl, rfl⟩
  · have ht : plL xs = false := by unfold plL; rw [decide_eq_false h1]; rfl
    have hd : decide ((1 : Int) ≤ (xs.length : Int) ∧ (xs.length : Int) ≤ 60) = false := by simp; omega
    obtain ⟨N, hN⟩ : ∃ N, N = xs.length := ⟨_, rfl⟩
    rw [← hN] at hv hd
    subst hv
    rw [ht]
    have HD := Lib.hid hd; clear hd ht ha hN
    go_enter Try.func55, Try.ntmps55
    go_wp2_with fail
    refine (l1In_is false _ _ _ _ HD.out).mono ?_
    rintro e w2 ⟨rfl, rfl⟩
    go_wp2_with fail
    go_ret
    exact ⟨rfl, rfl⟩

set_option maxHeartbeats 1000000 in
theorem isPlaceList_arg (w : World) (v : Value) (xs : List Int) (ha : ArgL w v xs) :
    Calls Try.prog 53 #[v] w fun e w' => e = .returned (.bool (plL xs)) ∧ w = w' := by
  by_cases h1 : 1 ≤ xs.length ∧ xs.length ≤ 60
  · have ht : plL xs = xs.all (inB 0 1000) := by unfold plL; rw [decide_eq_true h1]; rfl
    rw [ht]
    have hd : decide ((1 : Int) ≤ (xs.length : Int) ∧ (xs.length : Int) ≤ 60) = true := by simp; omega
    obtain ⟨g, o, cap, rfl, hc1, hc2, hg, hce⟩ := argL_at ha h1.1
    have HC := Lib.hid hce
    obtain ⟨N, hN⟩ : ∃ N, N = xs.length := ⟨_, rfl⟩
    have HN := Lib.hid hN
    rw [← hN] at hc1 h1 hd ⊢
    have HD := Lib.hid hd
    clear ha hce hN ht hd
    go_enter Try.func53, Try.ntmps53
    go_wp2_with fail
    refine (isWithin_is true _ _ _ _ HD.out).mono ?_
    rintro e w2 ⟨rfl, rfl⟩
    go_wp2_with fail
    go_loop [11] (fun i => ∃ k : Nat, i = .int .i64 k ∧ k ≤ N ∧ Hid ((xs.take k).all (inB 0 1000) = true)) (fun i => N - (intOf i).toNat)
    case atStart => exact ⟨0, rfl, Nat.zero_le _, rfl⟩
    case round =>
      obtain ⟨k, rfl, hk, HX⟩ := hrel
      by_cases hlt : k < N
      · have hk' : k < xs.length := by rw [← HN.out]; exact hlt
        have h2 : w.cell? ⟨g, o + k, none⟩ = some (.int .i64 xs[k]) := HC.out k hk'
        have hs := allI_succ (inB 0 1000) xs k hk'
        rw [HX.out, Bool.true_and] at hs
        obtain ⟨x, hx⟩ : ∃ x, x = xs[k] := ⟨_, rfl⟩
        rw [← hx] at h2 hs
        obtain ⟨b, hb⟩ : ∃ b, b = decide ((0 : Int) ≤ x ∧ x ≤ 1000) := ⟨_, rfl⟩
        rw [show inB 0 1000 x = b from hb.symm] at hs
        have HS := Lib.hid hs; have HB := Lib.hid hb; clear hs hx hb
        go_wp2_with fail
        refine (isWithin_is b _ _ _ _ HB.out.symm).mono ?_
        rintro e w2 ⟨rfl, rfl⟩
        cases b with
        | true =>
          go_wp2_with fail
          go_round
          case rel => exact ⟨k + 1, by go_num, by omega, HS.out⟩
          case measure => simp [intOf] <;> omega
        | false =>
          have hf := allI_false (inB 0 1000) xs (k + 1) HS.out
          have HF := Lib.hid hf; clear hf
          go_wp2_with fail
          go_ret
          exact ⟨by rw [HF.out]; rfl, rfl⟩
      · obtain rfl : k = N := by omega
        have hf : xs.all (inB 0 1000) = true := by have := HX.out; rw [List.take_of_length_le (by rw [← HN.out]; exact Nat.le_refl _)] at this; exact this
        have HF := Lib.hid hf; clear hf
        go_wp2_with fail
        go_ret
        exact ⟨by rw [HF.out]; rfl, rfl⟩
  · have ht : plL xs = false := by unfold plL; rw [decide_eq_false h1]; rfl
    obtain ⟨a, cap, hv, hcp, hn⟩ := argL_slice ha
    have hd : decide ((1 : Int) ≤ (xs.length : Int) ∧ (xs.length : Int) ≤ 60) = false := by simp; omega
    obtain ⟨N, hN⟩ : ∃ N, N = xs.length := ⟨_, rfl⟩
    rw [← hN] at hv hd
    subst hv
    rw [ht]
    have HD := Lib.hid hd; clear hd ht ha hN
    go_enter Try.func53, Try.ntmps53
    go_wp2_with fail
    refine (isWithin_is false _ _ _ _ HD.out).mono ?_
    rintro e w2 ⟨rfl, rfl⟩
    go_wp2_with fail
    go_ret
    exact ⟨rfl, rfl⟩

set_option maxHeartbeats 2000000 in
theorem distancesBack_arg (w : World) (v : Value) (xs : List Int) (ha : ArgL w v xs) (hp : plL xs = true) :
    Calls Try.prog 54 #[v] w fun e w' => e = .returned (.slice (some ⟨w.heap.size, 0, none⟩) xs.length xs.length) ∧ Ints w' w.heap.size (.slice (some ⟨w.heap.size, 0, none⟩) xs.length xs.length) (bkL xs) ∧ Below w.heap.size w w' := by
  obtain ⟨i0, hi, hz0, hz1, hz2⟩ := info_parts info_intT
  obtain ⟨h1, h60, hin⟩ := plL_open hp
  obtain ⟨g, o, cap, rfl, hc1, hc2, hg, hce⟩ := argL_at ha h1
  have HC := Lib.hid hce; have HIN := Lib.hid hin
  obtain ⟨N, hN⟩ : ∃ N, N = xs.length := ⟨_, rfl⟩
  have HN := Lib.hid hN
  rw [← hN] at hc1 h1 h60 ⊢
  clear ha hce hN hin hp
  go_enter Try.func54, Try.ntmps54
  go_wp2_with (refine wpList_make_own _ rfl _ _ 22 rfl w.heap.size 3 i0 (.int .i64 0) 1 Try.underlying22 hi hz0 hz1 .i64 .i64 (N : Int) N rfl rfl rfl (by rw [hz2]; omega) (by unfold maxLen; omega) (Nat.le_refl _) ?_; intro w1 hown hgr; have HO := Lib.hid hown; have HB := Lib.hid ((Below.refl w.heap.size w).grown hgr (Nat.le_refl _) (fun k h => by cases h)); clear hown hgr)
  refine (lastPlaces_any w1 (sq xs)).mono ?_
  rintro e w2 ⟨rfl, hl, hb⟩
  have hlt : w.heap.size < w1.heap.size := (HO.out.lt w.heap.size rfl).2
  have HO2 := Lib.hid (own_below HO.out hb); have HL2 := Lib.hid hl; have HB2 := Lib.hid (below_trans HB.out hb)
  clear hl hb
  go_wp2_with fail
  go_loopw [3, 13] (fun ov iv wr => ∃ k : Nat, k ≤ N ∧ ov = .slice (some ⟨w.heap.size, 0, none⟩) k N ∧ iv = .int .i64 k ∧ Hid (Ints wr w.heap.size (.slice (some ⟨w.heap.size, 0, none⟩) k N) (upL (bkS xs) k) ∧ LastAt wr w1.heap.size (w1.heap.size + 2) (w1.heap.size + 1) w1.heap.size k (sq xs) ∧ w1.heap.size ≤ wr.heap.size ∧ Below w.heap.size w wr)) (fun _ iv _ => N - (intOf iv).toNat)
  case atStart => exact ⟨0, Nat.zero_le _, rfl, rfl, HO2.out, HL2.out, by have := HL2.out; obtain ⟨_, _, _, _, _, h, _⟩ := this; omega, HB2.out⟩
  case round =>
    obtain ⟨k, hk, rfl, rfl, HX⟩ := hrel
    by_cases hlt2 : k < N
    · have hk' : k < xs.length := by rw [← HN.out]; exact hlt2
      obtain ⟨x0, x9⟩ := HIN.out k hk'
      have h2 : wr.cell? ⟨g, o + k, none⟩ = some (.int .i64 xs[k]) := (HX.out.2.2.2.cell (p := ⟨g, o + k, none⟩) hg).trans (HC.out k hk')
      have hsx : sq xs k = xs[k] := sq_at hk'
      obtain ⟨x, hx⟩ : ∃ x, x = xs[k] := ⟨_, rfl⟩
      rw [← hx] at h2 x0 x9 hsx
      have HSX := Lib.hid hsx
      clear hx hsx
      go_wp2_with fail
      refine (last1_any wr w1.heap.size _ _ _ k (sq xs) x HX.out.2.1 HSX.out (by omega) (by omega) (by omega) HX.out.2.2.1).mono ?_
      rintro e w3 ⟨rfl, hl3, hb3, hk3⟩
      have hrow3 : Ints w3 w.heap.size (.slice (some ⟨w.heap.size, 0, none⟩) k N) (upL (bkS xs) k) := own_block HX.out.1 (fun j hj => by
        cases hj
        exact hk3 w.heap.size (by omega) (by omega) (HX.out.1.lt w.heap.size rfl).2)
      have HL3 := Lib.hid hl3; have HR3 := Lib.hid hrow3; have HB3 := Lib.hid (HX.out.2.2.2.trans (hb3.mono (Nat.le_of_lt hlt))); have HS3 := Lib.hid (Nat.le_trans HX.out.2.2.1 hb3.size)
      clear hl3 hb3 hk3 hrow3
      go_wp2_with (at_builtin; refine wpI_fits w3 rfl _ _ rfl w ((bk (sq xs) k : Nat) : Int) HR3.out rfl rfl (upL_len _ _) HB3.out (by omega) ?_; intro w4 ho4 hb4 hk4 hs4; have HO4 := Lib.hid ho4; have HB4 := Lib.hid hb4; have HK4 := Lib.hid hk4; have HS4 := Lib.hid hs4; clear ho4 hb4 hk4 hs4)
      go_roundw
      case rel =>
        refine ⟨k + 1, by omega, rfl, by go_num, by rw [upL_succ]; exact HO4.out, HL3.out.keep HS4.out (fun j h1 h2 _ => HK4.out j h2 (by omega)), Nat.le_trans HS3.out HS4.out, HB4.out⟩
      case measure => simp [intOf] <;> omega
    · obtain rfl : k = N := by omega
      go_wp2_with fail
      go_ret
      refine ⟨rfl, ?_, HX.out.2.2.2⟩
      unfold bkL
      rw [← HN.out]
      exact HX.out.1

set_option maxHeartbeats 2000000 in
theorem plBackQ_arg (w : World) (v : Value) (xs : List Int) (i : Nat) (ha : ArgL w v xs) (hi : i < xs.length) (h9 : xs.length ≤ 100000) :
    Calls Try.prog 81 #[v, .int .i64 i] w fun e w' => e = .returned (.int .i64 ((bk (sq xs) i : Nat) : Int)) ∧ ∃ m, w' = w.drewN m := by
  obtain ⟨g, o, cap, rfl, hc1, hc2, hg, hce⟩ := argL_at ha (by omega)
  have HC := Lib.hid hce
  obtain ⟨N, hN⟩ : ∃ N, N = xs.length := ⟨_, rfl⟩
  have HN := Lib.hid hN
  have hsi : sq xs i = xs[i] := sq_at hi
  have hci := hce i hi
  obtain ⟨y, hy⟩ : ∃ y, y = xs[i] := ⟨_, rfl⟩
  rw [← hy] at hsi hci
  have HSI := Lib.hid hsi; have HCI := Lib.hid hci
  rw [← hN] at hc1 h9 hi ⊢
  clear ha hce hN hy hsi hci
  go_enter Try.func81, Try.ntmps81
  go_wp2_with fail
  go_loopw [5] (fun kv wr => ∃ k m : Nat, k ≤ i ∧ kv = .int .i64 ((k : Int) - 1) ∧ wr = w.drewN m ∧ Hid (lst (sq xs) y i = lst (sq xs) y k)) (fun kv _ => (intOf kv + 1).toNat)
  case atStart => exact ⟨i, 0, Nat.le_refl _, rfl, (World.drewN_zero w).symm, Lib.hid rfl⟩
  case round =>
    obtain ⟨k, mm, hk, rfl, rfl, HX⟩ := hrel
    rcases k with _ | k
    · have hfin : (bk (sq xs) i : Nat) = 0 := by unfold bk; rw [HSI.out, if_pos (by rw [HX.out]; rfl)]
      have HF := Lib.hid hfin; clear hfin
      go_wp2_with fail
      go_ret
      exact ⟨ret_int (by rw [HF.out]; rfl), mm, rfl⟩
    · have hk' : k < xs.length := by rw [← HN.out]; omega
      have e1 : (((k + 1 : Nat) : Int) - 1) = (k : Int) := by omega
      rw [e1]
      have h2 : w.cell? ⟨g, o + k, none⟩ = some (.int .i64 xs[k]) := HC.out k hk'
      have h3 : w.cell? ⟨g, o + i, none⟩ = some (.int .i64 y) := HCI.out
      have hsx : sq xs k = xs[k] := sq_at hk'
      obtain ⟨x, hx⟩ : ∃ x, x = xs[k] := ⟨_, rfl⟩
      rw [← hx] at h2 hsx
      clear hx e1
      by_cases he : x = y
      · have hbe : (x == y) = true := by simpa using he
        have hl : lst (sq xs) y i = k + 1 := by rw [HX.out]; unfold lst; rw [if_pos (hsx.trans he)]
        have hfin : (bk (sq xs) i : Nat) = i - k := by unfold bk; rw [HSI.out, hl, if_neg (by omega)]; omega
        have HF := Lib.hid hfin
        clear hsx he hl hfin
        go_wp2_with fail
        go_quiet (fail)
        go_wp2_with fail
        go_ret
        exact ⟨ret_int (by rw [HF.out]; omega), _, rfl⟩
      · have hbe : (x == y) = false := by simpa using he
        have hl : lst (sq xs) y i = lst (sq xs) y k := by rw [HX.out]; show (if sq xs k = y then k + 1 else lst (sq xs) y k) = _; rw [if_neg (fun e => he (hsx.symm.trans e))]
        have HL := Lib.hid hl
        clear hsx he hl
        go_wp2_with fail
        go_quiet (fail)
        go_wp2_with fail
        go_roundw
        case rel => exact ⟨k, _, by omega, by go_num, rfl, HL⟩
        case measure => simp [intOf] <;> omega

theorem plBack_arg (w : World) (v : Value) (xs : List Int) (i : Nat) (ha : ArgL w v xs) (hi : i < xs.length) (h9 : xs.length ≤ 100000) :
    Calls Try.prog 81 #[v, .int .i64 i] w fun e w' => e = .returned (.int .i64 ((bk (sq xs) i : Nat) : Int)) ∧ Below w.heap.size w w' :=
  (plBackQ_arg w v xs i ha hi h9).mono fun e w' ⟨h, m, hm⟩ => ⟨h, hm ▸ belowN _ _ _⟩

set_option maxHeartbeats 2000000 in
theorem plBacks_arg (w : World) (v : Value) (xs : List Int) (ha : ArgL w v xs) (h1 : 1 ≤ xs.length) (h9 : xs.length ≤ 100000) :
    Calls Try.prog 56 #[v] w fun e w' => ∃ u, e = .returned u ∧ Ints w' w.heap.size u (bkL xs) ∧ Below w.heap.size w w' := by
  obtain ⟨a, cap, hv, hcp, hn⟩ := argL_slice ha
  have HA := Lib.hid (fun (i : Nat) (W : World) (hb : Below w.heap.size w W) (hi : i < xs.length) => plBack_arg W v xs i (argL_below ha hb) hi h9)
  obtain ⟨N, hN⟩ : ∃ N, N = xs.length := ⟨_, rfl⟩
  have HN := Lib.hid hN
  rw [← hN] at h1 h9 hv
  subst hv
  clear ha hN
  go_enter Try.func56, Try.ntmps56
  go_wp2_with fail
  go_loopw [3, 7] (fun ov iv wr => ∃ k : Nat, k ≤ N ∧ iv = .int .i64 k ∧ Hid (Ints wr w.heap.size ov (upL (bkS xs) k) ∧ Below w.heap.size w wr)) (fun _ iv _ => N - (intOf iv).toNat)
  case atStart => exact ⟨0, Nat.zero_le _, rfl, World.ownsRow_nil _ _ _ _, Below.refl _ _⟩
  case round =>
    obtain ⟨k, hk, rfl, HX⟩ := hrel
    by_cases hlt : k < N
    · have hcall := HA.out k wr HX.out.2 (by rw [← HN.out]; exact hlt)
      have HCALL := Lib.hid hcall; clear hcall
      go_wp2_with fail
      refine HCALL.out.mono ?_
      rintro e w2 ⟨rfl, hb2⟩
      have HR2 := Lib.hid (own_below HX.out.1 hb2); have HB2 := Lib.hid (below_trans HX.out.2 hb2)
      clear hb2
      go_wp2_with (at_builtin; refine wpI_app w2 rfl _ _ rfl w ((bk (sq xs) k : Nat) : Int) HR2.out rfl rfl HB2.out (by rw [upL_len]; omega) ?_; intro v4 w4 ho4 hb4 hk4 hs4 hw4; have HO4 := Lib.hid ho4; have HB4 := Lib.hid hb4; clear ho4 hb4 hk4 hs4 hw4)
      go_roundw
      case rel => exact ⟨k + 1, by omega, by go_num, by rw [upL_succ]; exact HO4.out, HB4.out⟩
      case measure => simp [intOf] <;> omega
    · obtain rfl : k = N := by omega
      go_wp2_with fail
      go_ret
      refine ⟨_, rfl, ?_, HX.out.2⟩
      unfold bkL
      rw [← HN.out]
      exact HX.out.1

end Go.Proofs.Ytpglkgpaaflikaa
