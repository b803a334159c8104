/- Chapter 9: puzzles are looked at: the program's IsPuzzle, the model's pzGood. -/
import Derived.Test.YtplcdofpikdigaaDoorq1
import Derived.BigQuiet
namespace Go.Proofs.YtplcdofpikdigaaDoor
open Go.RowKit Go.BigFrame
set_option linter.unusedSimpArgs false
set_option linter.unusedVariables false
set_option maxRecDepth 4000

/-- What a sign is worth, as a byte. -/
def dgO (x : Nat) : Int := if 48 ≤ x then (x : Int) - 48 else (x : Int) + 208
theorem digitOf_u (x : Nat) (w : World) (h1 : x ≤ 255) :
    Calls Tryd.prog 40 #[.int .u8 (x : Int)] w fun e w' => e = .returned (.int .i64 (dgO x)) ∧ w = w' := by
  unfold dgO
  by_cases h : 48 ≤ x
  · rw [if_pos h]
    go_enter Tryd.func40, Tryd.ntmps40
    go_wp2
    go_ret
    exact ⟨rfl, rfl⟩
  · rw [if_neg h]
    have e1 : ((x : Int) - 48) % 256 = (x : Int) + 208 := by omega
    go_enter Tryd.func40, Tryd.ntmps40
    go_wp2
    go_ret
    exact ⟨rfl, rfl⟩
theorem dgO_in (x : Nat) (d : Int) (hd : d ≤ 9) (hx : x ≤ 255) : decide ((1 : Int) ≤ dgO x ∧ dgO x ≤ d) = decide ((1 : Int) ≤ (x : Int) - 48 ∧ (x : Int) - 48 ≤ d) := by
  unfold dgO
  split
  · rfl
  · rw [decide_eq_decide]; omega

set_option maxHeartbeats 1000000 in
theorem isSignText_any (s : ByteArray) (d : Int) (w : World) (hs : s.size ≤ maxLen) (hd : d ≤ 9) :
    Calls Tryd.prog 68 #[.string s, .int .i64 d] w fun e w' => e = .returned (.bool (s.data.toList.all (sgB d))) ∧ w = w' := by
  unfold maxLen at hs
  obtain ⟨G, hG⟩ : ∃ G, G = s.data.toList.all (sgB d) := ⟨_, rfl⟩
  rw [← hG]
  have HG := Lib.hid hG; clear hG
  go_enter Tryd.func68, Tryd.ntmps68
  go_wp2_with fail
  go_loop [8] (fun i => ∃ k : Nat, k ≤ s.size ∧ i = .int .i64 k ∧ Hid ((s.data.toList.take k).all (sgB d) = true)) (fun i => s.size - (intOf i).toNat)
  case atStart => exact ⟨0, Nat.zero_le _, rfl, rfl⟩
  case round =>
    obtain ⟨k, hk, rfl, HA⟩ := hrel
    by_cases hlt : k < s.size
    · have hsn := all_take_succ (sgB d) s k hlt
      rw [HA.out, Bool.true_and] at hsn
      have hx : s[k].toNat ≤ 255 := by have := s[k].toNat_lt; omega
      have hsg : sgB d s[k] = (decide (s[k].toNat = 46) || decide ((1 : Int) ≤ dgO s[k].toNat ∧ dgO s[k].toNat ≤ d)) := by unfold sgB; rw [dgO_in _ _ hd hx]
      rw [hsg] at hsn
      have HS := Lib.hid hsn; clear hsn hsg
      by_cases h46 : s[k].toNat = 46
      · have HT : Hid ((s.data.toList.take (k + 1)).all (sgB d) = true) := by
          have h := HS.out; rw [decide_eq_true h46] at h; exact h
        go_wp2_with fail
        go_round
        case rel => exact ⟨k + 1, by omega, by go_num, HT.out⟩
        case measure => simp [intOf] <;> omega
      · have h47 : ((s[k].toNat : Int) != 46) = true := by simp; omega
        obtain ⟨v, hv⟩ : ∃ v, v = decide ((1 : Int) ≤ dgO s[k].toNat ∧ dgO s[k].toNat ≤ d) := ⟨_, rfl⟩
        have HV : Hid ((s.data.toList.take (k + 1)).all (sgB d) = v) := by
          have h := HS.out; rw [decide_eq_false h46, ← hv] at h; exact h
        have HD := Lib.hid (fun (W : World) => digitOf_u s[k].toNat W hx)
        have HI := Lib.hid (fun (W : World) => isWithin_is v (dgO s[k].toNat) 1 d W hv.symm)
        clear hv
        generalize dgO s[k].toNat = y at *
        cases v with
        | true =>
          go_wp2_with fail
          refine (HD.out _).mono ?_
          rintro e w1 ⟨rfl, rfl⟩
          go_wp2_with fail
          refine (HI.out _).mono ?_
          rintro e w1 ⟨rfl, rfl⟩
          go_wp2_with fail
          go_round
          case rel => exact ⟨k + 1, by omega, by go_num, HV.out⟩
          case measure => simp [intOf] <;> omega
        | false =>
          have HF : Hid (G = false) := by rw [HG.out]; exact all_false_of_take (k + 1) HV.out
          go_wp2_with fail
          refine (HD.out _).mono ?_
          rintro e w1 ⟨rfl, rfl⟩
          go_wp2_with fail
          refine (HI.out _).mono ?_
          rintro e w1 ⟨rfl, rfl⟩
          go_wp2_with fail
          go_ret
          exact ⟨ret_bool HF.out.symm, rfl⟩
    · have HT : Hid (G = true) := by
        have h := HA.out
        rw [List.take_of_length_le (by simp; omega)] at h
        rw [HG.out]; exact h
      go_wp2_with fail
      go_ret
      exact ⟨ret_bool HT.out.symm, rfl⟩

set_option maxHeartbeats 4000000 in
theorem implIsPuzzle_any (W S : List UInt8) (D : Int) (w : World) (hW : W.length ≤ maxLen) (hS : S.length ≤ maxLen) :
    Calls Tryd.prog 51 #[pzV W S D] w fun e w' => e = .returned (.bool (pzB W S D)) ∧ Below w.heap.size w w' := by
  obtain ⟨G, hG⟩ : ∃ G, G = pzB W S D := ⟨_, rfl⟩
  rw [← hG]
  unfold pzB pzS at hG
  obtain ⟨n, hn⟩ : ∃ n, n = W.length := ⟨_, rfl⟩
  obtain ⟨m, hm⟩ : ∃ m, m = S.length := ⟨_, rfl⟩
  have HTW := Lib.hid (fun (w : World) (hd : D ≤ 9) => isSignText_any (bs W) D w (by rw [bs_size]; exact hW) hd)
  have HTS := Lib.hid (fun (w : World) => isSignText_any (bs S) 9 w (by rw [bs_size]; exact hS) (by omega))
  rw [bs_list] at HTW HTS
  unfold maxLen at hW hS
  obtain ⟨t, ht⟩ : ∃ t, t = bs W := ⟨_, rfl⟩
  obtain ⟨u, hu⟩ : ∃ u, u = bs S := ⟨_, rfl⟩
  have htn : t.size = n := by rw [ht, bs_size, hn]
  have hum : u.size = m := by rw [hu, bs_size, hm]
  unfold pzV
  rw [← ht] at HTW ⊢; rw [← hu] at HTS ⊢
  rw [← hn] at hW hG; rw [← hm] at hS hG
  generalize W.all (sgB D) = a1 at *
  generalize S.all (sgB 9) = a2 at *
  clear hn hm ht hu
  have HG := Lib.hid hG; clear hG
  by_cases h1 : (1 : Int) ≤ D ∧ D ≤ 4
  · by_cases h2 : 1 ≤ n ∧ n ≤ 8
    · by_cases h4 : 2 ≤ m ∧ m ≤ 2 * n
      · by_cases h3 : m % 2 = 0
        · have htm : (m : Int).tmod 2 = 0 := by rw [Int.tmod_eq_emod_of_nonneg (by omega)]; omega
          have HGG : Hid (G = (a1 && a2)) := by rw [HG.out, decide_eq_true h1, decide_eq_true h2, decide_eq_true h3, decide_eq_true h4]; rfl
          cases a1
          all_goals
            go_enter Tryd.func51, Tryd.ntmps51
            go_wp2_with (first
              | (go_at_call 67; refine (isWithin_is true _ _ _ _ (by simp; omega)).mono ?_; rintro e w' ⟨rfl, rfl⟩)
              | (go_at_call 68; (with_reducible refine (HTW.out _ (by omega)).mono ?_); rintro e w' ⟨rfl, rfl⟩)
              | (go_at_call 68; (with_reducible refine (HTS.out _).mono ?_); rintro e w' ⟨rfl, rfl⟩))
            go_ret
            exact ⟨ret_bool (by rw [HGG.out]; simp), below_alloc _ _⟩
        · have htm : (m : Int).tmod 2 = 1 := by rw [Int.tmod_eq_emod_of_nonneg (by omega)]; omega
          have HGG := Lib.hid (show G = false by rw [HG.out, decide_eq_false h3]; simp)
          go_enter Tryd.func51, Tryd.ntmps51
          go_wp2_with (go_at_call 67; refine (isWithin_is true _ _ _ _ (by simp; omega)).mono ?_; rintro e w' ⟨rfl, rfl⟩)
          go_ret
          exact ⟨ret_bool (by rw [HGG.out]; try simp), below_alloc _ _⟩
      · have HGG := Lib.hid (show G = false by rw [HG.out, decide_eq_false h4]; simp)
        go_enter Tryd.func51, Tryd.ntmps51
        go_wp2_with (go_at_call 67; (first | (refine (isWithin_is true _ _ _ _ (by simp; omega)).mono ?_) | (refine (isWithin_is false _ _ _ _ (by simp; omega)).mono ?_)); rintro e w' ⟨rfl, rfl⟩)
        go_ret
        exact ⟨ret_bool (by rw [HGG.out]; try simp), below_alloc _ _⟩
    · have HGG := Lib.hid (show G = false by rw [HG.out, decide_eq_false h2]; simp)
      go_enter Tryd.func51, Tryd.ntmps51
      go_wp2_with (go_at_call 67; (first | (refine (isWithin_is true _ _ _ _ (by simp; omega)).mono ?_) | (refine (isWithin_is false _ _ _ _ (by simp; omega)).mono ?_)); rintro e w' ⟨rfl, rfl⟩)
      go_ret
      exact ⟨ret_bool (by rw [HGG.out]; try simp), below_alloc _ _⟩
  · have HGG := Lib.hid (show G = false by rw [HG.out, decide_eq_false h1]; simp)
    go_enter Tryd.func51, Tryd.ntmps51
    go_wp2_with (go_at_call 67; refine (isWithin_is false _ _ _ _ (by simp; omega)).mono ?_; rintro e w' ⟨rfl, rfl⟩)
    go_ret
    exact ⟨ret_bool (by rw [HGG.out]; try simp), below_alloc _ _⟩
end Go.Proofs.YtplcdofpikdigaaDoor
