/- The law FnWordsHeard's helpers: equal texts, powers, numbers of words told. -/
import Derived.Test.YtdlhahigiooddaaE3
import Derived.Test.YtdlhahigiooddaaJ6
import Derived.Test.YtdlhahigiooddaaP2
import Derived.Test.YtdlhahigiooddaaW9
import Derived.Test.YtdlhahigiooddaaW12
import Derived.Test.YtdlhahigiooddaaJ3
namespace Go.Proofs.Ytdlhahigiooddaa
open Go.RowKit Go.BigFrame
set_option linter.unusedSimpArgs false
set_option linter.unusedVariables false
set_option maxRecDepth 4000

set_option maxHeartbeats 1000000 in
theorem fTexts_same (w : World) (Ba Bb : Nat) (va vb : Value) (xs : List (List UInt8)) (ha : Strs w Ba va xs) (hb : Strs w Bb vb xs) :
    Calls Try.prog 43 #[va, vb] w fun e w' => e = .returned (.bool true) ∧ Below w.heap.size w w' := by
  rcases strs_open ha with ⟨rfl, rfl⟩ | ⟨g, cap, rfl, _, hg, hn, hcp, hca, _⟩
  · rcases strs_open hb with ⟨rfl, _⟩ | ⟨g, cap, rfl, _⟩
    all_goals
      clear ha hb
      go_enter Try.func43, Try.ntmps43
      go_wp2_with fail
      refine wp_loop_rounds 1 ?_
      rw [rounds_succ]
      go_wp2
      go_ret
      exact ⟨rfl, Below.refl _ _⟩
  · rcases strs_open hb with ⟨rfl, h0⟩ | ⟨g', cap', rfl, _, hg', _, hcp', hcb, _⟩
    · subst h0
      clear ha hb
      go_enter Try.func43, Try.ntmps43
      go_wp2_with fail
      refine wp_loop_rounds 1 ?_
      rw [rounds_succ]
      go_wp2
      go_ret
      exact ⟨rfl, Below.refl _ _⟩
    · have HA := Lib.hid hca; have HB := Lib.hid hcb
      obtain ⟨N, hN⟩ : ∃ N, N = xs.length := ⟨_, rfl⟩
      have HN := Lib.hid hN
      rw [← hN] at hn ⊢
      have hne : ((N : Int) != (N : Int)) = false := by simp
      clear ha hb hca hcb hN
      go_enter Try.func43, Try.ntmps43
      go_wp2_with fail
      go_loopw [13] (fun i wr => ∃ (k : Nat), k ≤ N ∧ i = .int .i64 k ∧ Hid (Below w.heap.size w wr)) (fun i _ => N - (intOf i).toNat)
      case atStart => exact ⟨0, Nat.zero_le _, rfl, below_refl _⟩
      case round =>
        obtain ⟨k, hk, rfl, HW⟩ := hrel
        by_cases hlt : k < N
        · have h1 : wr.cell? ⟨g, k, none⟩ = some (.string (bs (xs[k]'(by rw [← HN.out]; exact hlt)))) := (HW.out.cell (p := ⟨g, k, none⟩) hg).trans (HA.out k (by rw [← HN.out]; exact hlt))
          have h2 : wr.cell? ⟨g', k, none⟩ = some (.string (bs (xs[k]'(by rw [← HN.out]; exact hlt)))) := (HW.out.cell (p := ⟨g', k, none⟩) hg').trans (HB.out k (by rw [← HN.out]; exact hlt))
          generalize bs (xs[k]'(by rw [← HN.out]; exact hlt)) = x at h1 h2
          have hx : (x.toList != x.toList) = false := by simp
          go_wp2_with fail
          go_quiet (fail)
          go_wp2_with fail
          go_roundw
          case rel => exact ⟨k + 1, by omega, by go_num, HW.out.trans (belowN _ _ _)⟩
          case measure => simp [intOf] <;> omega
        · obtain rfl : k = N := by omega
          go_wp2_with fail
          go_ret
          exact ⟨rfl, HW.out⟩

theorem pow_in (a k : Nat) (ha : a ≤ 9) (hk : k ≤ 18) : a ^ k ≤ 150094635296999121 := by
  calc a ^ k ≤ 9 ^ k := Nat.pow_le_pow_left ha _
    _ ≤ 9 ^ 18 := Nat.pow_le_pow_right (by omega) hk
    _ = 150094635296999121 := by decide
set_option maxHeartbeats 1000000 in
theorem fPower_any (w : World) (a k : Nat) (ha : a ≤ 9) (hk : k ≤ 18) :
    Calls Try.prog 53 #[.int .i64 (a : Int), .int .i64 (k : Int)] w fun e w' => e = .returned (.int .i64 ((a ^ k : Nat) : Int)) ∧ w = w' := by
  have HP := Lib.hid (show ∀ j, j ≤ k → a ^ j ≤ 150094635296999121 from fun j hj => pow_in a j ha (by omega))
  obtain ⟨V, hV⟩ : ∃ V, V = a ^ k := ⟨_, rfl⟩
  rw [← hV]
  have HVV := Lib.hid hV
  clear hV
  go_enter Try.func53, Try.ntmps53
  go_wp2_with fail
  go_loop [1, 5] (fun x o => ∃ (j P m : Nat), j + m = k ∧ x = .int .i64 (m : Int) ∧ o = .int .i64 (P : Int) ∧ Hid (P = a ^ j)) (fun x _ => (intOf x).toNat)
  case atStart => exact ⟨0, 1, k, Nat.zero_add k, rfl, rfl, Lib.hid rfl⟩
  case round =>
    obtain ⟨j, P, m, hj, rfl, rfl, HW⟩ := hrel
    by_cases hlt : 0 < m
    · have hp1 := HP.out j (by omega)
      have hp2 := HP.out (j + 1) (by omega)
      have hst : P * a = a ^ (j + 1) := by rw [HW.out, Nat.pow_succ]
      rw [← HW.out] at hp1
      rw [← hst] at hp2
      obtain ⟨q, rfl⟩ : ∃ q, m = q + 1 := ⟨m - 1, by omega⟩
      obtain ⟨Q, hQ⟩ : ∃ Q, Q = P * a := ⟨_, rfl⟩
      have hQi : (P : Int) * (a : Int) = (Q : Int) := by rw [hQ]; push_cast; rfl
      rw [← hQ] at hp2 hst
      have HST := Lib.hid hst
      clear hst hQ
      go_wp2_with fail
      go_round
      case rel => exact ⟨j + 1, Q, q, by omega, by go_num, rfl, Lib.hid HST.out⟩
      case measure => simp [intOf] <;> omega
    · obtain rfl : m = 0 := by omega
      have hjk : j = k := by omega
      have HV := Lib.hid (show P = V by rw [HW.out, hjk, HVV.out])
      go_wp2_with fail
      go_ret
      exact ⟨ret_int (by rw [HV.out]), rfl⟩

/-- How many words there are, or 0 where that cannot be asked. -/
def cwB (n d L : Int) : Bool := inB n 1 18 && inB d 1 9 && inB L 1 18
def cwV (n d L : Int) : Nat := if cwB n d L = true then specCW n.toNat d.toNat L.toNat else 0
theorem cwB_iff {n d L : Int} : cwB n d L = true ↔ (1 ≤ n ∧ n ≤ 18) ∧ (1 ≤ d ∧ d ≤ 9) ∧ (1 ≤ L ∧ L ≤ 18) := by
  unfold cwB inB
  simp only [Bool.and_eq_true, decide_eq_true_eq, and_assoc]
theorem cw_values (n d L : Int) : (∀ w, Calls Try.prog 49 #[.int .i64 n, .int .i64 d, .int .i64 L] w fun e w' => e = .returned (.tuple #[.int .i64 (cwV n d L : Nat), .bool (cwB n d L)]) ∧ Below w.heap.size w w')
    ∧ (∀ w, Calls Try.prog 48 #[.int .i64 n, .int .i64 d, .int .i64 L] w fun e w' => e = .returned (.tuple #[.int .i64 (cwV n d L : Nat), .bool (cwB n d L)]) ∧ Below w.heap.size w w') := by
  cases hb : cwB n d L with
  | false =>
    have hbad : inB n 1 18 = false ∨ inB d 1 9 = false ∨ inB L 1 18 = false := by
      unfold cwB at hb
      cases h1 : inB n 1 18 <;> cases h2 : inB d 1 9 <;> cases h3 : inB L 1 18 <;> simp_all
    have hv : cwV n d L = 0 := by unfold cwV; rw [hb]; rfl
    rw [hv]
    exact ⟨fun w => specCW_bad n d L w hbad, fun w => implCW_bad n d L w hbad⟩
  | true =>
    have h := cwB_iff.1 hb
    have hv : cwV n d L = specCW n.toNat d.toNat L.toNat := by unfold cwV; rw [hb]; rfl
    rw [hv]
    obtain ⟨a, rfl⟩ : ∃ a : Nat, n = a := ⟨n.toNat, by omega⟩
    obtain ⟨c, rfl⟩ : ∃ c : Nat, d = (c + 1 : Nat) := ⟨(d - 1).toNat, by omega⟩
    obtain ⟨l, rfl⟩ : ∃ l : Nat, L = l := ⟨L.toNat, by omega⟩
    simp only [Int.toNat_natCast]
    refine ⟨fun w => specCW_good a c l w (by omega) (by omega) (by omega) (by omega) (by omega), fun w => ?_⟩
    rw [cw_eq a (c + 1) l (by omega) (by omega) (by omega) (by omega) (by omega) (by omega)]
    exact implCW_good a c l w (by omega) (by omega) (by omega) (by omega) (by omega)
theorem cw_nat (N D L : Nat) (h : cwB N D L = true) : cwV N D L ≤ D ^ N ∧ (N ≤ L → cwV N D L = D ^ N) ∧ (L = 1 → cwV N D L = D * (D - 1) ^ (N - 1)) := by
  have h2 := cwB_iff.1 h
  have hv : cwV N D L = specCW N D L := by unfold cwV; rw [h]; rfl
  rw [hv]
  exact ⟨cw_le N D L (by omega) (by omega) (by omega), fun h3 => cw_whole N D L (by omega) (by omega) h3, fun h3 => by rw [h3]; exact cw_one N D⟩
/-- Those that can be heard are among all of them. -/
theorem heard_le (l D : Nat) (hl : 1 ≤ l ∧ l ≤ 18) (hD : 1 ≤ D ∧ D ≤ 9) : heardV (l : Int) (D : Int) ≤ ((D ^ l : Nat) : Int) := by
  unfold heardV
  split
  · omega
  · rename_i h
    obtain ⟨j, rfl⟩ : ∃ j, l = 2 * (j + 1) := ⟨l / 2 - 1, by omega⟩
    have e : ((((2 * (j + 1) : Nat) : Int)) / 2).toNat - 1 = j := by omega
    rw [e]
    have key : ∀ j : Nat, heardN (D : Int) j ≤ ((D ^ (2 * (j + 1)) : Nat) : Int) ∧ 0 ≤ heardN (D : Int) j := by
      intro j
      induction j with
      | zero =>
        unfold heardN
        rw [Int.pow_zero, Int.mul_one]
        have : ((D ^ (2 * (0 + 1)) : Nat) : Int) = (D : Int) * (D : Int) := by
          rw [show 2 * (0 + 1) = 1 + 1 from rfl, Nat.pow_succ, Nat.pow_one]; push_cast; rfl
        rw [this]
        exact ⟨Int.le_refl _, Int.mul_nonneg (by omega) (by omega)⟩
      | succ j ih =>
        rw [heardN_succ]
        have e2 : ((D ^ (2 * (j + 1 + 1)) : Nat) : Int) = ((D ^ (2 * (j + 1)) : Nat) : Int) * ((D : Int) * (D : Int)) := by
          rw [show 2 * (j + 1 + 1) = 2 * (j + 1) + 2 by omega, Nat.pow_add, show D ^ 2 = D * D by rw [Nat.pow_succ, Nat.pow_one]]; push_cast; rfl
        rw [e2]
        have h1 : (D : Int) * ((D : Int) - 1) ≤ (D : Int) * (D : Int) := Int.mul_le_mul_of_nonneg_left (by omega) (by omega)
        have h0 : 0 ≤ (D : Int) * ((D : Int) - 1) := Int.mul_nonneg (by omega) (by omega)
        exact ⟨Int.mul_le_mul ih.1 h1 h0 (by omega), Int.mul_nonneg ih.2 h0⟩
    exact (key j).1
/-- The texts of a way: each is said by the one behind it. -/
theorem wayG_steps : ∀ (n : Nat) (l : List UInt8) (ls : List (List UInt8)), wayG saidO n l = some ls → ls[0]? = some l ∧ ∀ i, i < n → ∃ a b, ls[i]? = some a ∧ ls[i + 1]? = some b ∧ saidO a = some b
  | 0, l, ls, h => by
    simp [wayG] at h; subst h
    exact ⟨rfl, fun i hi => by omega⟩
  | n + 1, l, ls, h => by
    have h0 := h
    unfold wayG at h
    cases h1 : wayG saidO n l with
    | none => rw [h1] at h; cases h
    | some ks =>
      rw [h1] at h
      dsimp only at h
      cases h2 : saidO (ks.getLastD []) with
      | none => rw [h2] at h; cases h
      | some m =>
        rw [h2] at h
        simp at h; subst h
        obtain ⟨i1, i2⟩ := wayG_steps n l ks h1
        have hlen := wayG_len saidO n l ks h1
        refine ⟨by rw [List.getElem?_append_left (by omega)]; exact i1, fun i hi => ?_⟩
        by_cases hin : i < n
        · obtain ⟨a, b, h3, h4, h5⟩ := i2 i hin
          exact ⟨a, b, by rw [List.getElem?_append_left (by omega)]; exact h3, by rw [List.getElem?_append_left (by omega)]; exact h4, h5⟩
        · obtain rfl : i = n := by omega
          refine ⟨ks.getLastD [], m, ?_, ?_, h2⟩
          · rw [List.getElem?_append_left (by omega), List.getLastD_eq_getLast?, List.getLast?_eq_getElem?, hlen]
            simp [show i < ks.length by omega]
          · rw [List.getElem?_append_right (by omega), hlen, Nat.sub_self]; rfl
end Go.Proofs.Ytdlhahigiooddaa
