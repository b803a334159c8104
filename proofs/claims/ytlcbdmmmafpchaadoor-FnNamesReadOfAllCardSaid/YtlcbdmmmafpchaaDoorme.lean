/- Chapter 8: the model's letters of names. -/
import Derived.Test.YtlcbdmmmafpchaaDoormc
import Derived.Test.YtlcbdmmmafpchaaDoorMA
namespace Go.Proofs.YtlcbdmmmafpchaaDoor
open Go.RowKit Go.BigFrame
set_option linter.unusedSimpArgs false
set_option linter.unusedVariables false
set_option maxRecDepth 4000

theorem take_at (s : ByteArray) (k : Nat) (h : k < s.size) : s.data.toList.take (k + 1) = s.data.toList.take k ++ [s[k]] := by
  rw [List.take_succ_eq_append_getElem (by simpa using h)]; rfl

set_option maxHeartbeats 1000000 in
theorem naLetters_any (n : Nat) (w : World) (h : n < 1000000) :
    Calls Tryd.prog 56 #[.int .i64 (n : Int)] w fun e w' => e = .returned (.string (bs (ltN n))) ∧ Below w.heap.size w w' := by
  have HN := Lib.hid (fun W => naName_any n W h)
  obtain ⟨s, hs⟩ : ∃ s, s = bs (nmN n) := ⟨_, rfl⟩
  have hsz : s.size ≤ 64 := by rw [hs, bs_size]; exact nmN_len n h
  have hd : s.data.toList = nmN n := by rw [hs]; exact bs_list _
  obtain ⟨R, hR⟩ : ∃ R, R = ltN n := ⟨_, rfl⟩
  have HR := Lib.hid (show R = s.data.toList.filter azB by rw [hR, hd]; rfl)
  rw [← hs] at HN
  rw [← hR]
  clear hs hd hR h
  go_enter Tryd.func56, Tryd.ntmps56
  go_wp2_with fail
  refine (HN.out _).mono ?_
  rintro e w1 ⟨rfl, hb⟩
  have HB := Lib.hid hb; clear hb
  go_wp2_with fail
  go_loop [4, 5] (fun t i => ∃ (k : Nat) (X : List UInt8), k ≤ s.size ∧ i = .int .i64 (k : Int) ∧ t = .string (bs X) ∧ X.length ≤ k ∧ Hid (X = (s.data.toList.take k).filter azB)) (fun _ i => s.size - (intOf i).toNat)
  case atStart => exact ⟨0, [], Nat.zero_le _, rfl, rfl, Nat.le_refl _, rfl⟩
  case round =>
    obtain ⟨k, X, hk, rfl, rfl, hX, HX⟩ := hrel
    have hbx : (bs X).size = X.length := bs_size _
    by_cases hlt : k < s.size
    · have hta := take_at s k hlt
      have HT := Lib.hid hta; clear hta
      by_cases hd : 97 ≤ s[k].toNat ∧ s[k].toNat ≤ 122
      · obtain ⟨hd1, hd2⟩ := hd
        obtain ⟨k1, hk1⟩ : ∃ k1, k1 = k + 1 := ⟨_, rfl⟩
        have hex : (s.extract k k1).size = 1 := by rw [ByteArray.size_extract]; omega
        have hnx : bs X ++ s.extract k k1 = bs (X ++ [s[k]]) := by
          rw [← bs_append, hk1, bs_eq (list_at s k hlt)]
        have HNX := Lib.hid hnx; clear hnx
        have hkz : (k : Int) + 1 = (k1 : Int) := by omega
        have hkl : k ≤ k1 := by omega
        have hkh : k1 ≤ s.size := by omega
        have HK := Lib.hid hk1; clear hk1
        go_wp2_with fail
        go_round
        case rel => exact ⟨k1, X ++ [s[k]], hkh, rfl, by rw [HNX.out], by have := HK.out; simp; omega, by show _ = List.filter azB (s.data.toList.take k1); rw [HK.out, HT.out, HX.out]; simp [List.filter_append, azB, hd1, hd2]⟩
        case measure => simp [intOf] <;> omega
      · have hf : ([s[k]] : List UInt8).filter azB = [] := by
          have : azB s[k] = false := by unfold azB; exact decide_eq_false hd
          simp [this]
        have HF := Lib.hid hf; clear hf
        by_cases hd1 : 97 ≤ s[k].toNat
        · have hd2 : ¬ s[k].toNat ≤ 122 := fun e => hd ⟨hd1, e⟩
          clear hd
          go_wp2_with fail
          go_round
          case rel => exact ⟨k + 1, X, by omega, by go_num, rfl, by omega, by show _ = List.filter azB (s.data.toList.take (k + 1)); rw [HT.out, List.filter_append, HF.out, List.append_nil]; exact HX.out⟩
          case measure => simp [intOf] <;> omega
        · clear hd
          go_wp2_with fail
          go_round
          case rel => exact ⟨k + 1, X, by omega, by go_num, rfl, by omega, by show _ = List.filter azB (s.data.toList.take (k + 1)); rw [HT.out, List.filter_append, HF.out, List.append_nil]; exact HX.out⟩
          case measure => simp [intOf] <;> omega
    · obtain rfl : k = s.size := by omega
      have HF := Lib.hid (show X = R by rw [HR.out, HX.out, List.take_of_length_le (by simp)])
      go_wp2_with fail
      go_ret
      exact ⟨ret_str (by rw [HF.out]), HB.out⟩

set_option maxHeartbeats 1000000 in
theorem naTimes_any (n : Nat) (c : UInt8) (w : World) (h : n < 1000000) (hc : azB c = true) :
    Calls Tryd.prog 72 #[.int .i64 (n : Int), .string (bs [c])] w fun e w' => e = .returned (.int .i64 (((ltN n).count c : Nat) : Int)) ∧ Below w.heap.size w w' := by
  have HN := Lib.hid (fun W => naName_any n W h)
  obtain ⟨s, hs⟩ : ∃ s, s = bs (nmN n) := ⟨_, rfl⟩
  have hsz : s.size ≤ 64 := by rw [hs, bs_size]; exact nmN_len n h
  have hd : s.data.toList = nmN n := by rw [hs]; exact bs_list _
  obtain ⟨R, hR⟩ : ∃ R, R = (ltN n).count c := ⟨_, rfl⟩
  have HR := Lib.hid (show R = s.data.toList.count c by rw [hR, hd]; exact count_filter_az _ _ hc)
  obtain ⟨t, ht⟩ : ∃ t, t = bs [c] := ⟨_, rfl⟩
  have ht1 : 0 < t.size := by rw [ht, bs_size]; simp
  have ht1s : t.size = 1 := by rw [ht]; rfl
  have ht0 : t[0] = c := by subst ht; rfl
  rw [← hs] at HN
  rw [← hR, ← ht]
  clear hs hd hR h hc ht
  go_enter Tryd.func72, Tryd.ntmps72
  go_wp2_with fail
  refine (HN.out _).mono ?_
  rintro e w1 ⟨rfl, hb⟩
  have HB := Lib.hid hb; clear hb
  go_wp2_with fail
  go_loopw [5, 7] (fun q i wr => ∃ (k m : Nat), k ≤ s.size ∧ i = .int .i64 (k : Int) ∧ q = .int .i64 (m : Int) ∧ m ≤ k ∧ Hid (m = (s.data.toList.take k).count c ∧ Below w.heap.size w wr)) (fun _ i _ => s.size - (intOf i).toNat)
  case atStart => exact ⟨0, 0, Nat.zero_le _, rfl, rfl, Nat.le_refl _, by simp, HB.out⟩
  case round =>
    obtain ⟨k, m, hk, rfl, rfl, hm, HX⟩ := hrel
    by_cases hlt : k < s.size
    · have hta := take_at s k hlt
      have HT := Lib.hid hta; clear hta
      by_cases hd : s[k] = c
      · have hq : (((s[k].toNat : Nat) : Int) == ((t[0].toNat : Nat) : Int)) = true := by rw [ht0, hd]; simp
        have HD := Lib.hid hd; have H0 := Lib.hid ht0
        clear hd ht0
        go_wp2_with fail
        go_quiet (fail)
        go_wp2_with fail
        go_roundw
        case rel => exact ⟨k + 1, m + 1, by omega, by go_num, by go_num, by omega, by show _ = List.count c (s.data.toList.take (k + 1)); rw [HT.out, List.count_append, ← HX.out.1, HD.out]; simp, HX.out.2.trans (belowN _ _ _)⟩
        case measure => simp [intOf] <;> omega
      · have hq : (((s[k].toNat : Nat) : Int) == ((t[0].toNat : Nat) : Int)) = false := by
          rw [ht0]; exact beq_false_of_ne (fun e => hd (UInt8.toNat_inj.1 (by omega)))
        have HD := Lib.hid (show ([s[k]] : List UInt8).count c = 0 from by simp [List.count_singleton]; exact hd); have H0 := Lib.hid ht0
        clear hd ht0
        go_wp2_with fail
        go_quiet (fail)
        go_wp2_with fail
        go_roundw
        case rel => exact ⟨k + 1, m, by omega, by go_num, rfl, by omega, by show _ = List.count c (s.data.toList.take (k + 1)); rw [HT.out, List.count_append, ← HX.out.1, HD.out]; rfl, HX.out.2.trans (belowN _ _ _)⟩
        case measure => simp [intOf] <;> omega
    · obtain rfl : k = s.size := by omega
      have HF := Lib.hid (show m = R by rw [HR.out, HX.out.1, List.take_of_length_le (by simp)])
      go_wp2_with fail
      go_ret
      exact ⟨ret_int (by rw [HF.out]), HX.out.2⟩
end Go.Proofs.YtlcbdmmmafpchaaDoor
