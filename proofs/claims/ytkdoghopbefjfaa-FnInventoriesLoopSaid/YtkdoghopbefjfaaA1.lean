import Derived.Test.YtkdoghopbefjfaaB
namespace Go.Proofs.Ytkdoghopbefjfaa
open Go.RowKit
set_option linter.unusedSimpArgs false
set_option linter.unusedVariables false
set_option maxRecDepth 4000

def digB (c : UInt8) : Bool := decide (49 ≤ c.toNat ∧ c.toNat ≤ 57)
def goodL (l : List UInt8) : Bool := decide (1 ≤ l.length) && decide (l.length ≤ 400) && l.all digB

theorem l1In_is (b : Bool) (n lo hi : Int) (w : World) (h : decide (lo ≤ n ∧ n ≤ hi) = b) :
    Calls Try.prog 72 #[.int .i64 n, .int .i64 lo, .int .i64 hi] w fun e w' => e = .returned (.bool b) ∧ w = w' := by
  subst h
  by_cases h1 : lo ≤ n <;> by_cases h2 : n ≤ hi
  all_goals
    go_enter Try.func72, Try.ntmps72
    go_wp2
    go_ret
    exact ⟨by simp; omega, rfl⟩

theorem all_take_succ (p : UInt8 → Bool) (s : ByteArray) (k : Nat) (h : k < s.size) :
    (s.data.toList.take (k + 1)).all p = ((s.data.toList.take k).all p && p s[k]) := by
  rw [List.take_succ_eq_append_getElem (by simpa using h), List.all_append]; simp; rfl

theorem goodL_of (s : ByteArray) (h : s.size = s.data.toList.length) : goodL s.data.toList = (decide (1 ≤ s.size ∧ s.size ≤ 400) && s.data.toList.all digB) := by
  unfold goodL; rw [← h]; simp

theorem all_false_of_take {l : List UInt8} {p : UInt8 → Bool} (k : Nat) (h : (l.take k).all p = false) : l.all p = false := by
  rw [← List.take_append_drop k l, List.all_append, h]; rfl

set_option maxHeartbeats 400000 in
theorem woGood_any (s : ByteArray) (w : World) (hs : s.size ≤ maxLen) :
    Calls Try.prog 60 #[.string s] w fun e w' => e = .returned (.bool (goodL s.data.toList)) ∧ w = w' := by
  unfold maxLen at hs
  have hlen : s.size = s.data.toList.length := by simp
  have hg := goodL_of s hlen
  have HG := Lib.hid hg; clear hg hlen
  by_cases hl : 1 ≤ s.size ∧ s.size ≤ 400
  · go_enter Try.func60, Try.ntmps60
    go_wp2_with (go_at_call 72; refine (l1In_is true _ _ _ _ (by simp; omega)).mono ?_; rintro e w' ⟨rfl, rfl⟩)
    go_loop [3] (fun i => ∃ k : Nat, k ≤ s.size ∧ i = .int .i64 k ∧ (s.data.toList.take k).all digB = true) (fun i => s.size - (intOf i).toNat)
    case atStart => exact ⟨0, Nat.zero_le _, rfl, rfl⟩
    case round =>
      obtain ⟨k, hk, rfl, hall⟩ := hrel
      have HA := Lib.hid hall; clear hall
      by_cases hlt : k < s.size
      · have hsn := all_take_succ digB s k hlt
        have HS := Lib.hid hsn; clear hsn
        by_cases hd : 49 ≤ s[k].toNat ∧ s[k].toNat ≤ 57
        · obtain ⟨hd1, hd2⟩ := hd
          go_wp2
          go_round
          case rel => exact ⟨k + 1, by omega, by go_num, by rw [HS.out, HA.out]; simp [digB, hd1, hd2]⟩
          case measure => simp [intOf]; omega
        · have hf : s.data.toList.all digB = false := all_false_of_take (k + 1) (by rw [HS.out, HA.out]; simp [digB]; omega)
          have HF := Lib.hid hf; clear hf
          by_cases hd1 : 49 ≤ s[k].toNat
          all_goals
            go_wp2
            go_ret
            exact ⟨ret_bool (by rw [HG.out, HF.out]; simp), rfl⟩
      · go_wp2
        go_ret
        exact ⟨ret_bool (by rw [HG.out]; have h := HA.out; rw [List.take_of_length_le (by simp; omega)] at h; rw [h]; simp [hl]), rfl⟩
  · go_enter Try.func60, Try.ntmps60
    go_wp2_with (go_at_call 72; refine (l1In_is false _ _ _ _ (by simp; omega)).mono ?_; rintro e w' ⟨rfl, rfl⟩)
    go_ret
    exact ⟨ret_bool (by rw [HG.out]; simp [hl]), rfl⟩

theorem isWithin_is (b : Bool) (n lo hi : Int) (w : World) (h : decide (lo ≤ n ∧ n ≤ hi) = b) :
    Calls Try.prog 64 #[.int .i64 n, .int .i64 lo, .int .i64 hi] w fun e w' => e = .returned (.bool b) ∧ w = w' := by
  subst h
  by_cases h1 : lo ≤ n <;> by_cases h2 : n ≤ hi
  all_goals
    go_enter Try.func64, Try.ntmps64
    go_wp2
    go_ret
    exact ⟨by simp; omega, rfl⟩

def dtB (l : List UInt8) : Bool := decide (1 ≤ l.length) && l.all digB
theorem nonempty_toList (s : ByteArray) (h : ¬ s.size = 0) : s.toList.isEmpty = false := by
  have e : s.toList = s.data.toList := ByteArray.toList_eq s
  rw [e]
  cases h' : s.data.toList with
  | nil => exact absurd (by simpa using congrArg List.length h') h
  | cons a l => rfl
theorem dtB_of (s : ByteArray) (h : s.size = s.data.toList.length) : dtB s.data.toList = (decide (1 ≤ s.size) && s.data.toList.all digB) := by
  unfold dtB; rw [← h]
theorem goodL_dt (s : ByteArray) (h : s.size = s.data.toList.length) : goodL s.data.toList = (decide (s.size ≤ 400) && dtB s.data.toList) := by
  unfold dtB goodL; rw [← h]; cases decide (s.size ≤ 400) <;> cases decide (1 ≤ s.size) <;> rfl
set_option maxHeartbeats 400000 in
theorem isDigitText_any (s : ByteArray) (w : World) (hs : s.size ≤ maxLen) :
    Calls Try.prog 62 #[.string s] w fun e w' => e = .returned (.bool (dtB s.data.toList)) ∧ w = w' := by
  unfold maxLen at hs
  have hg := dtB_of s (by simp)
  have HG := Lib.hid hg; clear hg
  go_enter Try.func62, Try.ntmps62
  go_wp2_with fail
  go_loop [6] (fun i => ∃ k : Nat, k ≤ s.size ∧ i = .int .i64 k ∧ (s.data.toList.take k).all digB = true) (fun i => s.size - (intOf i).toNat)
  case atStart => exact ⟨0, Nat.zero_le _, rfl, rfl⟩
  case round =>
    obtain ⟨k, hk, rfl, hall⟩ := hrel
    have HA := Lib.hid hall; clear hall
    by_cases hlt : k < s.size
    · have hsn := all_take_succ digB s k hlt
      have HS := Lib.hid hsn; clear hsn
      by_cases hd : 49 ≤ s[k].toNat ∧ s[k].toNat ≤ 57
      · obtain ⟨hd1, hd2⟩ := hd
        go_wp2
        go_round
        case rel => exact ⟨k + 1, by omega, by go_num, by rw [HS.out, HA.out]; simp [digB, hd1, hd2]⟩
        case measure => simp [intOf]; omega
      · have hf : s.data.toList.all digB = false := all_false_of_take (k + 1) (by rw [HS.out, HA.out]; simp [digB]; omega)
        have HF := Lib.hid hf; clear hf
        by_cases hd1 : 49 ≤ s[k].toNat
        all_goals
          go_wp2
          go_ret
          exact ⟨ret_bool (by rw [HG.out, HF.out]; simp), rfl⟩
    · by_cases h0 : s.size = 0
      · have he : s = ⟨#[]⟩ := by
          apply ByteArray.ext; exact Array.eq_empty_of_size_eq_zero h0
        subst he
        go_wp2
        go_ret
        exact ⟨ret_bool (by rw [HG.out]; rfl), rfl⟩
      · have hne : s.data.toList.isEmpty = false := by
          cases h : s.data.toList with
          | nil => exact absurd (by simpa using congrArg List.length h) h0
          | cons a l => rfl
        go_wp2
        go_ret
        exact ⟨ret_bool (by rw [HG.out]; have h := HA.out; rw [List.take_of_length_le (by simp; omega)] at h; rw [h, decide_eq_true (by omega)]; simp [nonempty_toList s h0]), rfl⟩

theorem implIsWord_any (s : ByteArray) (w : World) (hs : s.size ≤ maxLen) :
    Calls Try.prog 19 #[.string s] w fun e w' => e = .returned (.bool (goodL s.data.toList)) ∧ w = w' := by
  have hg := goodL_dt s (by simp)
  have HG := Lib.hid hg; clear hg
  by_cases h : s.size ≤ 400
  · go_enter Try.func19, Try.ntmps19
    go_wp2_with (go_at_call 62; refine (isDigitText_any _ _ hs).mono ?_; rintro e w' ⟨rfl, rfl⟩)
    go_ret
    exact ⟨ret_bool (by rw [HG.out]; simp [h]), rfl⟩
  · go_enter Try.func19, Try.ntmps19
    go_wp2_with (go_at_call 62; refine (isDigitText_any _ _ hs).mono ?_; rintro e w' ⟨rfl, rfl⟩)
    go_ret
    exact ⟨ret_bool (by rw [HG.out]; simp [h]), rfl⟩

end Go.Proofs.Ytkdoghopbefjfaa
