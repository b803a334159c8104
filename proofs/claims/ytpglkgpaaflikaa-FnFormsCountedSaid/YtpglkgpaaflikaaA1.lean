import Derived.Test.YtpglkgpaaflikaaB
namespace Go.Proofs.Ytpglkgpaaflikaa
open Go.RowKit
set_option linter.unusedSimpArgs false
set_option linter.unusedVariables false
set_option maxRecDepth 4000

def digB (c : UInt8) : Bool := decide (49 ≤ c.toNat ∧ c.toNat ≤ 57)
def goodL (l : List UInt8) : Bool := decide (1 ≤ l.length) && decide (l.length ≤ 400) && l.all digB

theorem l1In_is (b : Bool) (n lo hi : Int) (w : World) (h : decide (lo ≤ n ∧ n ≤ hi) = b) :
    Calls Try.prog 67 #[.int .i64 n, .int .i64 lo, .int .i64 hi] w fun e w' => e = .returned (.bool b) ∧ w = w' := by
  subst h
  by_cases h1 : lo ≤ n <;> by_cases h2 : n ≤ hi
  all_goals
    go_enter Try.func67, Try.ntmps67
    go_wp2
    go_ret
    exact ⟨by simp; omega, rfl⟩

theorem all_take_succ (p : UInt8 → Bool) (s : ByteArray) (k : Nat) (h : k < s.size) :
    (s.data.toList.take (k + 1)).all p = ((s.data.toList.take k).all p && p s[k]) := by
  rw [List.take_succ_eq_append_getElem (by simpa using h), List.all_append]; simp; rfl

theorem goodL_of (s : ByteArray) (h : s.size = s.data.toList.length) : goodL s.data.toList = (decide (1 ≤ s.size ∧ s.size ≤ 400) && s.data.toList.all digB) := by
  unfold goodL; rw [← h]; simp

theorem all_false_of_take {l : List UInt8} {p : UInt8 → Bool} (k : Nat) (h : (l.take k).all p = false) : l.all p = false := by
  rw [← List.take_append_drop k l, List.all_append, h]; rfl

theorem isWithin_is (b : Bool) (n lo hi : Int) (w : World) (h : decide (lo ≤ n ∧ n ≤ hi) = b) :
    Calls Try.prog 64 #[.int .i64 n, .int .i64 lo, .int .i64 hi] w fun e w' => e = .returned (.bool b) ∧ w = w' := by
  subst h
  by_cases h1 : lo ≤ n <;> by_cases h2 : n ≤ hi
  all_goals
    go_enter Try.func64, Try.ntmps64
    go_wp2
    go_ret
    exact ⟨by simp; omega, rfl⟩

def dtB (l : List UInt8) : Bool := decide (1 ≤ l.length) && l.all digB
theorem nonempty_toList (s : ByteArray) (h : ¬ s.size = 0) : s.toList.isEmpty = false := by
  have e : s.toList = s.data.toList := ByteArray.toList_eq s
  rw [e]
  cases h' : s.data.toList with
  | nil => exact absurd (by simpa using congrArg List.length h') h
  | cons a l => rfl
theorem dtB_of (s : ByteArray) (h : s.size = s.data.toList.length) : dtB s.data.toList = (decide (1 ≤ s.size) && s.data.toList.all digB) := by
  unfold dtB; rw [← h]
theorem goodL_dt (s : ByteArray) (h : s.size = s.data.toList.length) : goodL s.data.toList = (decide (s.size ≤ 400) && dtB s.data.toList) := by
  unfold dtB goodL; rw [← h]; cases decide (s.size ≤ 400) <;> cases decide (1 ≤ s.size) <;> rfl
end Go.Proofs.Ytpglkgpaaflikaa
