/- Chapter 8: sums of letters, the first number with a letter, numbers with so many letters: both sides and their laws. -/
import Derived.Test.YtbggbdoanahlmaaDoorml
import Derived.Test.YtbggbdoanahlmaaDoorE4
namespace Go.Proofs.YtbggbdoanahlmaaDoor
open Go.RowKit Go.BigFrame
set_option linter.unusedSimpArgs false
set_option linter.unusedVariables false
set_option maxRecDepth 4000

def mlB (n : Int) : Bool := decide (0 ≤ n ∧ n ≤ 2000)
theorem mlB_parts {n : Int} (h : mlB n = true) : ∃ k : Nat, n = (k : Int) ∧ k ≤ 2000 := by
  have : 0 ≤ n ∧ n ≤ 2000 := of_decide_eq_true h
  exact ⟨n.toNat, by omega, by omega⟩
def smF : Nat → Nat
  | 0 => 0
  | k + 1 => smF k + (ltN (k + 1)).length
theorem smF_le : ∀ k, k ≤ 2000 → smF k ≤ 64 * k
  | 0, _ => Nat.le_refl _
  | k + 1, h => by
    have := smF_le k (by omega)
    have := ltN_len (k + 1) (by omega)
    rw [smF]; omega
def sumO (n : Int) : Int := if mlB n = true then (smF n.toNat : Int) else 0
/-- The first number from n on, of the next f, with a letter. -/
def fwK (c : UInt8) : Nat → Nat → Option Nat
  | 0, _ => none
  | f + 1, n => if 0 < (ltN n).count c then some n else fwK c f (n + 1)
def fwR (s : List UInt8) : Option Nat := if letB s = true then fwK (s.getD 0 0) 1001 0 else none
def fwO (s : List UInt8) : Int := match fwR s with
  | some n => (n : Int)
  | none => 0
/-- The first k numbers with so many letters. -/
def wlK (L : Int) : Nat → List Int
  | 0 => []
  | k + 1 => wlK L k ++ if ((ltN k).length : Int) = L then [(k : Int)] else []
theorem wlK_len (L : Int) : ∀ k, (wlK L k).length ≤ k
  | 0 => Nat.le_refl _
  | k + 1 => by
    have := wlK_len L k
    rw [wlK, List.length_append]
    split <;> simp <;> omega
def wlB (L m : Int) : Bool := decide (0 ≤ L) && mlB m
def wlO (L m : Int) : List Int := if wlB L m = true then wlK L (m.toNat + 1) else []

theorem naMost_is (n : Int) (w : World) : Calls Tryd.prog 12 #[.int .i64 n] w fun e w' => e = .returned (.bool (mlB n)) ∧ w = w' := by
  obtain ⟨b, hb⟩ : ∃ b, b = mlB n := ⟨_, rfl⟩
  rw [← hb]
  have H := Lib.hid (l1In_is b n 0 2000 w hb.symm)
  clear hb
  go_enter Tryd.func12, Tryd.ntmps12
  go_wp2_with fail
  refine H.out.mono ?_
  rintro e w1 ⟨rfl, rfl⟩
  go_wp2_with fail
  go_ret
  exact ⟨rfl, rfl⟩

theorem canLook_is (n : Int) (w : World) : Calls Tryd.prog 14 #[.int .i64 n] w fun e w' => e = .returned (.bool (mlB n)) ∧ w = w' := by
  obtain ⟨b, hb⟩ : ∃ b, b = mlB n := ⟨_, rfl⟩
  rw [← hb]
  have H := Lib.hid (isWithin_is b n 0 2000 w hb.symm)
  clear hb
  go_enter Tryd.func14, Tryd.ntmps14
  go_wp2_with fail
  refine H.out.mono ?_
  rintro e w1 ⟨rfl, rfl⟩
  go_wp2_with fail
  go_ret
  exact ⟨rfl, rfl⟩

/-- The number of letters, as the program counts it. -/
theorem lettersOf_two (k : Nat) (w : World) (h : k < 1000000) : ∀ W, Calls Tryd.prog 18 #[aggT (cntA (ltN k))] W fun e w' => e = .returned (.int .i64 ((ltN k).length : Int)) ∧ Below W.heap.size W w' := fun W => by
  have := letters_any (cntA (ltN k)) W (cntA_len _) (by rw [cntA_sum _ (ltN_all k)]; have := ltN_len k h; omega)
  rw [cntA_sum _ (ltN_all k)] at this
  exact this

end Go.Proofs.YtbggbdoanahlmaaDoor
