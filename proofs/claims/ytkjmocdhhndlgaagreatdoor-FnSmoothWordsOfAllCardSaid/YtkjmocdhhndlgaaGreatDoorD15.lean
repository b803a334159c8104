/- AllSmooth, CountSmooth: the model's, the program's, the laws. -/
import Derived.Test.YtkjmocdhhndlgaaGreatDoorD14
import Derived.Test.YtkjmocdhhndlgaaGreatDoorMA
namespace Go.Proofs.YtkjmocdhhndlgaaGreatDoor
open Go.RowKit Go.BigFrame Go.Shelf
set_option linter.unusedSimpArgs false
set_option linter.unusedVariables false
set_option maxRecDepth 4000

theorem smO_len (n : Int) : ((smO n).getD []).length ≤ 16384 := by
  unfold smO
  split
  · rename_i h
    rw [Option.getD_some]
    exact Nat.le_trans (smAll_len _) (Nat.pow_le_pow_right (n := 2) (by omega) (show n.toNat ≤ 14 by omega))
  · simp
/-- How many there are, and a bool. -/
def CntOk (o : Option (List (List UInt8))) (w w' : World) (e : Ending) : Prop :=
  e = .returned (.tuple #[.int .i64 ((o.getD []).length : Int), .bool o.isSome]) ∧ Below w.heap.size w w'
theorem specAllSmooth_any (w : World) (n : Int) : Calls Tryz.prog 21 #[.int .i64 n] w fun e w' => AllOk (smO n) w w' e := by
  by_cases h : 0 ≤ n ∧ n ≤ 14
  · obtain ⟨N, rfl⟩ : ∃ N : Nat, n = (N : Int) := ⟨n.toNat, by omega⟩
    have hN : N ≤ 14 := by omega
    have ho : smO (N : Int) = some (smAll N) := by unfold smO; rw [if_pos h, Int.toNat_natCast]
    have hd : decide ((0 : Int) ≤ (N : Int) ∧ (N : Int) ≤ 14) = true := decide_eq_true h
    have HO := Lib.hid ho; have HD := Lib.hid hd; clear ho hd h
    go_enter Tryz.func21, Tryz.ntmps21
    go_wp2_with fail
    refine (l1In_is true _ _ _ _ HD.out).mono ?_
    rintro e w1 ⟨rfl, rfl⟩
    go_wp2_with fail
    refine (ruSmooth_any N _ hN).mono ?_
    rintro e w1 ⟨v, rfl, hown, hb⟩
    have H1 := Lib.hid hown; have HB := Lib.hid hb; clear hown hb
    go_wp2_with fail
    go_ret2
    exact ⟨v, by rw [HO.out]; rfl, by rw [HO.out]; exact H1.out, HB.out⟩
  · have ho : smO n = none := if_neg h
    have hd : decide ((0 : Int) ≤ n ∧ n ≤ 14) = false := decide_eq_false h
    have HO := Lib.hid ho; have HD := Lib.hid hd; clear ho hd
    go_enter Tryz.func21, Tryz.ntmps21
    go_wp2_with fail
    refine (l1In_is false _ _ _ _ HD.out).mono ?_
    rintro e w1 ⟨rfl, rfl⟩
    go_wp2_with fail
    go_ret2
    exact ⟨_, by rw [HO.out]; rfl, by rw [HO.out]; exact World.ownsRow_nil _ _ _ _, Below.refl _ _⟩
theorem specCountSmooth_any (w : World) (n : Int) : Calls Tryz.prog 23 #[.int .i64 n] w fun e w' => CntOk (smO n) w w' e := by
  have hlen := smO_len n
  by_cases h : 0 ≤ n ∧ n ≤ 14
  · obtain ⟨N, rfl⟩ : ∃ N : Nat, n = (N : Int) := ⟨n.toNat, by omega⟩
    have hN : N ≤ 14 := by omega
    have ho : smO (N : Int) = some (smAll N) := by unfold smO; rw [if_pos h, Int.toNat_natCast]
    have hd : decide ((0 : Int) ≤ (N : Int) ∧ (N : Int) ≤ 14) = true := decide_eq_true h
    have HO := Lib.hid ho; have HD := Lib.hid hd; clear ho hd h hlen
    go_enter Tryz.func23, Tryz.ntmps23
    go_wp2_with fail
    refine (l1In_is true _ _ _ _ HD.out).mono ?_
    rintro e w1 ⟨rfl, rfl⟩
    go_wp2_with fail
    refine (ruSmooth_any N _ hN).mono ?_
    rintro e w1 ⟨v, rfl, hown, hb⟩
    obtain ⟨av, cv, rfl⟩ := own_slice hown
    have HB := Lib.hid hb; clear hown hb
    go_wp2_with fail
    go_ret2
    exact ⟨by rw [HO.out]; rfl, HB.out⟩
  · have ho : smO n = none := if_neg h
    have hd : decide ((0 : Int) ≤ n ∧ n ≤ 14) = false := decide_eq_false h
    have HO := Lib.hid ho; have HD := Lib.hid hd; clear ho hd hlen
    go_enter Tryz.func23, Tryz.ntmps23
    go_wp2_with fail
    refine (l1In_is false _ _ _ _ HD.out).mono ?_
    rintro e w1 ⟨rfl, rfl⟩
    go_wp2_with fail
    go_ret2
    exact ⟨by rw [HO.out]; rfl, Below.refl _ _⟩
theorem implCountSmooth_any (w : World) (n : Int) : Calls Tryz.prog 22 #[.int .i64 n] w fun e w' => CntOk (smO n) w w' e := by
  have HI := Lib.hid (fun (W : World) => implAllSmooth_any W n)
  unfold AllOk at HI
  unfold CntOk
  generalize (smO n).isSome = y at *
  generalize (smO n).getD [] = xs at *
  go_enter Tryz.func22, Tryz.ntmps22
  go_wp2_with fail
  refine (HI.out _).mono ?_
  rintro e w1 ⟨v, rfl, hown, hb⟩
  obtain ⟨av, cv, rfl⟩ := own_slice hown
  have HB := Lib.hid hb; clear hown hb
  go_wp2_with fail
  go_ret2
  exact ⟨rfl, HB.out⟩
end Go.Proofs.YtkjmocdhhndlgaaGreatDoor
