/- Chapter 9: a digit that does not fit is raised: mustFit, agrees, checkDigits. -/
import Derived.Test.YtplcdofpikdigaaDooro2
import Derived.Deep.RegionHeld3
namespace Go.Proofs.YtplcdofpikdigaaDoor
open Go.RowKit Go.BigFrame Go.Shelf
set_option linter.unusedSimpArgs false
set_option linter.unusedVariables false
set_option maxRecDepth 4000

/-- A digit's place, raised. -/
def misV (k : Nat) : List PanicEntry := [{ v := .iface 73 (.int .i64 (k : Int)), recovered := false }]

theorem mustFit_true (k : Int) (w : World) : Calls Tryd.prog 80 #[.bool true, .int .i64 k] w fun e w' => e = .returned (.tuple #[]) ∧ w = w' := by
  go_enter Tryd.func80, Tryd.ntmps80
  go_wp2_with fail
  go_end0
  exact ⟨rfl, rfl⟩
theorem mustFit_false (k : Nat) (w : World) : Calls Tryd.prog 80 #[.bool false, .int .i64 (k : Int)] w fun e w' => e = .panicked (misV k) ∧ w = w' := by
  go_enter Tryd.func80, Tryd.ntmps80
  go_wp2_with fail
  exact ⟨rfl, rfl, rfl⟩
theorem agrees_any (g c : UInt8) (w : World) : Calls Tryd.prog 81 #[.int .u8 (g.toNat : Int), .int .u8 (c.toNat : Int)] w fun e w' => e = .returned (.bool (agB g c)) ∧ w = w' := by
  have h1 : ((g.toNat : Int) == 46) = decide (g = 46) := by
    rw [Bool.eq_iff_iff]; simp only [beq_iff_eq, decide_eq_true_eq]
    constructor
    · intro h; exact UInt8.toNat_inj.1 (by have : (46 : UInt8).toNat = 46 := rfl; omega)
    · intro h; rw [h]; rfl
  have h2 : ((g.toNat : Int) == (c.toNat : Int)) = decide (g = c) := by
    rw [Bool.eq_iff_iff]; simp only [beq_iff_eq, decide_eq_true_eq]
    constructor
    · intro h; exact UInt8.toNat_inj.1 (by omega)
    · intro h; rw [h]
  unfold agB
  generalize decide (g = 46) = b1 at *
  generalize decide (g = c) = b2 at *
  generalize (g.toNat : Int) = x at *
  generalize (c.toNat : Int) = y at *
  cases b1 <;> cases b2
  all_goals
    go_enter Tryd.func81, Tryd.ntmps81
    go_wp2_with fail
    go_ret
    exact ⟨rfl, rfl⟩
end Go.Proofs.YtplcdofpikdigaaDoor
