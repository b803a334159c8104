/- ExchangeWord: sync.Once at its first use, one goroutine. -/
import Derived.Test.YtkjmocdhhndlgaaGreatDoorD21
import Derived.Test.YtkjmocdhhndlgaaGreatDoorD13
import Derived.Conc.MuLone
namespace Go.Proofs.YtkjmocdhhndlgaaGreatDoor
open Go.RowKit Go.BigFrame Go.Shelf
set_option linter.unusedSimpArgs false
set_option linter.unusedVariables false
set_option maxRecDepth 4000

abbrev muLk : Go.Conc.Locks.MuLink := { lock := 126, unlock := 127, ilock := 146, iunlock := 147, lockSlow := 163, unlockSlow := 166, disable := 159, enable := 161, acquire := 162, relMerge := 164, cas32 := 160, add32 := 165, tMutex := 84, tIMutex := 82, tPMutex := 156, tPIMutex := 182, tPI32 := 184, tUP := 186, tNoCopy := 76, tU32 := 78 }
theorem muLb : Go.Conc.Locks.MuLib Tryz.prog muLk := by
  refine ⟨Tryz.func126, Tryz.func127, Tryz.func146, Tryz.func147, Tryz.func159, Tryz.func161, Tryz.func162, Tryz.func164, Tryz.func160, Tryz.func165,
    Tryz.underlying82, Tryz.runUnderlying82, Tryz.sizeOf82, Tryz.isAgg82, Tryz.zeroValue82,
    Tryz.underlying84, Tryz.runUnderlying84, Tryz.sizeOf84, Tryz.isAgg84, Tryz.zeroValue84,
    Tryz.underlying156, Tryz.runUnderlying156, Tryz.sizeOf156, Tryz.isAgg156, Tryz.zeroValue156,
    Tryz.underlying182, Tryz.runUnderlying182, Tryz.sizeOf182, Tryz.isAgg182, Tryz.zeroValue182,
    Tryz.underlying184, Tryz.runUnderlying184, Tryz.sizeOf184, Tryz.isAgg184, Tryz.zeroValue184,
    Tryz.underlying186, Tryz.runUnderlying186, Tryz.sizeOf186, Tryz.isAgg186, Tryz.zeroValue186,
    Tryz.underlying76, Tryz.runUnderlying76, Tryz.sizeOf76, Tryz.isAgg76, Tryz.zeroValue76,
    Tryz.underlying21, Tryz.runUnderlying21, Tryz.sizeOf21, Tryz.isAgg21, Tryz.zeroValue21, ?_⟩
  all_goals kernel_rfl
theorem load_run (a : Addr) (w : World) (x : Int) (hc : w.cell? a = some (.int .u32 x)) : (callFunc 125 #[.pointer (some a)]).run Tryz.prog w = .ok (.value (.int .u32 x)) w :=
  run_call_load Tryz.func125 (by kernel_rfl) (by kernel_rfl) (by kernel_rfl) .u32 (by kernel_rfl) hc
theorem store_run (a : Addr) (w : World) (x : Int) (u : Value) (hc : w.cell? a = some u) (hz : w.frozen? a = false) : (callFunc 148 #[.pointer (some a), .int .u32 x]).run Tryz.prog w = .ok (.value (.tuple #[])) (w.setCell a (.int .u32 x)) :=
  run_call_store Tryz.func148 (by kernel_rfl) (by kernel_rfl) (by kernel_rfl) (by kernel_rfl) hc hz
theorem boolLoad_is (w : World) (B : Nat) (hB : w.cell? ⟨B, 0, none⟩ = some (.int .u32 0)) :
    Calls Tryz.prog 100 #[.pointer (some ⟨B, 0, none⟩)] w fun e w' => e = .returned (.bool false) ∧ w = w' := by
  have hl := load_run ⟨B, 0, none⟩ w 0 hB
  go_enter Tryz.func100, Tryz.ntmps100
  go_wp2_with fail
  go_ret
  exact ⟨rfl, rfl⟩
end Go.Proofs.YtkjmocdhhndlgaaGreatDoor
