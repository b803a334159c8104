/- ExchangeWord: sync.Once at its first use, one goroutine. -/
import Derived.Test.YtaagfcdniacmnaaDoorD21
import Derived.Test.YtaagfcdniacmnaaDoorD13
import Derived.Conc.MuLone
namespace Go.Proofs.YtaagfcdniacmnaaDoor
open Go.RowKit Go.BigFrame Go.Shelf
set_option linter.unusedSimpArgs false
set_option linter.unusedVariables false
set_option maxRecDepth 4000

abbrev muLk : Go.Conc.Locks.MuLink := { lock := 102, unlock := 103, ilock := 120, iunlock := 121, lockSlow := 137, unlockSlow := 140, disable := 133, enable := 135, acquire := 136, relMerge := 138, cas32 := 134, add32 := 139, tMutex := 57, tIMutex := 55, tPMutex := 134, tPIMutex := 162, tPI32 := 164, tUP := 166, tNoCopy := 49, tU32 := 51 }
theorem muLb : Go.Conc.Locks.MuLib Tryd.prog muLk := by
  refine ⟨Tryd.func102, Tryd.func103, Tryd.func120, Tryd.func121, Tryd.func133, Tryd.func135, Tryd.func136, Tryd.func138, Tryd.func134, Tryd.func139,
    Tryd.underlying55, Tryd.runUnderlying55, Tryd.sizeOf55, Tryd.isAgg55, Tryd.zeroValue55,
    Tryd.underlying57, Tryd.runUnderlying57, Tryd.sizeOf57, Tryd.isAgg57, Tryd.zeroValue57,
    Tryd.underlying134, Tryd.runUnderlying134, Tryd.sizeOf134, Tryd.isAgg134, Tryd.zeroValue134,
    Tryd.underlying162, Tryd.runUnderlying162, Tryd.sizeOf162, Tryd.isAgg162, Tryd.zeroValue162,
    Tryd.underlying164, Tryd.runUnderlying164, Tryd.sizeOf164, Tryd.isAgg164, Tryd.zeroValue164,
    Tryd.underlying166, Tryd.runUnderlying166, Tryd.sizeOf166, Tryd.isAgg166, Tryd.zeroValue166,
    Tryd.underlying49, Tryd.runUnderlying49, Tryd.sizeOf49, Tryd.isAgg49, Tryd.zeroValue49,
    Tryd.underlying21, Tryd.runUnderlying21, Tryd.sizeOf21, Tryd.isAgg21, Tryd.zeroValue21, ?_⟩
  all_goals kernel_rfl
theorem load_run (a : Addr) (w : World) (x : Int) (hc : w.cell? a = some (.int .u32 x)) : (callFunc 101 #[.pointer (some a)]).run Tryd.prog w = .ok (.value (.int .u32 x)) w :=
  run_call_load Tryd.func101 (by kernel_rfl) (by kernel_rfl) (by kernel_rfl) .u32 (by kernel_rfl) hc
theorem store_run (a : Addr) (w : World) (x : Int) (u : Value) (hc : w.cell? a = some u) (hz : w.frozen? a = false) : (callFunc 122 #[.pointer (some a), .int .u32 x]).run Tryd.prog w = .ok (.value (.tuple #[])) (w.setCell a (.int .u32 x)) :=
  run_call_store Tryd.func122 (by kernel_rfl) (by kernel_rfl) (by kernel_rfl) (by kernel_rfl) hc hz
theorem boolLoad_is (w : World) (B : Nat) (hB : w.cell? ⟨B, 0, none⟩ = some (.int .u32 0)) :
    Calls Tryd.prog 73 #[.pointer (some ⟨B, 0, none⟩)] w fun e w' => e = .returned (.bool false) ∧ w = w' := by
  have hl := load_run ⟨B, 0, none⟩ w 0 hB
  go_enter Tryd.func73, Tryd.ntmps73
  go_wp2_with fail
  go_ret
  exact ⟨rfl, rfl⟩
end Go.Proofs.YtaagfcdniacmnaaDoor
