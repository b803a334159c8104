/- ExchangeWord: sync.Once at its first use, one goroutine (2). -/
import Derived.Test.YtkjmocdhhndlgaaGreatDoorD22
import Derived.Defers
namespace Go.Proofs.YtkjmocdhhndlgaaGreatDoor
open Go.RowKit Go.BigFrame Go.Shelf
set_option linter.unusedSimpArgs false
set_option linter.unusedVariables false
set_option maxRecDepth 4000

theorem b32_is (w : World) : Calls Tryz.prog 149 #[.bool true] w fun e w' => e = .returned (.int .u32 1) ∧ w = w' := by
  go_enter Tryz.func149, Tryz.ntmps149
  go_wp2_with fail
  go_ret
  exact ⟨rfl, rfl⟩
theorem boolStore_is (w : World) (B : Nat) (u : FrameMode) (x : Value) (hB : w.cell? ⟨B, 0, none⟩ = some x) (hz : w.frozen? ⟨B, 0, none⟩ = false) :
    CallsD Tryz.prog 128 #[.pointer (some ⟨B, 0, none⟩), .bool true] u w fun e u' w' => u' = u ∧ e = .returned (.tuple #[]) ∧ ∃ n, w' = (w.drewN n).setCell ⟨B, 0, none⟩ (.int .u32 1) := by
  have hs : ∀ n, (callFunc 148 #[.pointer (some ⟨B, 0, none⟩), .int .u32 1]).run Tryz.prog (w.drewN n) = .ok (.value (.tuple #[])) ((w.drewN n).setCell ⟨B, 0, none⟩ (.int .u32 1)) := fun n =>
    store_run ⟨B, 0, none⟩ (w.drewN n) 1 x hB hz
  have hs0 := store_run ⟨B, 0, none⟩ w 1 x hB hz
  have hs1 : (callFunc 148 #[.pointer (some ⟨B, 0, none⟩), .int .u32 1]).run Tryz.prog w.drew = .ok (.value (.tuple #[])) (w.drew.setCell ⟨B, 0, none⟩ (.int .u32 1)) := store_run ⟨B, 0, none⟩ w.drew 1 x hB hz
  go_enter_d Tryz.func128, Tryz.ntmps128
  go_region_with (go_at_call 149; ((with_reducible refine (b32_is _).mono ?_); rintro e w1 ⟨rfl, rfl⟩))
  all_goals
    go_end0
    first | exact ⟨rfl, 0, rfl⟩ | exact ⟨rfl, 1, rfl⟩ | exact ⟨rfl, 2, rfl⟩ | exact ⟨rfl, 3, rfl⟩ | exact ⟨rfl, 4, rfl⟩ | exact ⟨rfl, 5, rfl⟩
theorem doSlow_is (w : World) (B : Nat) (F : FuncId) (R : World → Prop) (h0 : w.cell? ⟨B, 0, none⟩ = some (.int .u32 0)) (h1 : w.cell? ⟨B, 1, none⟩ = some (.int .i32 0)) (z1 : w.frozen? ⟨B, 1, none⟩ = false)
    (hE : ∀ W : World, (callFunc F #[.pointer (some ⟨B, 0, none⟩)]).run Tryz.prog W = .ok (.enter F #[.pointer (some ⟨B, 0, none⟩)]) W)
    (hF : Calls Tryz.prog F #[.pointer (some ⟨B, 0, none⟩)] (w.setCell ⟨B, 1, none⟩ (.int .i32 1)) fun e w' => e = .returned (.tuple #[]) ∧ w'.cell? ⟨B, 0, none⟩ = some (.int .u32 0) ∧ w'.cell? ⟨B, 1, none⟩ = some (.int .i32 1) ∧ w'.frozen? ⟨B, 0, none⟩ = false ∧ w'.frozen? ⟨B, 1, none⟩ = false ∧ R w') :
    Calls Tryz.prog 101 #[.pointer (some ⟨B, 0, none⟩), .func (.func F) #[.pointer (some ⟨B, 0, none⟩)] #[]] w fun e w' => e = .returned (.tuple #[]) ∧ ∃ w1 n, R w1 ∧ w' = ((w1.drewN n).setCell ⟨B, 0, none⟩ (.int .u32 1)).setCell ⟨B, 1, none⟩ (.int .i32 0) := by
  have hlk := Go.MuLone.lock_free muLb ⟨B, 1, none⟩ w h1 z1
  go_enter_defers Tryz.func101, Tryz.ntmps101
  go_wp2_with fail
  refine hlk.mono ?_
  rintro e w1 ⟨rfl, rfl⟩
  go_wp2_with fail
  refine (boolLoad_is _ B ((World.cell?_setCell_other _ ⟨B, 1, none⟩ ⟨B, 0, none⟩ _ (by simp)).trans h0)).mono ?_
  rintro e w1 ⟨rfl, rfl⟩
  go_wp2_with fail
  refine hF.mono ?_
  rintro e w1 ⟨rfl, c0, c1, f0, f1, hR⟩
  go_wp2_with fail
  refine leaves_cons (f := 128) (args := #[.pointer (some ⟨B, 0, none⟩), .bool true]) (by simp) (by simp [go_sem]) ?_
  refine (boolStore_is w1 B .returning _ c0 f0).mono ?_
  rintro e u' w2 ⟨rfl, rfl, n, rfl⟩
  refine leaves_cons (f := 127) (args := #[.pointer (some ⟨B, 1, none⟩)]) (by simp [settle]) (by simp [go_sem]) ?_
  refine (Go.MuLone.unlock_deferred muLb ⟨B, 1, none⟩ _ _ ?_ ?_).mono ?_
  · exact (World.cell?_setCell_other _ ⟨B, 0, none⟩ ⟨B, 1, none⟩ _ (by simp)).trans c1
  · simp; exact f1
  rintro e u' w2 ⟨rfl, rfl, rfl⟩
  exact ⟨_, results_none rfl _ _ _, rfl, w1, n, hR, rfl⟩
theorem onceDo_is (w : World) (B : Nat) (F : FuncId) (R : World → Prop) (h0 : w.cell? ⟨B, 0, none⟩ = some (.int .u32 0)) (h1 : w.cell? ⟨B, 1, none⟩ = some (.int .i32 0)) (z1 : w.frozen? ⟨B, 1, none⟩ = false)
    (hE : ∀ W : World, (callFunc F #[.pointer (some ⟨B, 0, none⟩)]).run Tryz.prog W = .ok (.enter F #[.pointer (some ⟨B, 0, none⟩)]) W)
    (hF : Calls Tryz.prog F #[.pointer (some ⟨B, 0, none⟩)] (w.setCell ⟨B, 1, none⟩ (.int .i32 1)) fun e w' => e = .returned (.tuple #[]) ∧ w'.cell? ⟨B, 0, none⟩ = some (.int .u32 0) ∧ w'.cell? ⟨B, 1, none⟩ = some (.int .i32 1) ∧ w'.frozen? ⟨B, 0, none⟩ = false ∧ w'.frozen? ⟨B, 1, none⟩ = false ∧ R w') :
    Calls Tryz.prog 70 #[.pointer (some ⟨B, 0, none⟩), .func (.func F) #[.pointer (some ⟨B, 0, none⟩)] #[]] w fun e w' => e = .returned (.tuple #[]) ∧ ∃ w1 n, R w1 ∧ w' = ((w1.drewN n).setCell ⟨B, 0, none⟩ (.int .u32 1)).setCell ⟨B, 1, none⟩ (.int .i32 0) := by
  have HS := Lib.hid (doSlow_is w B F R h0 h1 z1 hE hF)
  clear hF
  go_enter Tryz.func70, Tryz.ntmps70
  go_wp2_with fail
  refine (boolLoad_is _ B h0).mono ?_
  rintro e w1 ⟨rfl, rfl⟩
  go_wp2_with fail
  refine HS.out.mono ?_
  rintro e w1 ⟨rfl, w2, n, hR, rfl⟩
  go_wp2_with fail
  go_end0
  exact ⟨rfl, w2, n, hR, rfl⟩
end Go.Proofs.YtkjmocdhhndlgaaGreatDoor
