/- CountSelfTold: the program's; the laws of AllSelfTold and CountSelfTold. -/
import Derived.Test.YtkdoghopbefjfaaQ8
namespace Go.Proofs.Ytkdoghopbefjfaa
open Go.RowKit Go.BigFrame
set_option linter.unusedSimpArgs false
set_option linter.unusedVariables false
set_option maxRecDepth 4000

set_option maxHeartbeats 1000000 in
theorem implCountSelfTold_any (w : World) (n : Int) : Calls Try.prog 46 #[.int .i64 n] w fun e w' => e = .returned (.tuple #[.int .i64 (cntO n), .bool (selfO n).isSome]) ∧ Below w.heap.size w w' := by
  have hA := fun W => implAllSelfTold_any W n
  obtain ⟨L, hL⟩ : ∃ L, L = ((selfO n).getD []).length := ⟨_, rfl⟩
  have hc : cntO n = (L : Int) := by unfold cntO; rw [hL]
  obtain ⟨y, hy⟩ : ∃ y, y = (selfO n).isSome := ⟨_, rfl⟩
  rw [hc, ← hy]
  unfold TellOk at hA
  rw [← hy] at hA
  have HA := Lib.hid hA; have HL := Lib.hid hL; clear hA hL hc hy
  go_enter Try.func46, Try.ntmps46
  go_wp2_with fail
  refine (HA.out _).mono ?_
  rintro e w2 ⟨v, vs, rfl, h3, hb, _⟩
  obtain ⟨q, c, hv⟩ := own_slice h3.outer
  rw [← h3.len, ← HL.out] at hv
  subst hv
  have HB := Lib.hid hb; clear h3 hb
  go_wp2_with fail
  go_ret2
  exact ⟨rfl, HB.out⟩

end Go.Proofs.Ytkdoghopbefjfaa
