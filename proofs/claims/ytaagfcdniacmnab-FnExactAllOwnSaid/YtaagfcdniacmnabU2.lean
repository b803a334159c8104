/- Told lists: the program's tallyList, tellFirst; TellList on both sides. -/
import Derived.Test.YtaagfcdniacmnabU1
namespace Go.Proofs.Ytaagfcdniacmnab
open Go.RowKit Go.BigFrame
set_option linter.unusedSimpArgs false
set_option linter.unusedVariables false
set_option maxRecDepth 4000

/-- The counts that a told list is, or zeros. -/
def padO (xs : List Int) : List Nat := if tolL xs = true then pad (xs.map Int.toNat) else zeros9
theorem padO_len (xs : List Int) : (padO xs).length = 9 := by
  unfold padO
  split
  · rename_i h
    unfold tolL at h
    simp only [Bool.and_eq_true, decide_eq_true_eq] at h
    exact pad_len _ (by simpa using h.1.2)
  · rfl
theorem padO_ti {ns : List Nat} (h : tolL (ti ns) = true) : padO (ti ns) = pad ns := by
  unfold padO
  rw [if_pos h]
  congr 1
  simp only [ti, List.map_map]
  exact List.map_id ns

theorem run_sliceH (w : World) (b n : Nat) (hn : n ≤ 9) : (Instr.sliceAt 58 (.pointer (some ⟨b, 0, none⟩)) none (some (.int .i64 (n : Int))) none).run Try.prog w = .ok (.slice (some ⟨b, 0, none⟩) n 9) w := by
  simp [Instr.sliceAt, Instr.sureAddr, run_underlying under_tally, Instr.sliceBounds, run_sliceBound, size_intT, addr_zero, (by omega : n ≤ 9), (by omega : (n : Int) ≤ 9), (by omega : (0 : Int) ≤ n)]

end Go.Proofs.Ytaagfcdniacmnab
