/- Places that are drawn. -/
import Derived.Test.Ytkdoghopbefjfaau1
namespace Go.Proofs.Ytkdoghopbefjfaa
open Go.RowKit Go.BigFrame Go.Deep
set_option linter.unusedSimpArgs false
set_option linter.unusedVariables false
set_option maxRecDepth 4000

/-- A number is drawn: some number of Go's, and nothing else is left of the drawing. -/
def Drawn (w : World) (e : Ending) (w' : World) : Prop := ∃ x : Int, e = .returned (.int .i64 x) ∧ (Lit.int .i64 x).wf = true ∧ Below w.heap.size w w'

/-- A cursor that has just been made. -/
theorem cur_new (w : World) (cv : Value) : Cur w (w.alloc (.cells #[cv, .int .i64 0, .int .u64 0] 78)) w.heap.size cv 0 :=
  ⟨⟨0, 0, Nat.le_refl _, by omega, by omega, heap_alloc_new w _⟩, Nat.le_refl _, below_alloc _ _⟩

end Go.Proofs.Ytkdoghopbefjfaa
