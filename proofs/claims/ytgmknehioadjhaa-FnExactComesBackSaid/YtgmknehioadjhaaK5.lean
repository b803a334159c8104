/- The program's FirstDigits. -/
import Derived.Test.YtgmknehioadjhaaK4
namespace Go.Proofs.Ytgmknehioadjhaa
open Go.RowKit Go.BigFrame Go.Shelf
set_option linter.unusedSimpArgs false
set_option linter.unusedVariables false
set_option maxRecDepth 4000
attribute [local go_sem] Oper.semAt_some

theorem info_int5 : (Try.prog.info? 3).map (fun i => (i.zero, i.size, i.bytes)) = some (some (.int .i64 0), 1, 8) := by kernel_rfl
/-- Digits as numbers. -/
def digsN (l : List UInt8) : List Int := l.map (fun c => (c.toNat : Int) - 48)
def digsV (l : List UInt8) : List Value := (digsN l).map (.int .i64)
theorem digsV_len (l : List UInt8) : (digsV l).length = l.length := by simp [digsV, digsN]
theorem digsV_snoc (l : List UInt8) (c : UInt8) : digsV (l ++ [c]) = digsV l ++ [.int .i64 ((c.toNat : Int) - 48)] := by simp [digsV, digsN]
/-- A row of numbers and a bool, or nil and false. -/
def IntsOk (b : Bool) (ns : List Int) (w w' : World) (e : Ending) : Prop :=
  ∃ v, e = .returned (.tuple #[v, .bool b]) ∧ Ints w' w.heap.size v (if b = true then ns else []) ∧ Below w.heap.size w w'
/-- What the loop keeps: the variable's box, the row that its value owns, and all that was there before. -/
def RowI (w : World) (c : Nat) (got : List UInt8) (W : World) : Prop :=
  (∃ v, Boxed W c 30 v ∧ W.ownsRow w.heap.size 3 1 v got.length (digsV got) ∧ True) ∧ Below w.heap.size w W ∧ got.length ≤ 10

end Go.Proofs.Ytgmknehioadjhaa
