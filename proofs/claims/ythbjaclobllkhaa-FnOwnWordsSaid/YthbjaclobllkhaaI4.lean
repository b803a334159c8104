/- LengthSaid, IsStill, SumOfWord, LongestRun: the model's and the program's. -/
import Derived.Test.YthbjaclobllkhaaI3
namespace Go.Proofs.Ythbjaclobllkhaa
open Go.RowKit Go.BigFrame Go.Shelf
set_option linter.unusedSimpArgs false
set_option linter.unusedVariables false
set_option maxRecDepth 4000
attribute [local go_sem] Oper.semAt_some

/-- A number and a bool, or 0 and false. -/
def intOk (b : Bool) (n : Int) : Value := .tuple #[.int .i64 (if b = true then n else 0), .bool b]
def lenSaid (l : List UInt8) : Int := 2 * ((runsL l).length : Int)
end Go.Proofs.Ythbjaclobllkhaa
