/- TellList and IsSelfTold on both sides. -/
import Derived.Test.YtaagfcdniacmnabU2
import Derived.Test.YtaagfcdniacmnabT10
namespace Go.Proofs.Ytaagfcdniacmnab
open Go.RowKit Go.BigFrame
set_option linter.unusedSimpArgs false
set_option linter.unusedVariables false
set_option maxRecDepth 4000

/-- What is told of a list, if it is a told one. -/
def tellO (xs : List Int) : Option (List Int) := if tolL xs = true then some (ti (tel xs.length (xs.map Int.toNat))) else none
theorem tellO_ti {ns : List Nat} (h : tolL (ti ns) = true) : tellO (ti ns) = some (ti (tel ns.length ns)) := by
  unfold tellO
  rw [if_pos h, ti_len]
  congr 3
  simp only [ti, List.map_map]
  exact List.map_id ns

end Go.Proofs.Ytaagfcdniacmnab
