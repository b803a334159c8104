/- The laws WayOfWord and WayOfInventory. -/
import Derived.Test.YtaagfcdniacmnabT12
import Derived.Test.YtaagfcdniacmnabE3
namespace Go.Proofs.Ytaagfcdniacmnab
open Go.RowKit Go.BigFrame
set_option linter.unusedSimpArgs false
set_option linter.unusedVariables false
set_option maxRecDepth 4000

theorem wayGO_len (f : List UInt8 → Option (List UInt8)) (M : Int) (l : List UInt8) (n : Int) (h0 : 0 ≤ M) : (((wayGO f M l n).getD []).length : Int) ≤ M + 1 := by
  unfold wayGO
  split
  · rename_i h
    cases hw : wayG f n.toNat l with
    | none => simp; omega
    | some ls => have := wayG_len f _ _ _ hw; simp; omega
  · simp; omega
end Go.Proofs.Ytaagfcdniacmnab
