/- The laws IsInventory and IsOwnInventory. -/
import Derived.Test.YtaagfcdniacmnabT8
import Derived.Lib.Strings
namespace Go.Proofs.Ytaagfcdniacmnab
open Go.RowKit Go.BigFrame
set_option linter.unusedSimpArgs false
set_option linter.unusedVariables false
set_option maxRecDepth 4000

theorem bytes_toListT (s : ByteArray) : s.toList = s.data.toList := Go.Lib.toList_data s

theorem toldD_len (l : List UInt8) : ((toldL l).getD zeros9).length = 9 := by
  cases h : toldL l with
  | none => rfl
  | some ts =>
    unfold toldL at h
    split at h
    · exact toldF_len _ _ _ _ h
    · cases h

end Go.Proofs.Ytaagfcdniacmnab
