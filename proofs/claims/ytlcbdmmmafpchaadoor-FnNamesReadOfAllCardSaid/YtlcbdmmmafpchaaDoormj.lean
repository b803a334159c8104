/- Chapter 8: the laws of LettersOf, IsHonest, CountLetter. -/
import Derived.Test.YtlcbdmmmafpchaaDoormi
namespace Go.Proofs.YtlcbdmmmafpchaaDoor
open Go.RowKit Go.BigFrame
set_option linter.unusedSimpArgs false
set_option linter.unusedVariables false
set_option maxRecDepth 4000

end Go.Proofs.YtlcbdmmmafpchaaDoor
