/- Chapter 8: LettersOf, CountLetter, DifferentLetters, IsHonest of the program; their laws. -/
import Derived.Test.YtbggbdoanahlmaaDoormh
namespace Go.Proofs.YtbggbdoanahlmaaDoor
open Go.RowKit Go.BigFrame
set_option linter.unusedSimpArgs false
set_option linter.unusedVariables false
set_option maxRecDepth 4000

end Go.Proofs.YtbggbdoanahlmaaDoor
