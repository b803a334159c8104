/- What every frame of chapter 8's seat asks of its program, once. -/
import Derived.Test.YtbggbdoanahlmaaDoorRows
import Derived.JoinedOf
namespace Go.Proofs.YtbggbdoanahlmaaDoor
open Go
set_option maxRecDepth 100000
theorem mayEnter_ok : Tryd.pinned.checked.prog.mayEnter = true := by kernel_rfl
theorem lifts_ok : Tryd.pinned.checked.prog.liftsFinal = Rows.fnExactMostLettersRow.lifted := by kernel_rfl
theorem make_ok : Tryd.pinned.checked.prog.make = some Rows.fnExactMostLettersRow.make := by kernel_rfl
end Go.Proofs.YtbggbdoanahlmaaDoor
