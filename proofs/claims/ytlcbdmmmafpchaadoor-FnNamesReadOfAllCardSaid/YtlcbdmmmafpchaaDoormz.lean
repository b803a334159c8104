/- What every frame of chapter 8's other laws' seat asks of its program, once. -/
import Derived.Test.YtlcbdmmmafpchaaDoorRows
import Derived.JoinedOf
namespace Go.Proofs.YtlcbdmmmafpchaaDoor
open Go
set_option maxRecDepth 100000
theorem mayEnter_ok : Tryd.pinned.checked.prog.mayEnter = true := by kernel_rfl
theorem lifts_ok : Tryd.pinned.checked.prog.liftsFinal = Rows.fnNamesOrderedRow.lifted := by kernel_rfl
theorem make_ok : Tryd.pinned.checked.prog.make = some Rows.fnNamesOrderedRow.make := by kernel_rfl
end Go.Proofs.YtlcbdmmmafpchaaDoor
