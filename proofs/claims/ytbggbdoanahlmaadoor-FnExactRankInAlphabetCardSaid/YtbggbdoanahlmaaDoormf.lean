/- Chapter 8: the model's LettersOf, CountLetter, DifferentLetters, IsHonest. -/
import Derived.Test.YtbggbdoanahlmaaDoorme
namespace Go.Proofs.YtbggbdoanahlmaaDoor
open Go.RowKit Go.BigFrame
set_option linter.unusedSimpArgs false
set_option linter.unusedVariables false
set_option maxRecDepth 4000

def letB (s : List UInt8) : Bool := decide (s.length = 1) && s.all azB
theorem letB_one {s : List UInt8} (h : letB s = true) : ∃ c, s = [c] ∧ azB c = true := by
  unfold letB at h
  simp only [Bool.and_eq_true, decide_eq_true_eq, List.all_eq_true] at h
  obtain ⟨h1, h2⟩ := h
  match s, h1, h2 with
  | [c], _, h2 => exact ⟨c, rfl, h2 c (by simp)⟩
def lenO (n : Int) : Int := if nmB n = true then ((ltN n.toNat).length : Int) else 0
def cntO (n : Int) (s : List UInt8) : Int := if (nmB n && letB s) = true then ((ltN n.toNat).count (s.getD 0 0) : Int) else 0
def difO (n : Int) : Int := if nmB n = true then (difN (ltN n.toNat) : Int) else 0
def honO (n : Int) : Bool := nmB n && decide (lenO n = n)

end Go.Proofs.YtbggbdoanahlmaaDoor
