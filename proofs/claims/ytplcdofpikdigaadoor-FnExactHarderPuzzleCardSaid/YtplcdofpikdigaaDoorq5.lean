/- Chapter 9: an argument that is a puzzle, opened. -/
import Derived.Test.YtplcdofpikdigaaDoorq1
import Derived.Carry
import Derived.OpenShut
import Derived.Lib.SmallJoins
namespace Go.Proofs.YtplcdofpikdigaaDoor
open Go.RowKit Go.BigFrame Go.ChangeShapes Go.WideShapes
set_option linter.unusedSimpArgs false
set_option linter.unusedVariables false
set_option maxRecDepth 4000

theorem puz_of_trod {H : Type} {enc : TypeId × Value → H} {W : World} {b0 : Nat} {v : Value} {d0 : DataW H} {p0 : List MemPlace} (hv : Value.okWide Tryd.prog W .any b0 23 v)
    (h0 : DataW.Trod enc Tryd.prog W 0 (fun _ => true) true 23 v d0 p0) : ∃ (a b : List UInt8) (D : Int), v = pzV a b D ∧ a.length ≤ maxLen ∧ b.length ≤ maxLen := by
  obtain ⟨v0, v1, v2, y0, y1, y2, n, rfl, _, _, h1, h2, h3⟩ := Go.Joins.open_agg3 Tryd.underlying23 (by kernel_rfl) (by kernel_rfl) hv h0
  obtain ⟨s, hs1, _, hs3⟩ := DataW.trod_string Tryd.underlying9 h1
  obtain ⟨r, hr1, _, hr3⟩ := DataW.trod_string Tryd.underlying9 h2
  obtain ⟨D, hd1, _, _⟩ := DataW.trod_int Tryd.underlying3 h3
  obtain rfl : v0 = .string s := by simpa using hs1
  obtain rfl : v1 = .string r := by simpa using hr1
  obtain rfl : v2 = .int .i64 D := by simpa using hd1
  refine ⟨s.data.toList, r.data.toList, D, ?_, by simpa using hs3, by simpa using hr3⟩
  unfold pzV
  rw [show bs s.data.toList = s from (bs_eq rfl).symm, show bs r.data.toList = r from (bs_eq rfl).symm]
end Go.Proofs.YtplcdofpikdigaaDoor
