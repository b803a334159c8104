/- Chapter 10: an argument that is a desk, opened. -/
import Derived.Test.Ytmlkbgefpmminaat1
import Derived.Carry
import Derived.OpenShut
import Derived.Lib.SmallJoins
namespace Go.Proofs.Ytmlkbgefpmminaa
open Go.RowKit Go.BigFrame Go.ChangeShapes Go.WideShapes
set_option linter.unusedSimpArgs false
set_option linter.unusedVariables false
set_option maxRecDepth 4000

theorem desk_of_trod {H : Type} {enc : TypeId × Value → H} {W : World} {b0 : Nat} {v : Value} {d0 : DataW H} {p0 : List MemPlace} (hv : Value.okWide Try.prog W .any b0 27 v)
    (h0 : DataW.Trod enc Try.prog W 0 (fun _ => true) true 27 v d0 p0) : ∃ (a b : List UInt8), v = dkV a b ∧ a.length ≤ maxLen ∧ b.length ≤ maxLen := by
  obtain ⟨v0, v1, y0, y1, n, rfl, _, _, h1, h2⟩ := Go.Joins.open_agg2 Try.underlying27 (by kernel_rfl) (by kernel_rfl) hv h0
  obtain ⟨s, hs1, _, hs3⟩ := DataW.trod_string Try.underlying9 h1
  obtain ⟨r, hr1, _, hr3⟩ := DataW.trod_string Try.underlying9 h2
  obtain rfl : v0 = .string s := by simpa using hs1
  obtain rfl : v1 = .string r := by simpa using hr1
  refine ⟨s.data.toList, r.data.toList, ?_, by simpa using hs3, by simpa using hr3⟩
  unfold dkV
  rw [show bs s.data.toList = s from (bs_eq rfl).symm, show bs r.data.toList = r from (bs_eq rfl).symm]
end Go.Proofs.Ytmlkbgefpmminaa
