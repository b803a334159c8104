/- Chapter 7: an argument that is a language, opened; an argument that is a row of numbers, opened. -/
import Derived.Test.YtampjipbemmicaaDoor7B
import Derived.Carry
namespace Go.Proofs.YtampjipbemmicaaDoor
open Go.RowKit Go.BigFrame Go.ChangeShapes Go.WideShapes Go.Deep
set_option linter.unusedSimpArgs false
set_option linter.unusedVariables false
set_option maxRecDepth 4000

theorem add_plainN (b o r : Nat) : (⟨b, o, none⟩ : Addr).add r = ⟨b, o + r, none⟩ := by
  unfold Addr.add
  split
  · subst_vars; rfl
  · rfl
theorem lang_of_trod {H : Type} {enc : TypeId × Value → H} {W : World} {b0 : Nat} {v : Value} {d0 : DataW H} {p0 : List MemPlace} (hv : Value.okWide Tryd.prog W .any b0 24 v)
    (h0 : DataW.Trod enc Tryd.prog W 0 (fun _ => true) true 24 v d0 p0) : ∃ u fr ns, v = .agg #[u, .string (bs fr)] ∧ fr.length ≤ 9223372036854775807 ∧ ArgS W u ns := by
  obtain ⟨v0, v1, y0, y1, n, rfl, _, _, h1, h2⟩ := Go.Joins.open_agg2 Tryd.underlying24 (by kernel_rfl) (by kernel_rfl) hv h0
  obtain ⟨s, hs1, _, hs3⟩ := DataW.trod_string Tryd.underlying9 h2
  obtain rfl : v1 = .string s := by simpa using hs1
  unfold maxLen at hs3
  refine ⟨v0, s.data.toList, ?_⟩
  rw [show bs s.data.toList = s from (bs_eq rfl).symm]
  rcases open_strings Tryd.underlying22 Tryd.underlying9 (by kernel_rfl) h1 with ⟨hcs0, hx⟩ | ⟨a, len', cap', ss, hcs0, _, hl, hm, hlen, hx, hcell, hsz⟩
  · obtain rfl : v0 = .slice none 0 0 := by simpa using hcs0
    exact ⟨[], rfl, by simpa using hs3, none, 0, rfl, Nat.le_refl _, by omega, fun r hr => by simp at hr⟩
  · obtain rfl : v0 = .slice (some a) len' cap' := by simpa using hcs0
    simp at hlen
    unfold maxLen at hm hsz
    refine ⟨(ss.take len').map (·.data.toList), rfl, by simpa using hs3, some a, cap', by simp; omega, by simp; omega, by omega, fun c hc => ?_⟩
    have hcl : c < len' := by simp at hc; omega
    have hcs : c < ss.length := by omega
    obtain ⟨b, o, spot⟩ := a
    have hs2 : spot = none := by simpa [Addr.add] using World.cell?_spot (hcell 0 (by omega))
    subst hs2
    have h7 : W.cell? ⟨b, o + c, none⟩ = some (.string (ss.getD c ByteArray.empty)) := by rw [← hcell c hcs, add_plainN]
    refine ⟨b, o, rfl, World.block_lt_of_cell? _ _ h7, ?_, ?_⟩
    · rw [h7]
      have e : bs (ss[c].data.toList) = ss[c] := (bs_eq rfl).symm
      simp [List.getD, hcs, e]
    · have := hsz ss[c] (List.getElem_mem hcs)
      simpa using this
end Go.Proofs.YtampjipbemmicaaDoor
