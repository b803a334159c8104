/- The law WordOfRuns. -/
import Derived.Test.YtmlghonidheidaaI16
namespace Go.Proofs.Ytmlghonidheidaa
open Go.RowKit Go.BigFrame
set_option linter.unusedSimpArgs false
set_option linter.unusedVariables false
set_option maxRecDepth 4000

section
open Go.ChangeShapes Go.WideShapes Go.Deep
theorem add_plainX (b o r : Nat) : (⟨b, o, none⟩ : Addr).add r = ⟨b, o + r, none⟩ := by
  unfold Addr.add
  split
  · subst_vars; rfl
  · rfl
/-- The argument, opened at every row. -/
theorem argR_of_trod {H : Type} {enc : TypeId × Value → H} {W : World} {a0 : Option Addr} {len cap : Nat} {d0 : DataW H} {p0 : List MemPlace}
    (h0 : DataW.Trod enc Try.prog W 0 (fun _ => true) true 27 (.slice a0 len cap) d0 p0) : ∃ nss, ArgR W (.slice a0 len cap) nss := by
  obtain ⟨fuel0, hf⟩ := h0
  rcases open_int_rows Try.underlying27 Try.underlying37 Try.underlying3 (by kernel_rfl) (by kernel_rfl) hf with ⟨hcs0, hx⟩ | ⟨a, len', cap', A, L, C, Z, hcs0, _, hl, hm, hx, hrows⟩
  · simp [Value.cells] at hcs0
    obtain ⟨rfl, rfl, rfl⟩ := hcs0
    exact ⟨[], none, 0, rfl, Nat.le_refl _, by omega, fun r hr => by simp at hr⟩
  · simp [Value.cells] at hcs0
    obtain ⟨rfl, rfl, rfl⟩ := hcs0
    refine ⟨(List.range len).map (fun r => (Z r).take (L r)), some a, cap, by simp, by simpa using hl, hm, fun r hr => ?_⟩
    have hrl : r < len := by simpa using hr
    obtain ⟨h1, h2, h3, h4, _, h5, h6⟩ := hrows r (by omega)
    obtain ⟨bm, om, spot⟩ := a
    have hspot : spot = none := by simpa [Addr.add] using World.cell?_spot (hrows 0 (by omega)).1
    subst hspot
    have h1' : W.cell? ⟨bm, om + r, none⟩ = some (.slice (A r) (L r) (C r)) := by rw [← h1, add_plainX]
    refine ⟨bm, om, .slice (A r) (L r) (C r), rfl, World.block_lt_of_cell? _ _ h1', h1', A r, C r, ?_, ?_, h3, fun c hc => ?_⟩
    · simp [h4]; omega
    · simp [h4]; omega
    · have hcl : c < L r := by simp [h4] at hc; omega
      cases hA : A r with
      | none => have := h5 hA; omega
      | some a' =>
        obtain ⟨b, o, spot⟩ := a'
        have h7 := (h6 _ hA).2 c (by omega)
        have hs2 : spot = none := by simpa [Addr.add] using World.cell?_spot ((h6 _ hA).2 0 (by omega))
        subst hs2
        have h7' : W.cell? ⟨b, o + c, none⟩ = some (.int .i64 ((Z r).getD c 0)) := by rw [← h7, add_plainX]
        refine ⟨b, o, rfl, World.block_lt_of_cell? _ _ h7', ?_⟩
        rw [h7']
        simp [List.getD, h4, show c < C r by omega]
end
end Go.Proofs.Ytmlghonidheidaa
