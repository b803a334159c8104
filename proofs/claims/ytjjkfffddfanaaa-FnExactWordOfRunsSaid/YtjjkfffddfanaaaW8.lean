/- The law WordOfRuns. -/
import Derived.Test.YtjjkfffddfanaaaI16
namespace Go.Proofs.Ytjjkfffddfanaaa
open Go.RowKit Go.BigFrame
set_option linter.unusedSimpArgs false
set_option linter.unusedVariables false
set_option maxRecDepth 4000

set_option maxRecDepth 100000 in
set_option maxHeartbeats 1000000 in
theorem law_WordOfRuns (v : Value) (nss : List (List Int)) (w : World) (h : ArgR w v nss) :
    Calls Try.prog 6 #[v] w fun e w' => e = .returned (.bool true) ∧ Below w.heap.size w w' := by
  have hsz := szIntSS_any w v nss h
  have hto := fun (W : World) (hb : Below w.heap.size w W) => toIntSS_any W v nss (argR_below h hb)
  have HS := Lib.hid hsz; have HT := Lib.hid hto
  clear hsz hto h
  go_enter Try.func6, Try.ntmps6
  go_wp2_with fail
  refine HS.out.mono ?_
  rintro e w1 ⟨he, rfl⟩
  rcases he with rfl | ⟨m, rfl, hb⟩
  · clear HS HT
    go_wp2_with fail
    go_ret
    exact ⟨rfl, Below.refl _ _⟩
  · have hm3 : decide ((m : Int) < 0) = false := by simp
    have HB1 := Lib.hid hb.1; have HB2 := Lib.hid hb.2
    clear hb HS
    go_wp2_with fail
    refine (HT.out w (Below.refl _ _) HB1.out HB2.out).mono ?_
    rintro e w2 ⟨vs1, rfl, h1, h2⟩
    obtain ⟨res, hres⟩ : ∃ r, r = wordO nss := ⟨_, rfl⟩
    have hspec := specWordOfRuns_any w2 _ _ _ _ h1
    have himpl := fun (W : World) (B : Nat) (v : Value) (vs : List Value) (h : IntsRR W B v vs nss) => implWordOfRuns_any W B v vs nss h
    rw [← hres] at hspec himpl
    have hso : ∃ (x : ByteArray) (y : Bool), strOk res = .tuple #[.string x, .bool y] := by cases res <;> exact ⟨_, _, rfl⟩
    obtain ⟨x, y, hxy⟩ := hso
    rw [hxy] at hspec himpl
    have e2 : (y != y) = false := by simp
    have HSP := Lib.hid hspec; have HIM := Lib.hid himpl
    have HW2 := Lib.hid h2
    clear h1 h2 hspec himpl hres hxy
    go_wp2_with fail
    refine HSP.out.mono ?_
    rintro e w3 ⟨rfl, h3⟩
    have HW3 : Hid (Below w.heap.size w w3) := HW2.out.trans (h3.mono HW2.out.size)
    clear h3 HSP
    go_wp2_with fail
    refine (HT.out w3 HW3.out HB1.out HB2.out).mono ?_
    rintro e w4 ⟨vs2, rfl, h4, h5⟩
    have HA4 := Lib.hid h4
    have HW4 : Hid (Below w.heap.size w w4) := HW3.out.trans (h5.mono HW3.out.size)
    clear h4 h5
    go_wp2_with fail
    refine (HIM.out w4 _ _ _ HA4.out).mono ?_
    rintro e w5 ⟨rfl, h6⟩
    have HA5 : Hid (IntsRR w5 w3.heap.size (.slice (some ⟨w3.heap.size, 0, none⟩) nss.length nss.length) vs2 nss) := ownsRR_below HA4.out h6
    have HW5 : Hid (Below w.heap.size w w5) := HW4.out.trans (h6.mono HW4.out.size)
    clear h6
    go_wp2_with fail
    refine (HT.out w5 HW5.out HB1.out HB2.out).mono ?_
    rintro e w6 ⟨vs3, rfl, h7, h8⟩
    have heq := eqIntSS_same w6 _ _ _ _ _ _ nss (ownsRR_below HA5.out h8) h7
    have HEQ := Lib.hid heq
    have HW6 : Hid (Below w.heap.size w w6) := HW5.out.trans (h8.mono HW5.out.size)
    clear h7 h8 heq
    go_wp2_with fail
    refine HEQ.out.mono ?_
    rintro e w7 ⟨rfl, h9⟩
    have HW7 : Hid (Below w.heap.size w w7) := HW6.out.trans (h9.mono HW6.out.size)
    clear h9
    go_wp2_with fail
    go_ret
    exact ⟨rfl, HW7.out⟩

section
open Go.ChangeShapes Go.WideShapes Go.Deep
theorem add_plainX (b o r : Nat) : (⟨b, o, none⟩ : Addr).add r = ⟨b, o + r, none⟩ := by
  unfold Addr.add
  split
  · subst_vars; rfl
  · rfl
/-- The argument, opened at every row. -/
theorem argR_of_trod {H : Type} {enc : TypeId × Value → H} {W : World} {a0 : Option Addr} {len cap : Nat} {d0 : DataW H} {p0 : List MemPlace}
    (h0 : DataW.Trod enc Try.prog W 0 (fun _ => true) true 25 (.slice a0 len cap) d0 p0) : ∃ nss, ArgR W (.slice a0 len cap) nss := by
  obtain ⟨fuel0, hf⟩ := h0
  rcases open_int_rows Try.underlying25 Try.underlying53 Try.underlying3 (by kernel_rfl) (by kernel_rfl) hf with ⟨hcs0, hx⟩ | ⟨a, len', cap', A, L, C, Z, hcs0, _, hl, hm, hx, hrows⟩
  · simp [Value.cells] at hcs0
    obtain ⟨rfl, rfl, rfl⟩ := hcs0
    exact ⟨[], none, 0, rfl, Nat.le_refl _, by omega, fun r hr => by simp at hr⟩
  · simp [Value.cells] at hcs0
    obtain ⟨rfl, rfl, rfl⟩ := hcs0
    refine ⟨(List.range len).map (fun r => (Z r).take (L r)), some a, cap, by simp, by simpa using hl, hm, fun r hr => ?_⟩
    have hrl : r < len := by simpa using hr
    obtain ⟨h1, h2, h3, h4, _, h5, h6⟩ := hrows r (by omega)
    obtain ⟨bm, om, spot⟩ := a
    have hspot : spot = none := by simpa [Addr.add] using World.cell?_spot (hrows 0 (by omega)).1
    subst hspot
    have h1' : W.cell? ⟨bm, om + r, none⟩ = some (.slice (A r) (L r) (C r)) := by rw [← h1, add_plainX]
    refine ⟨bm, om, .slice (A r) (L r) (C r), rfl, World.block_lt_of_cell? _ _ h1', h1', A r, C r, ?_, ?_, h3, fun c hc => ?_⟩
    · simp [h4]; omega
    · simp [h4]; omega
    · have hcl : c < L r := by simp [h4] at hc; omega
      cases hA : A r with
      | none => have := h5 hA; omega
      | some a' =>
        obtain ⟨b, o, spot⟩ := a'
        have h7 := (h6 _ hA).2 c (by omega)
        have hs2 : spot = none := by simpa [Addr.add] using World.cell?_spot ((h6 _ hA).2 0 (by omega))
        subst hs2
        have h7' : W.cell? ⟨b, o + c, none⟩ = some (.int .i64 ((Z r).getD c 0)) := by rw [← h7, add_plainX]
        refine ⟨b, o, rfl, World.block_lt_of_cell? _ _ h7', ?_⟩
        rw [h7']
        simp [List.getD, h4, show c < C r by omega]
end
end Go.Proofs.Ytjjkfffddfanaaa
