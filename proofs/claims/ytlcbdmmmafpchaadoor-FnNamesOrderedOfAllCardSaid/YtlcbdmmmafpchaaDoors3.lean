/- The library's stable sort: two parts exchanged (swapRangeCmpFunc). -/
import Derived.Test.YtlcbdmmmafpchaaDoors2
import Derived.RegionTactic
import Derived.BigRegion
import Derived.WalkKit
import Derived.BigQuiet
namespace Go.Proofs.YtlcbdmmmafpchaaDoor
open Go.RowKit Go.BigFrame
set_option linter.unusedSimpArgs false
set_option linter.unusedVariables false
set_option maxRecDepth 4000

theorem addr_ne {g i j : Nat} (h : i ≠ j) : (⟨g, i, none⟩ : Addr) ≠ ⟨g, j, none⟩ := fun e => h (by cases e; rfl)
/-- The first cells of a block hold numbers that may be written. -/
structure RowB (W : World) (b : Nat) (xs : List Int) : Prop where
  cell : ∀ i, i < xs.length → W.cell? ⟨b, i, none⟩ = some (.int .i64 (xs.getD i 0))
  free : ∀ i, i < xs.length → W.frozen? ⟨b, i, none⟩ = false
/-- Nothing else than a block's cells has changed. -/
structure Only (b : Nat) (W W' : World) : Prop where
  os : W'.os = W.os
  tape : W'.tape = W.tape
  output : W'.output = W.output
  size : W'.heap.size = W.heap.size
  other : ∀ k, k ≠ b → W'.heap[k]? = W.heap[k]?
theorem only_refl (b : Nat) (W : World) : Only b W W := ⟨rfl, rfl, rfl, rfl, fun _ _ => rfl⟩
theorem only_t {b : Nat} {A B C : World} (h : Only b A B) (k : Only b B C) : Only b A C := ⟨k.os.trans h.os, k.tape.trans h.tape, k.output.trans h.output, k.size.trans h.size, fun q hq => (k.other q hq).trans (h.other q hq)⟩
theorem only_drewN (b : Nat) (W : World) (n : Nat) : Only b W (W.drewN n) := ⟨rfl, rfl, rfl, rfl, fun _ _ => rfl⟩
theorem only_drew (b : Nat) (W : World) : Only b W W.drew := ⟨rfl, rfl, rfl, rfl, fun _ _ => rfl⟩
theorem only_set (b i : Nat) (v : Value) (W : World) : Only b W (W.setCell ⟨b, i, none⟩ v) := ⟨rfl, rfl, rfl, by simp [World.setCell], fun k hk => Below.heap_setCell _ _ _ _ hk⟩
theorem only_below {b B : Nat} {W W' : World} (h : Only b W W') (hB : B ≤ b) : Below B W W' := ⟨h.os, h.tape, h.output, by rw [h.size]; exact Nat.le_refl _, fun k hk => h.other k (by omega)⟩
theorem only_cell {b : Nat} {W W' : World} (h : Only b W W') {a : Addr} (ha : a.block ≠ b) : W'.cell? a = W.cell? a := World.cell?_of_block (h.other _ ha)
theorem rowB_drewN {W : World} {b n : Nat} {xs : List Int} (h : RowB W b xs) : RowB (W.drewN n) b xs := ⟨h.cell, h.free⟩
theorem rowB_drew {W : World} {b : Nat} {xs : List Int} (h : RowB W b xs) : RowB W.drew b xs := ⟨h.cell, h.free⟩
theorem rowB_set {W : World} {b : Nat} {xs : List Int} (h : RowB W b xs) (i : Nat) (y : Int) (hi : i < xs.length) : RowB (W.setCell ⟨b, i, none⟩ (.int .i64 y)) b (xs.set i y) := by
  refine ⟨fun j hj => ?_, fun j hj => ?_⟩
  · rw [List.length_set] at hj
    by_cases e : j = i
    · subst e
      rw [World.cell?_setCell_same _ _ _ (h.cell j hi)]
      simp [List.getD, hi]
    · rw [World.cell?_setCell_other _ _ _ _ (addr_ne (fun e' => e e'.symm)), h.cell j hj]
      simp [List.getD, List.getElem?_set, Ne.symm e]
  · rw [List.length_set] at hj
    rw [World.frozen?_setCell]; exact h.free j hj
/-- The two stores of an exchange. -/
theorem rowB_swap {W : World} {b : Nat} {xs : List Int} (h : RowB W b xs) (i j : Nat) (hi : i < xs.length) (hj : j < xs.length) :
    RowB ((W.setCell ⟨b, i, none⟩ (.int .i64 (xs.getD j 0))).setCell ⟨b, j, none⟩ (.int .i64 (xs.getD i 0))) b (swpL xs i j) :=
  rowB_set (rowB_set h i _ hi) j _ (by rw [List.length_set]; exact hj)

set_option maxHeartbeats 2000000 in
theorem swapRange_any (w : World) (b n c : Nat) (P U X V Q : List Int) (a d k : Nat) (F : Value) (hU : U.length = k) (hV : V.length = k) (ha : a = P.length) (hd : d = P.length + k + X.length)
    (hn : n = P.length + k + X.length + k + Q.length) (hn4 : n ≤ 4000) (hcap : n ≤ c) (hcm : c ≤ maxLen) (h : RowB w b (P ++ U ++ X ++ V ++ Q)) :
    Calls Tryd.prog 124 #[.slice (some ⟨b, 0, none⟩) n c, .int .i64 (a : Int), .int .i64 (d : Int), .int .i64 (k : Int), F] w fun e w' => e = .returned (.tuple #[]) ∧ RowB w' b (P ++ V ++ X ++ U ++ Q) ∧ Only b w w' := by
  unfold maxLen at hcm
  have had : a + k ≤ d := by omega
  have hdn : d + k ≤ n := by omega
  have H0 := Lib.hid h
  have HS := Lib.hid (fun (i : Nat) (hi : i < k) => swpK_step P U X V Q i a d (by rw [hU, hV]) (by rw [hU]; exact hi) ha (by rw [hU]; exact hd))
  have HE := Lib.hid (show swpK P U X V Q k = P ++ V ++ X ++ U ++ Q by rw [← hV]; exact swpK_all P U X V Q (by rw [hU, hV]))
  have HL := Lib.hid (show ∀ i, i ≤ k → (swpK P U X V Q i).length = n by
    intro i hi
    unfold swpK
    simp only [List.length_append, List.length_take, List.length_drop, hU, hV]; omega)
  have HZ := Lib.hid (swpK_zero P U X V Q)
  clear h hU hV ha hd hn
  go_enter Tryd.func124, Tryd.ntmps124
  go_wp2_with fail
  go_loopw [10] (fun iv wr => ∃ i : Nat, i ≤ k ∧ iv = .int .i64 (i : Int) ∧ Hid (RowB wr b (swpK P U X V Q i) ∧ Only b w wr)) (fun iv _ => k - (intOf iv).toNat)
  case atStart => exact ⟨0, by omega, rfl, by rw [HZ.out]; exact H0.out, only_refl _ _⟩
  case round =>
    obtain ⟨i, hi, rfl, HX⟩ := hrel
    by_cases hlt : i < k
    · obtain ⟨p, hp⟩ : ∃ p, p = a + i := ⟨_, rfl⟩
      obtain ⟨q, hq⟩ : ∃ q, q = d + i := ⟨_, rfl⟩
      have hpz : (a : Int) + (i : Int) = (p : Int) := by omega
      have hqz : (d : Int) + (i : Int) = (q : Int) := by omega
      have hpn : p < n := by omega
      have hqn : q < n := by omega
      have hpq : p ≠ q := by omega
      have hqp : q ≠ p := by omega
      have hl := HL.out i hi
      have hst := HS.out i hlt
      rw [← hp, ← hq] at hst
      have hsw := rowB_swap HX.out.1 p q (by rw [hl]; exact hpn) (by rw [hl]; exact hqn)
      have c1 := HX.out.1.cell p (by rw [hl]; exact hpn); have c2 := HX.out.1.cell q (by rw [hl]; exact hqn)
      have f1 := HX.out.1.free p (by rw [hl]; exact hpn); have f2 := HX.out.1.free q (by rw [hl]; exact hqn)
      rw [hst] at hsw
      generalize (swpK P U X V Q i).getD p 0 = x at *
      generalize (swpK P U X V Q i).getD q 0 = y at *
      have HSW := Lib.hid hsw
      clear hsw hst hl hp hq
      go_wp2_with fail
      go_region
      go_wp2_with fail
      go_roundw
      case rel => exact ⟨i + 1, by omega, by go_num, rowB_drew HSW.out, only_t HX.out.2 (only_t (only_t (only_set b p _ _) (only_set b q _ _)) (only_drew _ _))⟩
      case measure => simp [intOf] <;> omega
    · obtain rfl : i = k := by omega
      have HR := Lib.hid HX.out
      rw [HE.out] at HR
      clear HX
      go_wp2_with fail
      go_end0
      exact ⟨rfl, HR.out.1, HR.out.2⟩
end Go.Proofs.YtlcbdmmmafpchaaDoor
