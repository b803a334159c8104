/- ExchangeWord: buildOnce; the replacement of bytes. -/
import Derived.Test.YtkjmocdhhndlgaaGreatDoorD24
namespace Go.Proofs.YtkjmocdhhndlgaaGreatDoor
open Go.RowKit Go.BigFrame Go.Shelf
set_option linter.unusedSimpArgs false
set_option linter.unusedVariables false
set_option maxRecDepth 4000

def BuiltAt (w : World) (B D : Nat) : Prop := w.cell? ⟨B, 3, none⟩ = some (.iface 141 (.pointer (some ⟨D, 0, none⟩))) ∧ TabAt w D 50 49 256 ∧ D ≠ B
theorem tab_other {w : World} {D B i : Nat} {a b : Int} {k : Nat} {v : Value} (h : TabAt w D a b k) (hne : D ≠ B) : TabAt (w.setCell ⟨B, i, none⟩ v) D a b k := by
  obtain ⟨h1, h2, h3, h4⟩ := h
  have e : ∀ j, (w.setCell ⟨B, i, none⟩ v).cell? ⟨D, j, none⟩ = w.cell? ⟨D, j, none⟩ := fun j => World.cell?_setCell_other _ ⟨B, i, none⟩ ⟨D, j, none⟩ _ (by simp <;> omega)
  exact ⟨by simpa using h1, fun j hj => by rw [e]; exact h2 j hj, fun j hj => by rw [e]; exact h3 j hj, fun j => by simp; exact h4 j⟩
set_option maxHeartbeats 1000000 in
theorem buildOnce_is (w : World) (B g c b0 : Nat) (hb0 : b0 ≤ B) (h3 : w.cell? ⟨B, 4, none⟩ = some (.slice (some ⟨g, 0, none⟩) 4 c)) (x3 : Value) (hx3 : w.cell? ⟨B, 3, none⟩ = some x3) (hg : g < w.heap.size) (hB : B < w.heap.size)
    (hz : ∀ j, w.frozen? ⟨B, j, none⟩ = false)
    (c0 : w.cell? ⟨g, 0, none⟩ = some (.string ⟨#[49]⟩)) (c1 : w.cell? ⟨g, 1, none⟩ = some (.string ⟨#[50]⟩)) (c2 : w.cell? ⟨g, 2, none⟩ = some (.string ⟨#[50]⟩)) (c3 : w.cell? ⟨g, 3, none⟩ = some (.string ⟨#[49]⟩)) :
    Calls Tryz.prog 71 #[.pointer (some ⟨B, 0, none⟩)] w fun e w' => e = .returned (.tuple #[]) ∧ w'.cell? ⟨B, 0, none⟩ = w.cell? ⟨B, 0, none⟩ ∧ w'.cell? ⟨B, 1, none⟩ = w.cell? ⟨B, 1, none⟩ ∧ (∀ j, w'.frozen? ⟨B, j, none⟩ = false) ∧ BuiltAt w' B w.heap.size ∧ Below b0 w w' := by
  have HBU := Lib.hid (build_is w B g c h3 hg hB c0 c1 c2 c3)
  go_enter Tryz.func71, Tryz.ntmps71
  go_wp2_with fail
  refine HBU.out.mono ?_
  rintro e w2 ⟨rfl, hT, hb⟩
  have k0 : w2.cell? ⟨B, 0, none⟩ = w.cell? ⟨B, 0, none⟩ := hb.cell (p := ⟨B, 0, none⟩) hB
  have k1 : w2.cell? ⟨B, 1, none⟩ = w.cell? ⟨B, 1, none⟩ := hb.cell (p := ⟨B, 1, none⟩) hB
  have k3 : w2.cell? ⟨B, 3, none⟩ = some x3 := (hb.cell (p := ⟨B, 3, none⟩) hB).trans hx3
  have k4 : w2.cell? ⟨B, 4, none⟩ = some (.slice (some ⟨g, 0, none⟩) 4 c) := (hb.cell (p := ⟨B, 4, none⟩) hB).trans h3
  have kz : ∀ j, w2.frozen? ⟨B, j, none⟩ = false := fun j => by
    have := hz j
    unfold World.frozen? at this ⊢
    rw [hb.block B hB]; exact this
  have z3 := kz 3
  have z4 := kz 4
  have hB2 : B < w2.heap.size := Nat.lt_of_lt_of_le hB hb.size
  obtain ⟨D, hD⟩ : ∃ D, D = w.heap.size := ⟨_, rfl⟩
  have hDB : D ≠ B := by omega
  have HT := Lib.hid hT; have HK0 := Lib.hid k0; have HK1 := Lib.hid k1; have HKZ := Lib.hid kz; have HB := Lib.hid hb; have HZ := Lib.hid hz
  have hk4' : (w2.setCell ⟨B, 3, none⟩ (.iface 141 (.pointer (some ⟨D, 0, none⟩)))).cell? ⟨B, 4, none⟩ = some (.slice (some ⟨g, 0, none⟩) 4 c) := (World.cell?_setCell_other _ ⟨B, 3, none⟩ ⟨B, 4, none⟩ _ (by simp)).trans k4
  rw [← hD] at HT
  have HD := Lib.hid hD
  clear hT k0 k1 kz hb hz h3 hx3 c0 c1 c2 c3
  rw [← hD]
  clear hD
  go_wp2_with fail
  go_end0
  have hDD := HD.out
  clear HD
  subst hDD
  refine ⟨rfl, ?_, ?_, fun j => by simp; exact HKZ.out j, ⟨?_, tab_other (tab_other HT.out hDB) hDB, hDB⟩, ?_⟩
  · rw [World.cell?_setCell_other _ ⟨B, 4, none⟩ ⟨B, 0, none⟩ _ (by simp), World.cell?_setCell_other _ ⟨B, 3, none⟩ ⟨B, 0, none⟩ _ (by simp)]; exact HK0.out
  · rw [World.cell?_setCell_other _ ⟨B, 4, none⟩ ⟨B, 1, none⟩ _ (by simp), World.cell?_setCell_other _ ⟨B, 3, none⟩ ⟨B, 1, none⟩ _ (by simp)]; exact HK1.out
  · rw [World.cell?_setCell_other _ ⟨B, 4, none⟩ ⟨B, 3, none⟩ _ (by simp)]; exact World.cell?_setCell_same w2 ⟨B, 3, none⟩ _ k3
  · exact ((HB.out.mono (by omega)).setCell (p := ⟨B, 3, none⟩) hb0 _).setCell (p := ⟨B, 4, none⟩) hb0 _
theorem conv_cells {w : World} {g cap : Nat} {l : List UInt8} (hc : ∀ i (h : i < l.length), w.cell? ⟨g, i, none⟩ = some (.int .u8 ((l[i]).toNat : Int))) : (convert 22 9 (.slice (some ⟨g, 0, none⟩) l.length cap)).run Tryz.prog w = .ok (.string (bs l)) w := by
  have := run_convert_bytes_arg (P := Tryz.prog) w 22 5 Tryz.underlying22 Tryz.underlying5 g 0 l.length cap (l.map (fun c => (c.toNat : Int))) (by simp) (fun i hi => by
    rw [Nat.zero_add, hc i hi]
    simp [List.getD, hi]) 9 Tryz.underlying9
  rw [this]
  congr 2
  apply bs_eq
  rw [strOfNums_data, List.map_map]
  conv => rhs; rw [← List.map_id l]
  apply List.map_congr_left
  intro c _
  simp
def mixL (l : List UInt8) (i : Nat) : List UInt8 := xcL (l.take i) ++ l.drop i
theorem mix_len (l : List UInt8) (i : Nat) : (mixL l i).length = l.length := by unfold mixL; rw [List.length_append, xcL_len, List.length_take, List.length_drop]; omega
theorem mix_set (l : List UInt8) (i : Nat) (h : i < l.length) : (mixL l i).set i (xc l[i]) = mixL l (i + 1) := by
  unfold mixL
  have hl : (xcL (l.take i)).length = i := by rw [xcL_len, List.length_take]; omega
  rw [List.set_append_right _ _ (by rw [hl]; exact Nat.le_refl _), hl, Nat.sub_self, List.drop_eq_getElem_cons h, List.set_cons_zero, List.take_succ_eq_append_getElem h]
  unfold xcL
  rw [List.map_append, List.append_assoc]; rfl
theorem mix_all (l : List UInt8) : mixL l l.length = xcL l := by unfold mixL; rw [List.take_length, List.drop_length, List.append_nil]
theorem mix_zero (l : List UInt8) : mixL l 0 = l := by simp [mixL, xcL]
def Buf (w : World) (H : Nat) (M : List UInt8) : Prop := H < w.heap.size ∧ (∀ j (hj : j < M.length), w.cell? ⟨H, j, none⟩ = some (.int .u8 ((M[j]).toNat : Int))) ∧ ∀ j, j < M.length → w.frozen? ⟨H, j, none⟩ = false
theorem buf_set {w : World} {H i : Nat} {M : List UInt8} {c : UInt8} (h : Buf w H M) (hi : i < M.length) : Buf (w.setCell ⟨H, i, none⟩ (.int .u8 (c.toNat : Int))) H (M.set i c) := by
  obtain ⟨h1, h2, h3⟩ := h
  refine ⟨by simpa using h1, fun j hj => ?_, fun j hj => by simp; exact h3 j (by simpa using hj)⟩
  have hj2 : j < M.length := by rw [List.length_set] at hj; exact hj
  by_cases e : j = i
  · have hx := h2 i hi
    have h5 : (w.setCell ⟨H, i, none⟩ (.int .u8 (c.toNat : Int))).cell? ⟨H, j, none⟩ = some (.int .u8 (c.toNat : Int)) := by rw [e]; exact World.cell?_setCell_same w ⟨H, i, none⟩ _ hx
    rw [h5]; simp [e]
  · rw [World.cell?_setCell_other _ ⟨H, i, none⟩ ⟨H, j, none⟩ _ (by simp <;> omega), h2 j hj2]
    rw [List.getElem_set_ne (by omega)]
end Go.Proofs.YtkjmocdhhndlgaaGreatDoor
