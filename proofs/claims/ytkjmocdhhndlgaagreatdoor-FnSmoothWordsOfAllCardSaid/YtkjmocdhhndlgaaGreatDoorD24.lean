/- ExchangeWord: the table of a replacer of bytes. -/
import Derived.Test.YtkjmocdhhndlgaaGreatDoorD23
import Derived.Test.YtkjmocdhhndlgaaGreatDoorD4
namespace Go.Proofs.YtkjmocdhhndlgaaGreatDoor
open Go.RowKit Go.BigFrame Go.Shelf
set_option linter.unusedSimpArgs false
set_option linter.unusedVariables false
set_option maxRecDepth 4000

/-- The first k bytes of the table stand for themselves; but 50 and 49 for what is told. -/
def TabAt (w : World) (D : Nat) (x49 x50 : Int) (k : Nat) : Prop :=
  D < w.heap.size ∧ (∀ j, j < 256 → ∃ x, w.cell? ⟨D, j, none⟩ = some x) ∧ (∀ j : Nat, j < k → w.cell? ⟨D, j, none⟩ = some (.int .u8 (if j = 49 then x49 else if j = 50 then x50 else (j : Int)))) ∧ ∀ j, w.frozen? ⟨D, j, none⟩ = false
theorem tab_set {w : World} {D : Nat} {a b a' b' : Int} {k k' i : Nat} {v : Value} (h : TabAt w D a b k) (hi : i < 256) (hk : ∀ j : Nat, j < k' → (if j = i then v = .int .u8 (if j = 49 then a' else if j = 50 then b' else (j : Int)) else j < k ∧ (if j = 49 then a' else if j = 50 then b' else (j : Int)) = (if j = 49 then a else if j = 50 then b else (j : Int)))) :
    TabAt (w.setCell ⟨D, i, none⟩ v) D a' b' k' := by
  obtain ⟨h1, h2, h3, h4⟩ := h
  obtain ⟨x0, hx0⟩ := h2 i hi
  refine ⟨by simpa using h1, fun j hj => ?_, fun j hj => ?_, fun j => by simp; exact h4 j⟩
  · by_cases e : j = i
    · subst e; exact ⟨v, World.cell?_setCell_same w _ _ hx0⟩
    · obtain ⟨x, hx⟩ := h2 j hj
      exact ⟨x, (World.cell?_setCell_other _ ⟨D, i, none⟩ ⟨D, j, none⟩ _ (by simp <;> omega)).trans hx⟩
  · have := hk j hj
    by_cases e : j = i
    · rw [if_pos e] at this
      subst e; rw [World.cell?_setCell_same w _ _ hx0, this]
    · rw [if_neg e] at this
      rw [World.cell?_setCell_other _ ⟨D, i, none⟩ ⟨D, j, none⟩ _ (by simp <;> omega), h3 j this.1, this.2]

set_option maxHeartbeats 1000000 in
theorem build_is (w : World) (B g c : Nat) (h3 : w.cell? ⟨B, 4, none⟩ = some (.slice (some ⟨g, 0, none⟩) 4 c)) (hg : g < w.heap.size) (hB : B < w.heap.size)
    (c0 : w.cell? ⟨g, 0, none⟩ = some (.string ⟨#[49]⟩)) (c1 : w.cell? ⟨g, 1, none⟩ = some (.string ⟨#[50]⟩)) (c2 : w.cell? ⟨g, 2, none⟩ = some (.string ⟨#[50]⟩)) (c3 : w.cell? ⟨g, 3, none⟩ = some (.string ⟨#[49]⟩)) :
    Calls Tryz.prog 102 #[.pointer (some ⟨B, 0, none⟩)] w fun e w' => e = .returned (.iface 141 (.pointer (some ⟨w.heap.size, 0, none⟩))) ∧ TabAt w' w.heap.size 50 49 256 ∧ Below w.heap.size w w' := by
  go_enter Tryz.func102, Tryz.ntmps102
  go_wp2_with fail
  refine wp_loop_rounds 3 ?_
  rw [rounds_succ]
  go_wp2_with fail
  rw [rounds_succ]
  go_wp2_with fail
  rw [rounds_succ]
  have hst : (Tryz.prog.info? 140).map (·.size) = some Tryz.zeroCells140.size := by kernel_rfl
  have hZ1 : Tryz.zeroCells140.all (·.oneCell') = true := by kernel_rfl
  have hhn : (w.alloc (.cells Tryz.zeroCells140 140)).heap[w.heap.size]? = some (.cells Tryz.zeroCells140 140 (0, 0)) := heap_alloc_new w _
  go_wp2_with (refine wpList_store_row rfl 140 _ _ rfl w.heap.size Tryz.zeroCells140 rfl rfl 140 Tryz.zeroCells140 hhn hst rfl hZ1 ?_; rw [setRow_id _ _ _ _ _ hhn])
  go_loopw [61] (fun iv wr => ∃ k : Nat, iv = .int .i64 (k : Int) ∧ k ≤ 256 ∧ Hid (TabAt wr w.heap.size 49 50 k ∧ Below w.heap.size w wr)) (fun iv _ => 256 - (intOf iv).toNat)
  case atStart =>
    refine ⟨0, rfl, by omega, ⟨by simp, fun j hj => ?_, fun j hj => by omega, fun j => ?_⟩, below_alloc _ _⟩
    · have hzs : Tryz.zeroCells140.size = 256 := by kernel_rfl
      exact ⟨Tryz.zeroCells140[j]'(by rw [hzs]; exact hj), by unfold World.cell?; simp only [hhn]; exact Array.getElem?_eq_getElem _⟩
    · unfold World.frozen?; simp only [hhn]; simp
  case round =>
    obtain ⟨k, rfl, hk, HX⟩ := hrel
    by_cases hlt : k < 256
    · obtain ⟨x, hx⟩ := HX.out.1.2.1 k hlt
      have hz := HX.out.1.2.2.2 k
      have hDl := HX.out.1.1
      have hkm : ((k : Int) % 256) = (k : Int) := by omega
      have hnew := tab_set (v := .int .u8 (k : Int)) (a' := 49) (b' := 50) (k' := k + 1) HX.out.1 hlt (fun j hj => by
        split
        · rename_i e; subst e
          split
          · rename_i e2; rw [e2]; rfl
          · split
            · rename_i e2; rw [e2]; rfl
            · rfl
        · exact ⟨by omega, rfl⟩)
      have HN := Lib.hid hnew; clear hnew
      go_wp2_with fail
      go_roundw
      case rel => exact ⟨k + 1, by go_num, by omega, HN.out, HX.out.2.setCell (p := ⟨w.heap.size, k, none⟩) (Nat.le_refl _) _⟩
      case measure => simp [intOf] <;> omega
    · obtain rfl : k = 256 := by omega
      have d0 : wr.cell? ⟨g, 0, none⟩ = some (.string ⟨#[49]⟩) := (HX.out.2.cell (p := ⟨g, 0, none⟩) hg).trans c0
      have d1 : wr.cell? ⟨g, 1, none⟩ = some (.string ⟨#[50]⟩) := (HX.out.2.cell (p := ⟨g, 1, none⟩) hg).trans c1
      have d2 : wr.cell? ⟨g, 2, none⟩ = some (.string ⟨#[50]⟩) := (HX.out.2.cell (p := ⟨g, 2, none⟩) hg).trans c2
      have d3 : wr.cell? ⟨g, 3, none⟩ = some (.string ⟨#[49]⟩) := (HX.out.2.cell (p := ⟨g, 3, none⟩) hg).trans c3
      obtain ⟨x50, h50⟩ := HX.out.1.2.1 50 (by omega)
      obtain ⟨x49, h49⟩ := HX.out.1.2.1 49 (by omega)
      have f50 := HX.out.1.2.2.2 50
      have f49 := HX.out.1.2.2.2 49
      have hDl := HX.out.1.1
      have hgl : g < wr.heap.size := by omega
      have e50 : ∀ h, ((⟨#[50]⟩ : ByteArray)[0]'h).toNat = 50 := fun _ => rfl
      have e49 : ∀ h, ((⟨#[49]⟩ : ByteArray)[0]'h).toNat = 49 := fun _ => rfl
      have hne : w.heap.size ≠ g := by omega
      have T1 := tab_set (v := .int .u8 49) (a' := 49) (b' := 49) (k' := 256) HX.out.1 (i := 50) (by omega) (fun j hj => by
        split
        · rename_i e; subst e; rfl
        · rename_i e; refine ⟨hj, ?_⟩; simp [e])
      have T2 := tab_set (v := .int .u8 50) (a' := 50) (b' := 49) (k' := 256) T1 (i := 49) (by omega) (fun j hj => by
        split
        · rename_i e; subst e; rfl
        · rename_i e; refine ⟨hj, ?_⟩; simp [e])
      have HT2 := Lib.hid T2
      have HBB := Lib.hid ((HX.out.2.setCell (p := ⟨w.heap.size, 50, none⟩) (Nat.le_refl _) (.int .u8 49)).setCell (p := ⟨w.heap.size, 49, none⟩) (Nat.le_refl _) (.int .u8 50))
      obtain ⟨y49, k49⟩ := T1.2.1 49 (by omega)
      have p0 : (wr.setCell ⟨w.heap.size, 50, none⟩ (.int .u8 49)).cell? ⟨g, 0, none⟩ = some (.string ⟨#[49]⟩) := (World.cell?_setCell_other _ ⟨w.heap.size, 50, none⟩ ⟨g, 0, none⟩ _ (by simp [hne])).trans d0
      have p1 : (wr.setCell ⟨w.heap.size, 50, none⟩ (.int .u8 49)).cell? ⟨g, 1, none⟩ = some (.string ⟨#[50]⟩) := (World.cell?_setCell_other _ ⟨w.heap.size, 50, none⟩ ⟨g, 1, none⟩ _ (by simp [hne])).trans d1
      clear T1 T2
      go_wp2_with fail
      refine wp_loop_rounds 3 ?_
      rw [rounds_succ]
      go_wp2_with fail
      rw [rounds_succ]
      go_wp2_with fail
      rw [rounds_succ]
      go_wp2_with fail
      go_ret
      exact ⟨rfl, HT2.out, HBB.out⟩
end Go.Proofs.YtkjmocdhhndlgaaGreatDoor
