/- ExchangeWord: the replacement of bytes. -/
import Derived.Test.YtkjmocdhhndlgaaGreatDoorD25
import Derived.WalkSpells
namespace Go.Proofs.YtkjmocdhhndlgaaGreatDoor
open Go.RowKit Go.BigFrame Go.Shelf
set_option linter.unusedSimpArgs false
set_option linter.unusedVariables false
set_option maxRecDepth 4000

set_option maxHeartbeats 1000000 in
theorem bytesRep_is (l : List UInt8) (w : World) (D : Nat) (hl : lowB l = true) (hT : TabAt w D 50 49 256) :
    Calls Tryz.prog 204 #[.pointer (some ⟨D, 0, none⟩), .string (bs l)] w fun e w' => e = .returned (.string (bs (xcL l))) ∧ Below w.heap.size w w' := by
  have hl60 : l.length ≤ 60 := by unfold lowB at hl; simp only [Bool.and_eq_true, decide_eq_true_eq] at hl; exact hl.1
  have hon : l.all onB = true := by unfold lowB at hl; simp only [Bool.and_eq_true] at hl; exact hl.2
  obtain ⟨L, hL⟩ : ∃ L, L = l.length := ⟨_, rfl⟩
  have hz : (bs l).size = L := by rw [bs_size, hL]
  have hL60 : L ≤ 60 := by omega
  have HL := Lib.hid hL; have HON := Lib.hid hon; have HT := Lib.hid hT
  have hDw : D < w.heap.size := hT.1
  have hen : ∀ (a : Option Addr) (n c : Nat) (W : World), (binOp .eql 22 (.slice a n c) (.slice none 0 0)).run Tryz.prog W = .ok (.bool a.isNone) W := fun a n c W => by apply Go.Lib.run_eql_slice_nil; exact Tryz.underlying22
  clear hL hon hl hT hl60
  go_enter Tryz.func204, Tryz.ntmps204
  go_wp2_with fail
  go_loopw [5, 6] (fun v iv wr => ∃ i : Nat, iv = .int .i64 (i : Int) ∧ i ≤ L ∧ Hid (Below w.heap.size w wr) ∧ ((i = 0 ∧ v = .slice none 0 0) ∨ ∃ (H cap : Nat), v = .slice (some ⟨H, 0, none⟩) L cap ∧ L ≤ cap ∧ cap ≤ 9223372036854775807 ∧ Hid (w.heap.size ≤ H ∧ 0 < i ∧ Buf wr H (mixL l i)))) (fun _ iv _ => L - (intOf iv).toNat)
  case atStart => exact ⟨0, rfl, Nat.zero_le _, below_refl _, .inl ⟨rfl, rfl⟩⟩
  case round =>
    obtain ⟨i, rfl, hi, HB, HC⟩ := hrel
    by_cases hlt : i < L
    · have hil : i < l.length := by rw [← HL.out]; exact hlt
      have hib : i < (bs l).size := by rw [bs_size]; exact hil
      have hc12 := on_at HON.out i hil
      have hDr : D < wr.heap.size := Nat.lt_of_lt_of_le hDw HB.out.size
      obtain ⟨x, hxb, hx12, hxc⟩ : ∃ x : Nat, ((bs l)[i]'hib).toNat = x ∧ (x = 49 ∨ x = 50) ∧ (xc (l[i]'hil)).toNat = 99 - x := by
        have e : (bs l)[i]'hib = l[i]'hil := rfl
        rw [e]
        rcases hc12 with h | h
        · exact ⟨49, by rw [h]; rfl, .inl rfl, by rw [h]; rfl⟩
        · exact ⟨50, by rw [h]; rfl, .inr rfl, by rw [h]; rfl⟩
      have htab : wr.cell? ⟨D, x, none⟩ = some (.int .u8 ((99 - x : Nat) : Int)) := by
        rw [HB.out.cell (p := ⟨D, x, none⟩) hDw, HT.out.2.2.1 x (by omega)]
        rcases hx12 with rfl | rfl <;> rfl
      obtain ⟨y, hy⟩ : ∃ y, y = 99 - x := ⟨_, rfl⟩
      rw [← hy] at htab hxc
      have hyx : ((y : Int) == (x : Int)) = false := by simp; omega
      have hx256 : x < 256 := by omega
      have HXC := Lib.hid hxc
      have HY := Lib.hid hy
      clear hxc hc12 hy
      rcases HC with ⟨hi0, rfl⟩ | ⟨H, cap, rfl, hLc, hcm, HU⟩
      · subst hi0
        go_wp2_with (refine wpList_bytes _ rfl 9 22 _ rfl 5 Tryz.underlying9 Tryz.underlying22 Tryz.underlying5 (bs l) rfl (by unfold maxLen; omega) ?_; intro w1 cap hb hsz hcap hcm hcell hfr; have htab1 : w1.cell? ⟨D, x, none⟩ = some (.int .u8 (y : Int)) := (hb.cell (p := ⟨D, x, none⟩) hDr).trans htab; have hb0 := hcell 0 hib; have hf0 := hfr 0 (by omega); have hDr1 : D < w1.heap.size := Nat.lt_of_lt_of_le hDr hb.size; have hHw : wr.heap.size < w1.heap.size := hsz)
        have HCE := Lib.hid hcell; have HFR := Lib.hid hfr; have HB1 := Lib.hid hb
        unfold maxLen at hcm
        clear hcell hfr hb
        go_roundw
        case rel =>
          have hbuf : Buf w1 wr.heap.size (mixL l 0) := by
            rw [mix_zero]
            exact ⟨hHw, fun j hj => HCE.out j (by rw [bs_size]; exact hj), fun j hj => HFR.out j (by rw [hz] at hcap; have := HL.out; omega)⟩
          refine ⟨1, by go_num, by omega, (below_trans HB.out HB1.out).setCell (p := ⟨wr.heap.size, 0, none⟩) HB.out.size _, .inr ⟨wr.heap.size, cap, rfl, by omega, by omega, HB.out.size, by omega, ?_⟩⟩
          rw [← mix_set l 0 hil, show (.int .u8 (y : Int) : Value) = .int .u8 ((xc (l[0]'hil)).toNat : Int) by rw [HXC.out]]
          exact buf_set hbuf (by rw [mix_len]; exact hil)
        case measure => simp [intOf] <;> omega
      · have hbc := HU.out.2.2.2.1 i (by rw [mix_len]; exact hil)
        have hbz := HU.out.2.2.2.2 i (by rw [mix_len]; exact hil)
        have hHl := HU.out.2.2.1
        go_wp2_with fail
        go_roundw
        case rel =>
          refine ⟨i + 1, by go_num, by omega, HB.out.setCell (p := ⟨H, i, none⟩) HU.out.1 _, .inr ⟨H, cap, rfl, hLc, hcm, HU.out.1, by omega, ?_⟩⟩
          rw [← mix_set l i hil, show (.int .u8 (y : Int) : Value) = .int .u8 ((xc (l[i]'hil)).toNat : Int) by rw [HXC.out]]
          exact buf_set HU.out.2.2 (by rw [mix_len]; exact hil)
        case measure => simp [intOf] <;> omega
    · obtain rfl : i = L := by omega
      rcases HC with ⟨hi0, rfl⟩ | ⟨H, cap, rfl, hLc, hcm, HU⟩
      · subst hi0
        have hl0 : l = [] := List.eq_nil_of_length_eq_zero HL.out.symm
        have H0 := Lib.hid hl0; clear hl0
        go_wp2_with fail
        go_ret
        exact ⟨ret_str (by rw [H0.out]; rfl), HB.out⟩
      · have hcv := conv_cells (w := wr) (g := H) (cap := cap) (l := xcL l) (fun j hj => by
          have h := HU.out.2.2.2.1
          rw [HL.out, mix_all] at h
          exact h j hj)
        rw [xcL_len, ← HL.out] at hcv
        go_wp2_with fail
        go_ret
        exact ⟨rfl, HB.out⟩
end Go.Proofs.YtkjmocdhhndlgaaGreatDoor
