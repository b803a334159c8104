/- ExchangeWord: NewReplacer, Replace, the program's, the law. -/
import Derived.Test.YtkjmocdhhndlgaaGreatDoorD26
namespace Go.Proofs.YtkjmocdhhndlgaaGreatDoor
open Go.RowKit Go.BigFrame Go.Shelf
set_option linter.unusedSimpArgs false
set_option linter.unusedVariables false
set_option maxRecDepth 4000

theorem add_plainR (b o r : Nat) : (⟨b, o, none⟩ : Addr).add r = ⟨b, o + r, none⟩ := by
  unfold Addr.add
  split
  · subst_vars; rfl
  · rfl
theorem newR_is (w : World) (g c : Nat) (hg : g < w.heap.size)
    (c0 : w.cell? ⟨g, 0, none⟩ = some (.string ⟨#[49]⟩)) (c1 : w.cell? ⟨g, 1, none⟩ = some (.string ⟨#[50]⟩)) (c2 : w.cell? ⟨g, 2, none⟩ = some (.string ⟨#[50]⟩)) (c3 : w.cell? ⟨g, 3, none⟩ = some (.string ⟨#[49]⟩)) :
    Calls Tryz.prog 36 #[.slice (some ⟨g, 0, none⟩) 4 c] w fun e w' => ∃ B h k, e = .returned (.pointer (some ⟨B, 0, none⟩)) ∧ w.heap.size ≤ B ∧ B < w'.heap.size ∧ w.heap.size ≤ h ∧ h < w'.heap.size ∧ (∀ j, w'.frozen? ⟨B, j, none⟩ = false) ∧
      w'.cell? ⟨B, 0, none⟩ = some (.int .u32 0) ∧ w'.cell? ⟨B, 1, none⟩ = some (.int .i32 0) ∧ w'.cell? ⟨B, 3, none⟩ = some .nilIface ∧ w'.cell? ⟨B, 4, none⟩ = some (.slice (some ⟨h, 0, none⟩) 4 k) ∧
      w'.cell? ⟨h, 0, none⟩ = some (.string ⟨#[49]⟩) ∧ w'.cell? ⟨h, 1, none⟩ = some (.string ⟨#[50]⟩) ∧ w'.cell? ⟨h, 2, none⟩ = some (.string ⟨#[50]⟩) ∧ w'.cell? ⟨h, 3, none⟩ = some (.string ⟨#[49]⟩) ∧ Below w.heap.size w w' := by
  obtain ⟨i0, hi, hz0, hz1, hz2⟩ := info_strD
  have HC0 := Lib.hid c0; have HC1 := Lib.hid c1; have HC2 := Lib.hid c2; have HC3 := Lib.hid c3
  clear c0 c1 c2 c3
  go_enter Tryz.func36, Tryz.ntmps36
  go_wp2_with (refine wpList_app _ rfl (.const (.slice none 0 0)) (.tmp 8) 29 rfl w.heap.size 9 i0 (.string ⟨#[]⟩) 16 Tryz.underlying29 hi hz0 hz1 hz2 rfl _ 0 [] rfl (World.ownsRow_nil _ _ _ _) ⟨g, 0, none⟩ 4 c [.string ⟨#[49]⟩, .string ⟨#[50]⟩, .string ⟨#[50]⟩, .string ⟨#[49]⟩] rfl rfl ?c1 ?c2 ?c3 ?c4 ?c5 ?_)
  case c1 =>
    intro j u hj
    rw [add_plainR, Nat.zero_add]
    match j, hj with
    | 0, hj => simp at hj; subst hj; exact HC0.out
    | 1, hj => simp at hj; subst hj; exact HC1.out
    | 2, hj => simp at hj; subst hj; exact HC2.out
    | 3, hj => simp at hj; subst hj; exact HC3.out
    | j + 4, hj => simp at hj
  case c2 => intro u hu; simp at hu; rcases hu with rfl | rfl | rfl <;> rfl
  case c3 => unfold maxLen; omega
  case c4 => omega
  case c5 => exact Nat.le_refl _
  intro v' w1 hown hgr _
  have hb : Below w.heap.size w w1 := (Below.refl w.heap.size w).grown hgr (Nat.le_refl _) (fun k h => by cases h)
  rcases own_open hown with ⟨_, h0, _⟩ | ⟨h, cap, rfl, hBh, hh, hnc, hcm, _, hce, hfz⟩
  · omega
  have HB := Lib.hid hb; have HCE := Lib.hid hce
  clear hown hgr hb hce hfz
  go_wp2_with fail
  go_ret
  have hw0 := HB.out.size
  have hcell : ∀ j, (w1.alloc (.cells #[.int .u32 0, .int .i32 0, .int .u32 0, .nilIface, .slice (some ⟨h, 0, none⟩) 4 cap] 90)).cell? ⟨h, j, none⟩ = w1.cell? ⟨h, j, none⟩ := fun j => (below_alloc w1 _).cell (p := ⟨h, j, none⟩) hh
  refine ⟨w1.heap.size, h, cap, rfl, hw0, by simp, hBh, by simp; omega, fun j => by simp [go_sem], by simp [go_sem], by simp [go_sem], by simp [go_sem], by simp [go_sem], ?_, ?_, ?_, ?_, HB.out.alloc hw0 _⟩
  · rw [hcell]; exact HCE.out 0 (by simp)
  · rw [hcell]; exact HCE.out 1 (by simp)
  · rw [hcell]; exact HCE.out 2 (by simp)
  · rw [hcell]; exact HCE.out 3 (by simp)
set_option maxHeartbeats 1000000 in
theorem replace_is (l : List UInt8) (w : World) (B h k b0 : Nat) (hl : lowB l = true) (hb0 : b0 ≤ B) (hB : B < w.heap.size) (hh : h < w.heap.size) (hz : ∀ j, w.frozen? ⟨B, j, none⟩ = false)
    (k0 : w.cell? ⟨B, 0, none⟩ = some (.int .u32 0)) (k1 : w.cell? ⟨B, 1, none⟩ = some (.int .i32 0)) (k3 : w.cell? ⟨B, 3, none⟩ = some .nilIface) (k4 : w.cell? ⟨B, 4, none⟩ = some (.slice (some ⟨h, 0, none⟩) 4 k)) (hne : h ≠ B)
    (c0 : w.cell? ⟨h, 0, none⟩ = some (.string ⟨#[49]⟩)) (c1 : w.cell? ⟨h, 1, none⟩ = some (.string ⟨#[50]⟩)) (c2 : w.cell? ⟨h, 2, none⟩ = some (.string ⟨#[50]⟩)) (c3 : w.cell? ⟨h, 3, none⟩ = some (.string ⟨#[49]⟩)) :
    Calls Tryz.prog 37 #[.pointer (some ⟨B, 0, none⟩), .string (bs l)] w fun e w' => e = .returned (.string (bs (xcL l))) ∧ Below b0 w w' := by
  have o : ∀ (q j : Nat), q ≠ B ∨ j ≠ 1 → (w.setCell ⟨B, 1, none⟩ (.int .i32 1)).cell? ⟨q, j, none⟩ = w.cell? ⟨q, j, none⟩ := fun q j hq => World.cell?_setCell_other _ ⟨B, 1, none⟩ ⟨q, j, none⟩ _ (by simp; omega)
  have hF := buildOnce_is (w.setCell ⟨B, 1, none⟩ (.int .i32 1)) B h k b0 hb0 (by rw [o _ _ (.inr (by omega))]; exact k4) .nilIface (by rw [o _ _ (.inr (by omega))]; exact k3) (by simpa using hh) (by simpa using hB) (fun j => by simp; exact hz j)
    (by rw [o _ _ (.inl hne)]; exact c0) (by rw [o _ _ (.inl hne)]; exact c1) (by rw [o _ _ (.inl hne)]; exact c2) (by rw [o _ _ (.inl hne)]; exact c3)
  have HDO := Lib.hid (onceDo_is w B 71 (fun W => BuiltAt W B w.heap.size ∧ Below b0 w W) k0 k1 (hz 1) (by intro W; exact Go.MuLone.run_callFunc_enter Tryz.func71 (by kernel_rfl) rfl _ W) (hF.mono (by
    rintro e w2 ⟨rfl, r0, r1, rz, rb, rl⟩
    refine ⟨rfl, ?_, ?_, rz 0, rz 1, by simpa using rb, ((Below.refl b0 w).setCell (p := ⟨B, 1, none⟩) hb0 _).trans rl⟩
    · rw [r0, o _ _ (.inr (by omega))]; exact k0
    · rw [r1]; exact World.cell?_setCell_same w ⟨B, 1, none⟩ _ k1)))
  have hm : ∀ (D : Nat) (W : World), (method 314 141 (.pointer (some ⟨D, 0, none⟩)) "Replace").run Tryz.prog W = .ok (204, .pointer (some ⟨D, 0, none⟩)) W := fun D W => by kernel_rfl
  have HL := Lib.hid hl
  clear hF o c0 c1 c2 c3 k0 k1 k3 k4 hz hl
  go_enter Tryz.func37, Tryz.ntmps37
  go_wp2_with fail
  refine HDO.out.mono ?_
  rintro e w1 ⟨rfl, w2, n, ⟨⟨r3, rT, rne⟩, rl⟩, rfl⟩
  have q3 : (((w2.drewN n).setCell ⟨B, 0, none⟩ (.int .u32 1)).setCell ⟨B, 1, none⟩ (.int .i32 0)).cell? ⟨B, 3, none⟩ = some (.iface 141 (.pointer (some ⟨w.heap.size, 0, none⟩))) := by
    rw [World.cell?_setCell_other _ ⟨B, 1, none⟩ ⟨B, 3, none⟩ _ (by simp), World.cell?_setCell_other _ ⟨B, 0, none⟩ ⟨B, 3, none⟩ _ (by simp)]; exact r3
  have qT : TabAt (((w2.drewN n).setCell ⟨B, 0, none⟩ (.int .u32 1)).setCell ⟨B, 1, none⟩ (.int .i32 0)) w.heap.size 50 49 256 := tab_other (tab_other (w := w2.drewN n) rT rne) rne
  have qb : Below b0 w (((w2.drewN n).setCell ⟨B, 0, none⟩ (.int .u32 1)).setCell ⟨B, 1, none⟩ (.int .i32 0)) := ((rl.trans (belowN b0 w2 n)).setCell (p := ⟨B, 0, none⟩) hb0 _).setCell (p := ⟨B, 1, none⟩) hb0 _
  generalize ((w2.drewN n).setCell ⟨B, 0, none⟩ (.int .u32 1)).setCell ⟨B, 1, none⟩ (.int .i32 0) = W at *
  have hbw : b0 ≤ W.heap.size := by have := qb.size; omega
  have HRep := Lib.hid (bytesRep_is l W w.heap.size HL.out qT)
  have QB := Lib.hid qb
  clear qT qb r3 rT rl
  go_wp2_with fail
  refine HRep.out.mono ?_
  rintro e w3 ⟨rfl, hb3⟩
  have HB3 := Lib.hid hb3; clear hb3
  go_wp2_with fail
  go_ret
  exact ⟨rfl, QB.out.trans (HB3.out.mono hbw)⟩
set_option maxHeartbeats 1000000 in
theorem implExchangeWord_any (l : List UInt8) (w : World) (hs : l.length ≤ maxLen) :
    Calls Tryz.prog 11 #[.string (bs l)] w fun e w' => e = .returned (strOk (exO l)) ∧ Below w.heap.size w w' := by
  have hlo := isLow_any (bs l) w (by rw [bs_size]; exact hs)
  rw [bs_list] at hlo
  have HLO := Lib.hid hlo; clear hlo hs
  cases h : lowB l with
  | false =>
    rw [show exO l = none by unfold exO; rw [h]; rfl]
    rw [h] at HLO
    clear h
    go_enter Tryz.func11, Tryz.ntmps11
    go_wp2_with fail
    refine HLO.out.mono ?_
    rintro e w1 ⟨rfl, hb⟩
    have HB := Lib.hid hb; clear hb
    go_wp2_with fail
    go_ret2
    exact ⟨rfl, HB.out⟩
  | true =>
    rw [show exO l = some (xcL l) by unfold exO; rw [h]; rfl]
    rw [h] at HLO
    have HH := Lib.hid h; clear h
    go_enter Tryz.func11, Tryz.ntmps11
    go_wp2_with fail
    refine HLO.out.mono ?_
    rintro e w1 ⟨rfl, hb⟩
    have HB := Lib.hid hb; clear hb
    go_wp2_with fail
    refine (newR_is _ w1.heap.size 4 (by simp) (by simp [go_sem]) (by simp [go_sem]) (by simp [go_sem]) (by simp [go_sem])).mono ?_
    rintro e w2 ⟨B, h, k, rfl, hwB, hB, hwh, hh, hz, k0, k1, k3, k4, c0, c1, c2, c3, hb⟩
    have hbw : Below w1.heap.size w1 w2 := (below_alloc w1 _).trans (hb.mono (by simp))
    have hne : h ≠ B := by
      intro e; subst e; rw [c0] at k0; cases k0
    have HREP := Lib.hid (replace_is l w2 B h k w1.heap.size HH.out (by simp at hwB; omega) hB hh hz k0 k1 k3 k4 hne c0 c1 c2 c3)
    have HBW := Lib.hid hbw
    clear hwB hB hwh hh hz k0 k1 k3 k4 c0 c1 c2 c3 hb hbw hne
    go_wp2_with fail
    refine HREP.out.mono ?_
    rintro e w3 ⟨rfl, hb3⟩
    have HB3 := Lib.hid hb3; clear hb3
    go_wp2_with fail
    go_ret2
    exact ⟨rfl, below_trans HB.out (HBW.out.trans HB3.out)⟩
end Go.Proofs.YtkjmocdhhndlgaaGreatDoor
