/- Chapter 8: numbersBy: the numbers in the order of their number of letters. -/
import Derived.Test.YtlcbdmmmafpchaaDoorsi
namespace Go.Proofs.YtlcbdmmmafpchaaDoor
open Go.RowKit Go.BigFrame Go.Deep
set_option linter.unusedSimpArgs false
set_option linter.unusedVariables false
set_option maxRecDepth 4000


def keysI (C : Nat) : List Int := (List.range C).map fun i => -((ltN i).length : Int)
theorem keysI_get (C i : Nat) (h : i < C) : (keysI C).getD i 0 = -((ltN i).length : Int) := by simp [keysI, List.getD, h]
theorem NbS.keys_int {w W : World} {nb kk kb C : Nat} (h : NbS 29 (fun i => .int .i64 (-((ltN i).length : Int))) w nb kk kb C C W) : KeysI W kb kk C C (keysI C) :=
  ⟨h.cell.1, fun i hi => by rw [h.rowK i hi, keysI_get C i hi]⟩
set_option maxHeartbeats 8000000 in
theorem numbersByI_any (N C : Nat) (hC : C = N + 1) (hN : N ≤ 2000) (w : World) (NA : NamesAt w)
    (HT : ∀ (k : Nat) (W : World), k ≤ 2000 → NamesAt W → Calls Tryd.prog 85 #[.int .i64 (k : Int)] W fun e w' => e = .returned (.int .i64 (-((ltN k).length : Int))) ∧ Below W.heap.size W w') :
    Calls Tryd.prog 84 #[.int .i64 (N : Int), .func (.func 85) #[] #[]] w fun e w' => ∃ nb S, e = .returned (.slice (some ⟨nb, 0, none⟩) C C) ∧ Srt (ltLex ltI (fun x => (keysI C).getD x.toNat 0)) S ∧ S.Perm (numsI C) ∧ RowB w' nb S ∧ Below w.heap.size w w' := by
  have hCz : (N : Int) + 1 = (C : Int) := by omega
  have hC2 : C ≤ 2001 := by omega
  have hC1 : 1 ≤ C := by omega
  have HC := Lib.hid hC
  clear hC hN
  have HNA := Lib.hid NA
  obtain ⟨i1, hi1, hz1, hs1, hb1⟩ := info_parts (show (Tryd.prog.info? 3).map (fun i => (i.zero, i.size, i.bytes)) = some (some (.int .i64 0), 1, 8) by kernel_rfl)
  have h1 : ∀ W : World, (Instr.makeSlice 29 (.int .i64 0) (.int .i64 (C : Int))).run Tryd.prog W = .ok (.slice (some ⟨W.heap.size, 0, none⟩) 0 C) (W.alloc (.cells (madeCells (Value.int .i64 0).cells (C * 1)) 3)) := fun W => by
    have := make_run Tryd.underlying29 hi1 hz1 (by omega) C (by omega) W
    rwa [hs1] at this
  obtain ⟨Z1, hZ1⟩ : ∃ Z : Obj, Z = .cells (madeCells (Value.int .i64 0).cells (C * 1)) 3 := ⟨_, rfl⟩
  simp only [← hZ1] at h1
  have HZ1 := Lib.hid hZ1
  clear hZ1
  go_enter Tryd.func84, Tryd.ntmps84
  go_upto_region 1 with fail
  go_cut [5, 6] from 8 to 13 (fun nv kv wx => ∃ nb kk kb : Nat, nv = .slice (some ⟨nb, 0, none⟩) 0 C ∧ kv = .pointer (some ⟨kb, 0, none⟩) ∧ Hid (Made3 29 w wx C Z1 Z1 nb kk kb))
  case first =>
    go_region
    all_goals
      go_wp2_with fail
      go_meet
      (first
        | (obtain ⟨a1, a2, a3, a4⟩ := alloc3r w Z1 Z1 (.cells #[.slice (some ⟨w.heap.size + 1, 0, none⟩) 0 C] 29 (0, 0)) _ rfl
           exact ⟨_, w.heap.size + 1, _, rfl, rfl, by omega, by omega, by omega, by omega, by omega, by omega, a1, a2, a3, a4.drew⟩)
        | (obtain ⟨a1, a2, a3, a4⟩ := alloc3r w Z1 (.cells #[.slice (some ⟨w.heap.size + 1 + 1, 0, none⟩) 0 C] 29 (0, 0)) Z1 _ rfl
           exact ⟨_, w.heap.size + 1 + 1, _, rfl, rfl, by omega, by omega, by omega, by omega, by omega, by omega, a1, a3, a2, a4.drew⟩)
        | (obtain ⟨a1, a2, a3, a4⟩ := alloc3r w Z1 Z1 (.cells #[.slice (some ⟨w.heap.size, 0, none⟩) 0 C] 29 (0, 0)) _ rfl
           exact ⟨_, w.heap.size, _, rfl, rfl, by omega, by omega, by omega, by omega, by omega, by omega, a2, a1, a3, a4.drew⟩)
        | (obtain ⟨a1, a2, a3, a4⟩ := alloc3r w Z1 (.cells #[.slice (some ⟨w.heap.size, 0, none⟩) 0 C] 29 (0, 0)) Z1 _ rfl
           exact ⟨_, w.heap.size, _, rfl, rfl, by omega, by omega, by omega, by omega, by omega, by omega, a3, a1, a2, a4.drew⟩)
        | (obtain ⟨a1, a2, a3, a4⟩ := alloc3r w (.cells #[.slice (some ⟨w.heap.size + 1 + 1, 0, none⟩) 0 C] 29 (0, 0)) Z1 Z1 _ rfl
           exact ⟨_, w.heap.size + 1 + 1, _, rfl, rfl, by omega, by omega, by omega, by omega, by omega, by omega, a2, a3, a1, a4.drew⟩)
        | (obtain ⟨a1, a2, a3, a4⟩ := alloc3r w (.cells #[.slice (some ⟨w.heap.size + 1, 0, none⟩) 0 C] 29 (0, 0)) Z1 Z1 _ rfl
           exact ⟨_, w.heap.size + 1, _, rfl, rfl, by omega, by omega, by omega, by omega, by omega, by omega, a3, a2, a1, a4.drew⟩))
  case rest =>
    obtain ⟨nb, kk, kb, rfl, rfl, HM⟩ := hcut
    go_wp2_with fail
    go_loopw [5, 16] (fun nv iv wr => ∃ k : Nat, k ≤ C ∧ iv = .int .i64 (k : Int) ∧ nv = .slice (some ⟨nb, 0, none⟩) k C ∧ Hid (NbS 29 (fun i => .int .i64 (-((ltN i).length : Int))) w nb kk kb C k wr)) (fun _ iv _ => C - (intOf iv).toNat)
    case atStart => exact ⟨0, Nat.zero_le _, rfl, rfl, nbS_start rfl rfl (by rw [← HZ1.out]; exact HM.out.rn) (by rw [← HZ1.out]; exact HM.out.rk) HM.out.rv HM.out.below HM.out.hn HM.out.hk HM.out.hv HM.out.nk HM.out.nv HM.out.kv⟩
    case round =>
      obtain ⟨k, hk, rfl, rfl, HX⟩ := hrel
      by_cases hlt : k < C
      · have hx := HX.out
        have hvc := hx.cell.1
        have hvf := hx.cell.2
        have oN := hx.okN k hlt
        have oK := hx.okK k hlt
        have hR0 : RR nb kk k (.int .i64 (k : Int)) (.int .i64 (-((ltN k).length : Int))) wr false false wr.drew := (RR.start hx.ln hx.lk hx.nk).drew
        have hNAw : NamesAt wr := HNA.out.below hx.below
        have hkb1 : nb ≠ kb := hx.nv
        have hkb2 : kk ≠ kb := hx.kv
        have hlv := hx.lv
        have HTK := Lib.hid (fun (W : World) (h : NamesAt W) => HT k W (by omega) h)
        have HNAW := Lib.hid hNAw; have HON := Lib.hid oN; have HOK := Lib.hid oK
        have hk9 : k ≤ 2001 := by omega
        have HVAR := Lib.hid hx.var; have HBEL := Lib.hid hx.below
        have hgn := hx.hn; have hgk := hx.hk
        have hlnw := hx.ln; have hlkw := hx.lk
        have hRw : RL nb kk k (.int .i64 (k : Int)) (.int .i64 (-((ltN k).length : Int))) wr false false [] wr := ⟨RR.start hx.ln hx.lk hx.nk, fun e he => by cases he⟩
        have hRd := hRw.drew
        clear hx oN oK hNAw hR0
        go_wp2_with fail
        go_region_law (first
          | (go_simp; go_at_call 85; refine (HTK.out _ (HNA.out.below (RR.low (RL.rr (by first | assumption | exact RL.new (by assumption) _ _ | exact RL.new (RL.new (by assumption) _ _) _ _ | exact RL.drew (RL.new (by assumption) _ _) | exact RL.drew (RL.new (RL.new (by assumption) _ _) _ _))) HBEL.out hgn hgk))).mono ?_; rintro e w5 ⟨rfl, hb5⟩; have hR5 := RL.below (by first | assumption | exact RL.new (by assumption) _ _ | exact RL.new (RL.new (by assumption) _ _) _ _ | exact RL.drew (RL.new (by assumption) _ _) | exact RL.drew (RL.new (RL.new (by assumption) _ _) _ _)) hb5; obtain ⟨hcv5, hfv5⟩ := RR.sv hR5.rr HVAR.out hkb1 hkb2; have hlt5 := RR.lv hR5.rr HVAR.out; clear hb5)
          | (refine step_appN rfl (.tmp 19) (.tmp 21) rfl Tryd.underlying29 hi1 hs1 rfl (by first | assumption | exact RL.new (by assumption) _ _ | exact RL.new (RL.new (by assumption) _ _) _ _ | exact RL.drew (RL.new (by assumption) _ _) | exact RL.drew (RL.new (RL.new (by assumption) _ _) _ _)) HON.out (by omega) rfl rfl (by simp) ?_; intro w7 hR7; obtain ⟨hcv7, hfv7⟩ := RR.sv hR7.rr HVAR.out hkb1 hkb2; have hlt7 := RR.lv hR7.rr HVAR.out)
          | (refine step_appK rfl (.tmp 23) (.tmp 27) rfl Tryd.underlying29 hi1 hs1 rfl (by first | assumption | exact RL.new (by assumption) _ _ | exact RL.new (RL.new (by assumption) _ _) _ _ | exact RL.drew (RL.new (by assumption) _ _) | exact RL.drew (RL.new (RL.new (by assumption) _ _) _ _)) HOK.out (by omega) rfl rfl (by simp) ?_; intro w8 hR8; obtain ⟨hcv8, hfv8⟩ := RR.sv hR8.rr HVAR.out hkb1 hkb2; have hlt8 := RR.lv hR8.rr HVAR.out))
        all_goals
          go_wp2_with fail
          go_roundw
          case rel => exact ⟨k + 1, by omega, by go_num, rfl, NbS.next HX.out (RL.rr (by assumption))⟩
          case measure => simp [intOf] <;> omega
      · have hkC : C = k := by omega
        subst hkC
        have hx := HX.out
        have HS := Lib.hid (sortStable_any 104 #[.pointer (some ⟨kb, 0, none⟩)] (fun x => 0 ≤ x ∧ x < (C : Int)) (ltLex ltI (fun x => (keysI C).getD x.toNat 0)) (fun x y => cmpI ((keysI C).getD x.toNat 0) ((keysI C).getD y.toNat 0)) (ordI (fun x => (keysI C).getD x.toNat 0)) wr nb C C (numsI C) (numsI_len C).symm (by omega) (by omega) (Nat.le_refl _) (by unfold maxLen; omega) hx.row (numsI_inc C) (fun x hm => numsI_mem hm) (cmpAt_int hx.keys_int (by omega) hx.nv.symm hx.nk.symm))
        have hmf : ∀ (fn : Fn) (first cap : Array Value) (W : World), (Instr.makeFunc fn first cap).run Tryd.prog W = .ok (.func fn first cap) W := fun _ _ _ _ => rfl
        have HB0 := Lib.hid hx.below; have HN0 := Lib.hid hx.hn
        clear hx HX
        go_wp2_with fail
        refine HS.out.mono ?_
        rintro z w2 ⟨rfl, ⟨S, g1, g2, g3⟩, g4⟩
        have G1 := Lib.hid g1; have G2 := Lib.hid g2; have G3 := Lib.hid g3
        have HB2 := Lib.hid (HB0.out.trans (only_below g4 HN0.out))
        clear g1 g2 g3 g4
        go_wp2_with fail
        go_ret
        exact ⟨nb, S, rfl, G1.out, G2.out, G3.out, HB2.out⟩
end Go.Proofs.YtlcbdmmmafpchaaDoor
