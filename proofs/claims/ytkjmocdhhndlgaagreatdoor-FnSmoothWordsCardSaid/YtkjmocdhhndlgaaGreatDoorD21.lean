/- ExchangeWord: the model's. -/
import Derived.Test.YtkjmocdhhndlgaaGreatDoorD10
import Derived.Test.YtkjmocdhhndlgaaGreatDoorMA
namespace Go.Proofs.YtkjmocdhhndlgaaGreatDoor
open Go.RowKit Go.BigFrame Go.Shelf
set_option linter.unusedSimpArgs false
set_option linter.unusedVariables false
set_option maxRecDepth 4000

def xc (c : UInt8) : UInt8 := if c = 49 then 50 else 49
def xcL (l : List UInt8) : List UInt8 := l.map xc
def exO (l : List UInt8) : Option (List UInt8) := if lowB l = true then some (xcL l) else none
theorem xcL_len (l : List UInt8) : (xcL l).length = l.length := by simp [xcL]
theorem on_at {l : List UInt8} (h : l.all onB = true) (k : Nat) (hk : k < l.length) : l[k] = 49 ∨ l[k] = 50 := by
  have h2 := List.all_eq_true.1 h _ (List.getElem_mem hk)
  unfold onB at h2
  simpa [Bool.or_eq_true, beq_iff_eq] using h2
set_option maxHeartbeats 1000000 in
theorem ruExchange_any (l : List UInt8) (w : World) (h : lowB l = true) :
    Calls Tryz.prog 38 #[.string (bs l)] w fun e w' => e = .returned (.string (bs (xcL l))) ∧ Below w.heap.size w w' := by
  have hl60 : l.length ≤ 60 := by unfold lowB at h; simp only [Bool.and_eq_true, decide_eq_true_eq] at h; exact h.1
  have hon : l.all onB = true := by unfold lowB at h; simp only [Bool.and_eq_true] at h; exact h.2
  have hn1 := fun (W : World) => l1Num_any 1 1 W (by decide) (by decide) (by decide)
  have hn2 := fun (W : World) => l1Num_any 2 2 W (by decide) (by decide) (by decide)
  rw [show numL (Int.toNat 1) = [49] by rw [show Int.toNat 1 = 1 from rfl, numL_one 1 (by omega)]; rfl] at hn1
  rw [show numL (Int.toNat 2) = [50] by rw [show Int.toNat 2 = 2 from rfl, numL_one 2 (by omega)]; rfl] at hn2
  have hnum : ∀ (x : Int) (W : World), (x = 1 ∨ x = 2) → Calls Tryz.prog 72 #[.int .i64 x] W fun e w' => e = .returned (.string (bs [UInt8.ofNat (48 + x.toNat)])) ∧ Below W.heap.size W w' := by
    rintro x W (rfl | rfl)
    · exact hn1 W
    · exact hn2 W
  obtain ⟨L, hL⟩ : ∃ L, L = l.length := ⟨_, rfl⟩
  have hsz : (bs l).size = L := by rw [bs_size, hL]
  have HON := Lib.hid hon; have HNUM := Lib.hid hnum; have HL := Lib.hid hL
  have hL60 : L ≤ 60 := by omega
  clear hl60 hon hnum hn1 hn2 h hL
  go_enter Tryz.func38, Tryz.ntmps38
  go_wp2_with fail
  go_loopw [3, 4] (fun o iv wr => ∃ (i : Nat) (t : List UInt8), iv = .int .i64 (i : Int) ∧ i ≤ L ∧ o = .string (bs t) ∧ t.length ≤ 60 ∧ Hid (t = xcL (l.take i) ∧ Below w.heap.size w wr)) (fun _ iv _ => L - (intOf iv).toNat)
  case atStart => exact ⟨0, [], rfl, Nat.zero_le _, rfl, Nat.zero_le _, rfl, Below.refl _ _⟩
  case round =>
    obtain ⟨i, t, rfl, hi, rfl, ht, HX⟩ := hrel
    have hbsz : (bs t).size = t.length := bs_size _
    by_cases hlt : i < L
    · have hil : i < l.length := by rw [← HL.out]; exact hlt
      have hc := on_at HON.out i hil
      have hib : i < (bs l).size := by rw [bs_size]; exact hil
      obtain ⟨x, hx12, hxb, hxc⟩ : ∃ x : Nat, (x = 1 ∨ x = 2) ∧ (((bs l)[i]'hib).toNat : Int) - 48 = (x : Int) ∧ [UInt8.ofNat (48 + ((3 : Int) - (x : Int)).toNat)] = [xc (l[i]'hil)] := by
        have e : (bs l)[i]'hib = l[i]'hil := rfl
        rw [e]
        rcases hc with h | h
        · exact ⟨1, .inl rfl, by rw [h]; rfl, by rw [h]; rfl⟩
        · exact ⟨2, .inr rfl, by rw [h]; rfl, by rw [h]; rfl⟩
      have hxm : ((x : Int) % 256) = (x : Int) := by omega
      have hb1 : 48 ≤ ((bs l)[i]'hib).toNat := by omega
      have hst : xcL (l.take (i + 1)) = xcL (l.take i) ++ [xc (l[i]'hil)] := by
        rw [List.take_succ_eq_append_getElem hil]; unfold xcL; rw [List.map_append]; rfl
      have hq := fun (W : World) => HNUM.out ((3 : Int) - (x : Int)) W (by omega)
      rw [hxc] at hq
      have hlen : (xcL (l.take i)).length = i := by rw [xcL_len, List.length_take]; omega
      have htl : t.length = i := by rw [HX.out.1]; exact hlen
      obtain ⟨c, hcc⟩ : ∃ c, c = xc (l[i]'hil) := ⟨_, rfl⟩
      rw [← hcc] at hq hst
      have HQ := Lib.hid hq; have HST := Lib.hid hst; have HTL := Lib.hid htl
      have hb2 : (bs [c]).size = 1 := rfl
      clear hq hst hlen htl hcc hxc hc
      go_wp2_with fail
      refine (HQ.out _).mono ?_
      rintro e w1 ⟨rfl, hb⟩
      have HB := Lib.hid hb; clear hb
      go_wp2_with fail
      go_roundw
      case rel => exact ⟨i + 1, t ++ [c], by go_num, by omega, by rw [bs_append], by rw [List.length_append, HTL.out]; simp; omega, by rw [HST.out, HX.out.1], below_trans HX.out.2 HB.out⟩
      case measure => simp [intOf] <;> omega
    · obtain rfl : i = L := by omega
      go_wp2_with fail
      go_ret
      have htt : t = xcL l := by rw [HX.out.1, List.take_of_length_le (by rw [← HL.out]; exact Nat.le_refl _)]
      refine ⟨ret_str (by rw [htt]), HX.out.2⟩
theorem specExchangeWord_any (l : List UInt8) (w : World) (hs : l.length ≤ maxLen) :
    Calls Tryz.prog 12 #[.string (bs l)] w fun e w' => e = .returned (strOk (exO l)) ∧ Below w.heap.size w w' := by
  have hlo := ruLow_any (bs l) w (by rw [bs_size]; exact hs)
  rw [bs_list] at hlo
  have HLO := Lib.hid hlo; clear hlo hs
  cases h : lowB l with
  | false =>
    rw [show exO l = none by unfold exO; rw [h]; rfl]
    rw [h] at HLO
    clear h
    go_enter Tryz.func12, Tryz.ntmps12
    go_wp2_with fail
    refine HLO.out.mono ?_
    rintro e w1 ⟨rfl, rfl⟩
    go_wp2_with fail
    go_ret2
    exact ⟨rfl, Below.refl _ _⟩
  | true =>
    rw [show exO l = some (xcL l) by unfold exO; rw [h]; rfl]
    have HX := Lib.hid (fun (W : World) => ruExchange_any l W h)
    rw [h] at HLO
    clear h
    go_enter Tryz.func12, Tryz.ntmps12
    go_wp2_with fail
    refine HLO.out.mono ?_
    rintro e w1 ⟨rfl, rfl⟩
    go_wp2_with fail
    refine (HX.out _).mono ?_
    rintro e w1 ⟨rfl, hb⟩
    have HB := Lib.hid hb; clear hb
    go_wp2_with fail
    go_ret2
    exact ⟨rfl, HB.out⟩
end Go.Proofs.YtkjmocdhhndlgaaGreatDoor
