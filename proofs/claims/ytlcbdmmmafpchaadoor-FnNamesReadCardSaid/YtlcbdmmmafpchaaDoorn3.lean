/- Chapter 8: what a word adds; the words of a text added up. -/
import Derived.Test.YtlcbdmmmafpchaaDoorn2
import Derived.Test.YtlcbdmmmafpchaaDoormr
import Derived.Deep.MidRow
import Derived.RegionTactic
import Derived.Deep.RegionWith
namespace Go.Proofs.YtlcbdmmmafpchaaDoor
open Go.RowKit Go.BigFrame Go.Shelf
set_option linter.unusedSimpArgs false
set_option linter.unusedVariables false
set_option maxRecDepth 4000

theorem plc_hit {x : List UInt8} : ∀ (l : List (List UInt8)) (k i : Nat) (hk : k < l.length), l[k] = x → (∀ j (hj : j < l.length), j < k → l[j] ≠ x) → plcF x l i = some (i + k)
  | [], k, _, hk, _, _ => by simp at hk
  | a :: t, 0, i, _, h, _ => by simp at h; rw [plcF, if_pos h]; rfl
  | a :: t, k + 1, i, hk, h, hn => by
    have h0 : ¬ a = x := hn 0 (by simp) (by omega)
    rw [plcF, if_neg h0, plc_hit t k (i + 1) (by simpa using hk) (by simpa using h) (fun j hj hjk => hn (j + 1) (by simpa using hj) (by omega))]
    congr 1; omega
theorem plc_none {x : List UInt8} : ∀ (l : List (List UInt8)) (i : Nat), (∀ j (hj : j < l.length), l[j] ≠ x) → plcF x l i = none
  | [], _, _ => rfl
  | a :: t, i, h => by
    have h0 : ¬ a = x := h 0 (by simp)
    rw [plcF, if_neg h0, plc_none t (i + 1) (fun j hj => h (j + 1) (by simpa using hj))]
theorem smN_at {k : Nat} (h : k < 20) : smT[k]? = some (smN k) := by
  have h' : k < smT.length := h
  unfold smN; rw [List.getElem?_eq_getElem h', List.getD, List.getElem?_eq_getElem h']; rfl
theorem tnN_at {k : Nat} (h : k < 8) : tnT[k]? = some (tnN (k + 2)) := by
  have h' : k < tnT.length := h
  unfold tnN; rw [Nat.add_sub_cancel, List.getElem?_eq_getElem h', List.getD, List.getElem?_eq_getElem h']; rfl
theorem worth_small {x : List UInt8} {k : Nat} (h : k < 20) (e : smN k = x) (hn : ∀ j, j < k → smN j ≠ x) : worthN x = k := by
  have h' : k < smT.length := h
  have e1 : smT[k] = x := by have := smN_at h; rw [List.getElem?_eq_getElem h'] at this; rw [Option.some.inj this, e]
  unfold worthN
  rw [plc_hit smT k 0 h' e1 (fun j hj hjk => by have := smN_at (show j < 20 from hj); rw [List.getElem?_eq_getElem hj] at this; rw [Option.some.inj this]; exact hn j hjk), Nat.zero_add]
theorem small_none {x : List UInt8} (hn : ∀ j, j < 20 → smN j ≠ x) : plcF x smT 0 = none :=
  plc_none smT 0 (fun j hj => by have := smN_at (show j < 20 from hj); rw [List.getElem?_eq_getElem hj] at this; rw [Option.some.inj this]; exact hn j hj)
theorem worth_tens {x : List UInt8} {k : Nat} (hs : ∀ j, j < 20 → smN j ≠ x) (h : k < 8) (e : tnN (k + 2) = x) (hn : ∀ j, j < k → tnN (j + 2) ≠ x) : worthN x = 20 + 10 * k := by
  have h' : k < tnT.length := h
  have e1 : tnT[k] = x := by have := tnN_at h; rw [List.getElem?_eq_getElem h'] at this; rw [Option.some.inj this, e]
  unfold worthN
  rw [small_none hs, plc_hit tnT k 0 h' e1 (fun j hj hjk => by have := tnN_at (show j < 8 from hj); rw [List.getElem?_eq_getElem hj] at this; rw [Option.some.inj this]; exact hn j hjk), Nat.zero_add]
theorem worth_none {x : List UInt8} (hs : ∀ j, j < 20 → smN j ≠ x) (hn : ∀ j, j < 8 → tnN (j + 2) ≠ x) : worthN x = 0 := by
  unfold worthN
  rw [small_none hs, plc_none tnT 0 (fun j hj => by have := tnN_at (show j < 8 from hj); rw [List.getElem?_eq_getElem hj] at this; rw [Option.some.inj this]; exact hn j hj)]
theorem bs_eqB2 {a b : List UInt8} : ((bs a).toList == (bs b).toList) = decide (a = b) := by
  rw [Go.Lib.toList_data, Go.Lib.toList_data, bs_list, bs_list]
  by_cases h : a = b
  · simp [h]
  · rw [decide_eq_false h]; simpa using h
def strL (ls : List (List UInt8)) : List Value := ls.map fun l => .string (bs l)
theorem info_20 : (Tryd.prog.info? 92).map (·.size) = some 20 := by kernel_rfl
theorem info_8 : (Tryd.prog.info? 102).map (·.size) = some 8 := by kernel_rfl
theorem run_index20 (k : Nat) (W : World) (hk : k < 20) : (Instr.index 92 (.agg (strL smT).toArray) (.int .i64 (k : Int))).run Tryd.prog W = .ok (.string (bs (smN k))) W := by
  have hc : (strL smT).toArray[k]? = some (.string (bs (smN k))) := by simp [strL, smN_at hk]
  have hs : (strL smT).toArray.size = 20 := rfl
  generalize (strL smT).toArray = A at *
  obtain ⟨i0, hi0, hz0, hz1, hz2⟩ := info_parts info_sN
  simp [Instr.index, run_underlying Tryd.underlying92, part, isAgg, run_underlying Tryd.underlying9, sizeOf, typeInfo, hi0, hz1, hc, asIntOf, (by omega : (0 : Int) ≤ (k : Int)), (by omega : (k : Int) < 20), go_sem]
  intro h26; omega
theorem run_index8 (k : Nat) (W : World) (hk : k < 8) : (Instr.index 102 (.agg (strL tnT).toArray) (.int .i64 (k : Int))).run Tryd.prog W = .ok (.string (bs (tnN (k + 2)))) W := by
  have hc : (strL tnT).toArray[k]? = some (.string (bs (tnN (k + 2)))) := by simp [strL, tnN_at hk]
  have hs : (strL tnT).toArray.size = 8 := rfl
  generalize (strL tnT).toArray = A at *
  obtain ⟨i0, hi0, hz0, hz1, hz2⟩ := info_parts info_sN
  simp [Instr.index, run_underlying Tryd.underlying102, part, isAgg, run_underlying Tryd.underlying9, sizeOf, typeInfo, hi0, hz1, hc, asIntOf, (by omega : (0 : Int) ≤ (k : Int)), (by omega : (k : Int) < 8), go_sem]
  intro h26; omega
theorem range_small {w : World} (NA : NamesAt w) : w.rangeAt 0 0 (strL smT) := by
  intro j v h
  have hj : j < 20 := (List.getElem?_eq_some_iff.1 h).1
  rw [strL, List.getElem?_map, smN_at hj] at h
  rw [Nat.zero_add, NA.small j hj]; exact h
theorem range_tens {w : World} (NA : NamesAt w) : w.rangeAt 1 0 (strL tnT) := by
  intro j v h
  have hj : j < 8 := (List.getElem?_eq_some_iff.1 h).1
  rw [strL, List.getElem?_map, tnN_at hj] at h
  rw [Nat.zero_add]
  have := NA.tens (j + 2) (by omega) (by omega)
  rw [Nat.add_sub_cancel] at this
  rw [this]; exact h

set_option maxHeartbeats 1000000 in
theorem worthOf_any (x : List UInt8) (w : World) (NA : NamesAt w) :
    Calls Tryd.prog 96 #[.string (bs x)] w fun e w' => e = .returned (.int .i64 (worthN x : Int)) ∧ w = w' := by
  have hr1 := range_small NA; have hr2 := range_tens NA
  have hix := fun (k : Nat) (hk : k < 20) (W : World) => run_index20 k W hk
  have hiy := fun (k : Nat) (hk : k < 8) (W : World) => run_index8 k W hk
  have hn1 : (Tryd.prog.info? 92).map (·.size) = some (strL smT).length := info_20
  have hn2 : (Tryd.prog.info? 102).map (·.size) = some (strL tnT).length := info_8
  have hws := fun (k : Nat) (h : k < 20) e hn => worth_small (x := x) h e hn
  have hwt := fun (k : Nat) hs (h : k < 8) e hn => worth_tens (x := x) (k := k) hs h e hn
  have hwn := fun hs hn => worth_none (x := x) hs hn
  obtain ⟨A, hA⟩ : ∃ A, A = strL smT := ⟨_, rfl⟩
  obtain ⟨B, hB⟩ : ∃ B, B = strL tnT := ⟨_, rfl⟩
  rw [← hA] at hr1 hix hn1
  rw [← hB] at hr2 hiy hn2
  generalize worthN x = R at *
  have HR1 := Lib.hid hr1; have HR2 := Lib.hid hr2; have HIX := Lib.hid hix; have HIY := Lib.hid hiy; have HN1 := Lib.hid hn1; have HN2 := Lib.hid hn2; have HWS := Lib.hid hws; have HWT := Lib.hid hwt; have HWN := Lib.hid hwn
  clear hr1 hr2 hix hiy hn1 hn2 hws hwt hwn hA hB NA
  go_enter Tryd.func96, Tryd.ntmps96
  go_wp2_with (refine wpList_load_mid rfl 92 _ rfl 0 0 rfl A _ HR1.out Tryd.underlying92 rfl HN1.out ?_)
  go_loopw [8] (fun i wr => ∃ k : Nat, k ≤ 20 ∧ i = .int .i64 (k : Int) ∧ Hid (wr = w ∧ ∀ j, j < k → smN j ≠ x)) (fun i _ => 20 - (intOf i).toNat)
  case atStart => exact ⟨0, by omega, rfl, rfl, fun j hj => absurd hj (by omega)⟩
  case round =>
    obtain ⟨k, hk, rfl, HX⟩ := hrel
    obtain rfl := HX.out.1
    by_cases hlt : k < 20
    · have hid := HIX.out k hlt
      obtain ⟨y, hy⟩ : ∃ y, y = smN k := ⟨_, rfl⟩
      rw [← hy] at hid
      have hq := bs_eqB2 (a := y) (b := x)
      by_cases he : y = x
      · rw [decide_eq_true he] at hq
        have hR : (R : Int) = (k : Int) := by rw [HWS.out k hlt (by rw [← hy]; exact he) HX.out.2]
        have HR := Lib.hid hR
        clear hR he hy
        go_wp2_with fail
        go_ret
        exact ⟨ret_int HR.out.symm, rfl⟩
      · rw [decide_eq_false he] at hq
        have HNE := Lib.hid (show ∀ j, j < k + 1 → smN j ≠ x by
          intro j hj
          by_cases e : j = k
          · subst e; rw [← hy]; exact he
          · exact HX.out.2 j (by omega))
        clear he hy
        go_wp2_with fail
        go_roundw
        case rel => exact ⟨k + 1, by omega, by go_num, trivial, HNE.out⟩
        case measure => simp [intOf] <;> omega
    · obtain rfl : k = 20 := by omega
      have HS := Lib.hid HX.out.2
      clear HX hlt
      go_wp2_with (refine wpList_load_mid rfl 102 _ rfl 1 0 rfl B _ HR2.out Tryd.underlying102 rfl HN2.out ?_)
      obtain ⟨wo, rfl⟩ : ∃ wo : World, wo = wr := ⟨_, rfl⟩
      go_loopw [18] (fun i wr => ∃ k : Nat, k ≤ 8 ∧ i = .int .i64 (k : Int) ∧ Hid (wr = wo ∧ ∀ j, j < k → tnN (j + 2) ≠ x)) (fun i _ => 8 - (intOf i).toNat)
      case atStart => exact ⟨0, by omega, rfl, rfl, fun j hj => absurd hj (by omega)⟩
      case round =>
        obtain ⟨k, hk, rfl, HX⟩ := hrel
        obtain rfl := HX.out.1
        by_cases hlt : k < 8
        · have hid := HIY.out k hlt
          obtain ⟨y, hy⟩ : ∃ y, y = tnN (k + 2) := ⟨_, rfl⟩
          rw [← hy] at hid
          have hq := bs_eqB2 (a := y) (b := x)
          by_cases he : y = x
          · rw [decide_eq_true he] at hq
            have hR : (R : Int) = 20 + 10 * (k : Int) := by rw [HWT.out k HS.out hlt (by rw [← hy]; exact he) HX.out.2]; omega
            have HR := Lib.hid hR
            clear hR he hy
            go_wp2_with fail
            go_ret
            exact ⟨ret_int HR.out.symm, rfl⟩
          · rw [decide_eq_false he] at hq
            have HNE := Lib.hid (show ∀ j, j < k + 1 → tnN (j + 2) ≠ x by
              intro j hj
              by_cases e : j = k
              · subst e; rw [← hy]; exact he
              · exact HX.out.2 j (by omega))
            clear he hy
            go_wp2_with fail
            go_roundw
            case rel => exact ⟨k + 1, by omega, by go_num, trivial, HNE.out⟩
            case measure => simp [intOf] <;> omega
        · obtain rfl : k = 8 := by omega
          have hR : (R : Int) = 0 := by rw [HWN.out HS.out HX.out.2]; rfl
          have HR := Lib.hid hR
          clear hR HX hlt
          go_wp2_with fail
          go_ret
          exact ⟨ret_int HR.out.symm, rfl⟩
end Go.Proofs.YtlcbdmmmafpchaaDoor
