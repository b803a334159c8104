/- Low words: the model's ruLow, ruDerived, DerivedOf. -/
import Derived.Test.YtkjmocdhhndlgaaGreatDoorD8
import Derived.Test.YtkjmocdhhndlgaaGreatDoorD3
import Derived.Test.YtkjmocdhhndlgaaGreatDoorMA
namespace Go.Proofs.YtkjmocdhhndlgaaGreatDoor
open Go.RowKit Go.BigFrame
set_option linter.unusedSimpArgs false
set_option linter.unusedVariables false
set_option maxRecDepth 4000

theorem lowB_of (s : ByteArray) : lowB s.data.toList = (decide (s.size ≤ 60) && s.data.toList.all onB) := by
  unfold lowB; rw [size_list]
theorem low_parts {s : ByteArray} (h : lowB s.data.toList = true) : s.size ≤ 60 ∧ s.data.toList.all onB = true ∧ s.data.toList.all digB = true := by
  rw [lowB_of, Bool.and_eq_true, decide_eq_true_eq] at h
  exact ⟨h.1, h.2, onB_digB h.2⟩
theorem onB_iff (c : UInt8) : onB c = true ↔ c.toNat = 49 ∨ c.toNat = 50 := by
  unfold onB
  simp only [Bool.or_eq_true, beq_iff_eq]
  constructor
  · rintro (rfl | rfl)
    · exact .inl rfl
    · exact .inr rfl
  · rintro (h | h)
    · exact .inl (UInt8.toNat_inj.1 (by rw [h]; rfl))
    · exact .inr (UInt8.toNat_inj.1 (by rw [h]; rfl))

theorem u8_of49 (d : UInt8) (h : ¬ d = 49) : ¬ d.toNat = 49 := fun e => h (UInt8.toNat_inj.1 (by rw [e]; rfl))
set_option maxHeartbeats 1000000 in
theorem ruLow_any (s : ByteArray) (w : World) (hs : s.size ≤ maxLen) :
    Calls Tryz.prog 29 #[.string s] w fun e w' => e = .returned (.bool (lowB s.data.toList)) ∧ w = w' := by
  unfold maxLen at hs
  have hg := lowB_of s
  have HG := Lib.hid hg; clear hg
  by_cases hl : s.size ≤ 60
  · go_enter Tryz.func29, Tryz.ntmps29
    go_wp2_with fail
    go_loop [3] (fun i => ∃ k : Nat, k ≤ s.size ∧ i = .int .i64 k ∧ (s.data.toList.take k).all onB = true) (fun i => s.size - (intOf i).toNat)
    case atStart => exact ⟨0, Nat.zero_le _, rfl, rfl⟩
    case round =>
      obtain ⟨k, hk, rfl, hall⟩ := hrel
      have HA := Lib.hid hall; clear hall
      by_cases hlt : k < s.size
      · have hsn := all_take_succ onB s k hlt
        have HS := Lib.hid hsn; clear hsn
        obtain ⟨c, hc⟩ : ∃ c : Nat, c = s[k].toNat := ⟨_, rfl⟩
        have hob : onB s[k] = true ↔ (c = 49 ∨ c = 50) := by rw [hc]; exact onB_iff _
        have HO := Lib.hid hob; clear hob
        by_cases hd : c = 49 ∨ c = 50
        · have ht := HO.out.2 hd
          have HT := Lib.hid ht; clear ht
          have hc1 : (s[k].toNat : Int) = 49 ∨ (s[k].toNat : Int) = 50 := by omega
          rcases hc1 with hc1 | hc1
          · go_wp2_with fail
            go_round
            case rel => exact ⟨k + 1, by omega, by go_num, by rw [HS.out, HA.out, HT.out]; rfl⟩
            case measure => simp [intOf]; omega
          · go_wp2_with fail
            go_round
            case rel => exact ⟨k + 1, by omega, by go_num, by rw [HS.out, HA.out, HT.out]; rfl⟩
            case measure => simp [intOf]; omega
        · have hf : s.data.toList.all onB = false := all_false_of_take (k + 1) (by
            rw [HS.out, HA.out, Bool.true_and]
            cases h : onB s[k] with
            | false => rfl
            | true => exact absurd (HO.out.1 h) hd)
          have HF := Lib.hid hf; clear hf
          have hc1 : ¬ (s[k].toNat = 49) := by omega
          have hc2 : ¬ (s[k].toNat = 50) := by omega
          have hc3 : ¬ ((s[k].toNat : Int) = 49) := by omega
          have hc4 : ¬ ((s[k].toNat : Int) = 50) := by omega
          have hb1 : ((s[k].toNat : Int) != 49) = true := by rw [bne_iff_ne]; exact hc3
          have hb2 : ((s[k].toNat : Int) != 50) = true := by rw [bne_iff_ne]; exact hc4
          go_wp2_with fail
          go_ret
          exact ⟨ret_bool (by rw [HG.out, HF.out]; simp), rfl⟩
      · go_wp2_with fail
        go_ret
        exact ⟨ret_bool (by rw [HG.out]; have h := HA.out; rw [List.take_of_length_le (by simp; omega)] at h; rw [h]; simp [hl]), rfl⟩
  · go_enter Tryz.func29, Tryz.ntmps29
    go_wp2_with fail
    go_ret
    exact ⟨ret_bool (by rw [HG.out]; simp [hl]), rfl⟩
theorem woLongest_none (s : ByteArray) (w : World) (h0 : s.size = 0) :
    Calls Tryz.prog 68 #[.string s] w fun e w' => e = .returned (.int .i64 0) ∧ Below w.heap.size w w' := by
  have hl0 : s.data.toList = [] := List.eq_nil_of_length_eq_zero (by simpa using h0)
  go_enter Tryz.func68, Tryz.ntmps68
  go_wp2_with fail
  refine (woRuns_any s w (by omega) (by rw [hl0]; rfl)).mono ?_
  rintro e w1 ⟨v, vs, rfl, hrr, hb⟩
  have HB := Lib.hid hb
  have hrl : rowsL s.data.toList = [] := by rw [hl0]; rfl
  rw [hrl] at hrr
  obtain ⟨a, c, hv⟩ : ∃ a c, v = .slice a 0 c := by
    obtain ⟨a, c, h⟩ := own_slice hrr.outer
    have : vs.length = 0 := by have := hrr.len; simpa using this.symm
    rw [this] at h
    exact ⟨a, c, h⟩
  subst hv
  clear hrr hb hrl hl0
  go_wp2_with fail
  refine wp_loop_rounds 1 ?_
  rw [rounds_succ]
  go_wp2_with fail
  go_ret
  exact ⟨rfl, HB.out⟩
theorem woLongest0 (s : ByteArray) (w : World) (hs : s.size ≤ 400) (hd : s.data.toList.all digB = true) :
    Calls Tryz.prog 68 #[.string s] w fun e w' => e = .returned (.int .i64 (longL s.data.toList)) ∧ Below w.heap.size w w' := by
  by_cases h0 : s.size = 0
  · have hl0 : s.data.toList = [] := List.eq_nil_of_length_eq_zero (by simpa using h0)
    rw [hl0]
    exact woLongest_none s w h0
  · exact woLongest_any s w (by omega) hs hd
theorem tail_bs (l : List UInt8) : bs (l.drop 1) = (bs l).extract 1 (bs l).size := by
  apply ByteArray.ext
  simp [bs, ByteArray.data_extract, ByteArray.size]
  rw [List.take_of_length_le (by simp)]
theorem init_bs (pre : List UInt8) (d : UInt8) : (bs (pre ++ [d])).extract 0 pre.length = bs pre := by
  apply bs_eq
  rw [list_extract, bs_list]; simp
theorem at_bs (l : List UInt8) (k : Nat) (c : UInt8) (h : l[k]? = some c) : ∀ h2 : k < (bs l).size, (bs l)[k]'h2 = c := by
  intro h2
  have h3 : k < l.length := by rw [← bs_size]; exact h2
  have : (bs l).data.toList[k]'(by rw [bs_list]; exact h3) = l[k] := by simp only [bs_list]
  rw [List.getElem?_eq_getElem h3] at h
  exact this.trans (Option.some.inj h)
theorem cutF_head {c : UInt8} {t : List UInt8} : cutF (c :: t) = if c = 49 then t else c :: t := by
  unfold cutF
  by_cases h : c = 49
  · subst h; rfl
  · simp [h]
set_option maxHeartbeats 1000000 in
theorem ruDerived_any (s : ByteArray) (w : World) (hs : s.size ≤ 60) (hd : s.data.toList.all onB = true) :
    Calls Tryz.prog 35 #[.string s] w fun e w' => e = .returned (strOk (derL s.data.toList)) ∧ Below w.heap.size w w' := by
  have hdg := onB_digB hd
  have HL := Lib.hid (fun (W : World) => woLongest0 s W (by omega) hdg)
  by_cases h2 : longL s.data.toList ≤ 2
  · have E : derL s.data.toList = some (cutL (lensL s.data.toList)) := if_pos h2
    rw [E]
    have HR := Lib.hid (fun (W : World) => ruLengths_any s W (by omega) hdg (by omega))
    obtain ⟨m, hm⟩ : ∃ m, m = longL s.data.toList := ⟨_, rfl⟩
    have hlen : (lensL s.data.toList).length ≤ 60 := Nat.le_trans (lens_len _) (by simpa using hs)
    rw [← hm] at h2 HL
    obtain ⟨x, hx⟩ : ∃ x, x = lensL s.data.toList := ⟨_, rfl⟩
    rw [← hx] at HR hlen ⊢
    clear hm hx hd hdg E
    go_enter Tryz.func35, Tryz.ntmps35
    go_wp2_with fail
    refine (HL.out _).mono ?_
    rintro e w1 ⟨rfl, hb⟩
    have HB := Lib.hid hb; clear hb
    go_wp2_with fail
    refine (HR.out _).mono ?_
    rintro e w2 ⟨rfl, hb⟩
    have HB2 := Lib.hid (below_trans HB.out hb); clear hb
    rcases x with _ | ⟨c, t⟩
    · have hs0 : (bs ([] : List UInt8)).size = 0 := rfl
      go_wp2_with fail
      go_ret2
      exact ⟨rfl, HB2.out⟩
    · have hs1 : (bs (c :: t)).size = t.length + 1 := bs_size _
      have ha0 := at_bs (c :: t) 0 c rfl
      have htb : (bs (c :: t)).extract 1 (t.length + 1) = bs t := by
        have h := tail_bs (c :: t)
        rw [hs1] at h
        exact h.symm
      simp only [List.length_cons] at hlen
      by_cases h49 : c = 49
      · have hcf : cutF (c :: t) = t := by rw [cutF_head, if_pos h49]
        have hcn : (c.toNat : Int) = 49 := by rw [h49]; rfl
        have HCF := Lib.hid hcf
        clear hcf h49
        rcases list_cases_snoc t with rfl | ⟨pre, d, rfl⟩
        · have hs0 : (bs ([] : List UInt8)).size = 0 := rfl
          go_wp2_with fail
          go_ret2
          exact ⟨by unfold cutL; rw [HCF.out]; rfl, HB2.out⟩
        · have hs2 : (bs (pre ++ [d])).size = pre.length + 1 := by rw [bs_size]; simp
          have hl2 : (pre ++ [d]).length = pre.length + 1 := by simp
          have ha1 := at_bs (pre ++ [d]) pre.length d (by simp)
          have hib := init_bs pre d
          rw [hl2] at htb hs1 hlen
          by_cases hd49 : d = 49
          · have hcb : cutB (pre ++ [d]) = pre := by rw [hd49]; exact cutB_one pre
            have hdn : (d.toNat : Int) = 49 := by rw [hd49]; rfl
            have HCB := Lib.hid hcb
            clear hcb hd49
            go_wp2_with fail
            go_ret2
            exact ⟨by unfold cutL; rw [HCF.out, HCB.out]; rfl, HB2.out⟩
          · have hcb : cutB (pre ++ [d]) = pre ++ [d] := by unfold cutB; rw [List.getLast?_concat]; simp [hd49]
            have hdn : ¬ (d.toNat = 49) := u8_of49 d hd49
            have hdn2 : (((d.toNat : Nat) : Int) == 49) = false := by simp; omega
            have HCB := Lib.hid hcb
            clear hcb hd49
            go_wp2_with fail
            go_ret2
            exact ⟨by unfold cutL; rw [HCF.out, HCB.out]; rfl, HB2.out⟩
      · have hcf : cutF (c :: t) = c :: t := by rw [cutF_head, if_neg h49]
        have hcn : (((c.toNat : Nat) : Int) == 49) = false := by
          have : ¬ c.toNat = 49 := u8_of49 c h49
          simp; omega
        have HCF := Lib.hid hcf
        clear hcf h49
        rcases list_cases_snoc (c :: t) with hy | ⟨pre, d, hy⟩
        · cases hy
        · have hs2 : (bs (pre ++ [d])).size = pre.length + 1 := by rw [bs_size]; simp
          have hl2 : (pre ++ [d]).length = pre.length + 1 := by simp
          have ha1 := at_bs (pre ++ [d]) pre.length d (by simp)
          have hib := init_bs pre d
          rw [hy] at HCF hs1 ha0 htb ⊢
          have htl : t.length = pre.length := by have := congrArg List.length hy; simpa using this
          rw [htl] at hlen
          have HY := Lib.hid hy
          clear hs1 htl htb hy
          by_cases hd49 : d = 49
          · have hcb : cutB (pre ++ [d]) = pre := by rw [hd49]; exact cutB_one pre
            have hdn : (d.toNat : Int) = 49 := by rw [hd49]; rfl
            have HCB := Lib.hid hcb
            clear hcb hd49
            go_wp2_with fail
            go_ret2
            exact ⟨by unfold cutL; rw [HY.out, HCF.out, HCB.out]; rfl, HB2.out⟩
          · have hcb : cutB (pre ++ [d]) = pre ++ [d] := by unfold cutB; rw [List.getLast?_concat]; simp [hd49]
            have hdn : ¬ (d.toNat = 49) := u8_of49 d hd49
            have hdn2 : (((d.toNat : Nat) : Int) == 49) = false := by simp; omega
            have HCB := Lib.hid hcb
            clear hcb hd49
            go_wp2_with fail
            go_ret2
            exact ⟨by unfold cutL; rw [HY.out, HCF.out, HCB.out]; rfl, HB2.out⟩
  · have E : derL s.data.toList = none := if_neg h2
    rw [E]
    obtain ⟨m, hm⟩ : ∃ m, m = longL s.data.toList := ⟨_, rfl⟩
    rw [← hm] at h2 HL
    clear hm hd hdg E
    go_enter Tryz.func35, Tryz.ntmps35
    go_wp2_with fail
    refine (HL.out _).mono ?_
    rintro e w1 ⟨rfl, hb⟩
    have HB := Lib.hid hb; clear hb
    go_wp2_with fail
    go_ret2
    exact ⟨rfl, HB.out⟩
end Go.Proofs.YtkjmocdhhndlgaaGreatDoor
