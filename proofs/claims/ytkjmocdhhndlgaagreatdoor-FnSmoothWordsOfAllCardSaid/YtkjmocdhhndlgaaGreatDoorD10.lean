/- Low words: the program's isLow, withoutOnes, DerivedOf; the law of DerivedOf. -/
import Derived.Test.YtkjmocdhhndlgaaGreatDoorD9
import Derived.Test.YtkjmocdhhndlgaaGreatDoorD4
import Derived.Test.YtkjmocdhhndlgaaGreatDoorS
import Derived.Shelf.Strings.SlTrimAscii
namespace Go.Proofs.YtkjmocdhhndlgaaGreatDoor
open Go.RowKit Go.BigFrame Go.Shelf
set_option linter.unusedSimpArgs false
set_option linter.unusedVariables false
set_option maxRecDepth 4000

theorem info_bools : (Tryz.prog.info? 106).map (fun i => (i.zero, i.size)) = some (some (.agg (Array.replicate 256 (.bool false))), 256) := by kernel_rfl
theorem trim12 (s : ByteArray) (w : World) (hs : s.size ≤ 9223372036854775807) :
    Calls Tryz.prog 65 #[.string s, .string ⟨#[49, 50]⟩] w fun e w' => e = .returned (.string (bs (Go.Lib.trimS s.data.toList [49, 50]))) ∧ Below w.heap.size w w' := by
  obtain ⟨i4, hi4, hb4⟩ := Option.map_eq_some_iff.1 info_bools
  simp only [Prod.mk.injEq] at hb4
  have hz : ∀ w : World, (zeroValue 106).run Tryz.prog w = .ok (.agg (Array.replicate 256 (.bool false))) w := fun w => by
    simp [zeroValue, typeInfo, hi4, hb4.1]
  have hi : (Tryz.prog.info? 106).map (·.size) = some 256 := by rw [hi4]; simp [hb4.2]
  exact Any.strings_Trim_ascii Tryz.lays160 hz hi s ⟨#[49, 50]⟩ w hs (by decide) (by
    intro j b hb
    match j, hb with
    | 0, hb => cases hb; decide
    | 1, hb => cases hb; decide
    | j + 2, hb => simp at hb)

theorem isLow_any (s : ByteArray) (w : World) (hs : s.size ≤ maxLen) :
    Calls Tryz.prog 32 #[.string s] w fun e w' => e = .returned (.bool (lowB s.data.toList)) ∧ Below w.heap.size w w' := by
  have hlow := lowB_of s
  by_cases hl : s.size ≤ 60
  · have HT := Lib.hid (fun (W : World) => trim12 s W (by unfold maxLen at hs; omega))
    have hE : lowB s.data.toList = decide (Go.Lib.trimS s.data.toList [49, 50] = []) := by
      rw [hlow, decide_eq_true hl, Bool.true_and]
      cases h : s.data.toList.all onB with
      | true => rw [decide_eq_true ((trim_low _).2 h)]
      | false => rw [decide_eq_false (fun e => by have := (trim_low _).1 e; rw [h] at this; cases this)]
    rw [hE]
    generalize Go.Lib.trimS s.data.toList [49, 50] = t at *
    clear hlow hE
    go_enter Tryz.func32, Tryz.ntmps32
    go_wp2_with fail
    refine (HT.out _).mono ?_
    rintro e w1 ⟨rfl, hb⟩
    have HB := Lib.hid hb; clear hb
    go_wp2_with fail
    go_ret
    refine ⟨ret_bool ?_, HB.out⟩
    cases t with
    | nil =>
      have h1 : (bs ([] : List UInt8)).toList = [] := by rw [Go.Lib.toList_data, bs_list]
      simp [h1]
    | cons c r =>
      have h1 : (bs (c :: r)).toList = c :: r := by rw [Go.Lib.toList_data, bs_list]
      simp [h1]
  · have hE : lowB s.data.toList = false := by rw [hlow, decide_eq_false hl]; rfl
    rw [hE]
    clear hlow hE
    go_enter Tryz.func32, Tryz.ntmps32
    go_wp2_with fail
    go_ret
    exact ⟨rfl, Below.refl _ _⟩
theorem withoutOnes_any (x : List UInt8) (w : World) (hx : x.length ≤ 400) :
    Calls Tryz.prog 33 #[.string (bs x)] w fun e w' => e = .returned (.string (bs (cutL x))) ∧ w = w' := by
  have h1 := fun (W : World) => Tryz.strings_TrimPrefix (bs x) ⟨#[49]⟩ W
  have h2 := fun (W : World) => Tryz.strings_TrimSuffix (bs (cutF x)) ⟨#[49]⟩ W (by rw [bs_size]; have := cutF_len x; omega)
  rw [bs_list] at h1 h2
  have e1 : (⟨#[49]⟩ : ByteArray).data.toList = [49] := rfl
  simp only [e1, trimPrefix_one, trimSuffix_one] at h1 h2
  have H1 := Lib.hid h1; have H2 := Lib.hid h2; clear h1 h2 e1
  go_enter Tryz.func33, Tryz.ntmps33
  go_wp2_with fail
  refine (H1.out _).mono ?_
  rintro e w1 ⟨rfl, rfl⟩
  go_wp2_with fail
  refine (H2.out _).mono ?_
  rintro e w1 ⟨rfl, rfl⟩
  go_wp2_with fail
  go_ret
  exact ⟨rfl, rfl⟩
def derO (l : List UInt8) : Option (List UInt8) := if lowB l = true then derL l else none
theorem long_low {s : ByteArray} (h : lowB s.data.toList = true) : (if goodL s.data.toList = true then (longL s.data.toList : Int) else 0) = (longL s.data.toList : Int) := by
  obtain ⟨h1, _, h3⟩ := low_parts h
  by_cases h0 : s.size = 0
  · have hl0 : s.data.toList = [] := List.eq_nil_of_length_eq_zero (by simpa using h0)
    rw [hl0]; rfl
  · have hz : s.data.toList.length = s.size := by simp
    have hg : goodL s.data.toList = true := by
      unfold goodL
      rw [h3, decide_eq_true (by omega), decide_eq_true (by omega)]; rfl
    rw [if_pos hg]
theorem specDerivedOf_any (s : ByteArray) (w : World) (hs : s.size ≤ maxLen) :
    Calls Tryz.prog 10 #[.string s] w fun e w' => e = .returned (strOk (derO s.data.toList)) ∧ Below w.heap.size w w' := by
  cases h : lowB s.data.toList with
  | false =>
    have E : derO s.data.toList = none := by unfold derO; rw [h]; rfl
    rw [E]
    have H := Lib.hid h; clear h E
    go_enter Tryz.func10, Tryz.ntmps10
    go_wp2_with fail
    refine (ruLow_any s w hs).mono ?_
    rintro e w1 ⟨rfl, rfl⟩
    rw [H.out]
    go_wp2_with fail
    go_ret2
    exact ⟨rfl, Below.refl _ _⟩
  | true =>
    obtain ⟨h1, h2, _⟩ := low_parts h
    have E : derO s.data.toList = derL s.data.toList := by unfold derO; rw [h]; rfl
    rw [E]
    have HD := Lib.hid (fun (W : World) => ruDerived_any s W h1 h2)
    have hso : ∃ (x : ByteArray) (y : Bool), strOk (derL s.data.toList) = .tuple #[.string x, .bool y] := by cases derL s.data.toList <;> exact ⟨_, _, rfl⟩
    obtain ⟨x, y, hxy⟩ := hso
    rw [hxy] at HD ⊢
    have H := Lib.hid h; clear h E h2 hxy
    go_enter Tryz.func10, Tryz.ntmps10
    go_wp2_with fail
    refine (ruLow_any s w hs).mono ?_
    rintro e w1 ⟨rfl, rfl⟩
    rw [H.out]
    go_wp2_with fail
    refine (HD.out _).mono ?_
    rintro e w1 ⟨rfl, hb⟩
    have HB := Lib.hid hb; clear hb
    go_wp2_with fail
    go_ret2
    exact ⟨rfl, HB.out⟩
set_option maxHeartbeats 1000000 in
theorem implDerivedOf_any (s : ByteArray) (w : World) (hs : s.size ≤ maxLen) :
    Calls Tryz.prog 9 #[.string s] w fun e w' => e = .returned (strOk (derO s.data.toList)) ∧ Below w.heap.size w w' := by
  have HLR := Lib.hid (fun (W : World) => implLongestRun_any s W hs)
  have HIL := Lib.hid (fun (W : World) => isLow_any s W hs)
  obtain ⟨y, hy⟩ : ∃ y, y = goodL s.data.toList := ⟨_, rfl⟩
  obtain ⟨m, hm⟩ : ∃ m, m = (if goodL s.data.toList = true then (longL s.data.toList : Int) else 0) := ⟨_, rfl⟩
  rw [← hm, ← hy] at HLR
  cases h : lowB s.data.toList with
  | false =>
    have E : derO s.data.toList = none := by unfold derO; rw [h]; rfl
    rw [E]
    rw [h] at HIL
    clear h E hm hy
    go_enter Tryz.func9, Tryz.ntmps9
    go_wp2_with fail
    refine (HLR.out _).mono ?_
    rintro e w1 ⟨rfl, hb⟩
    have HB := Lib.hid hb; clear hb
    go_wp2_with fail
    refine (HIL.out _).mono ?_
    rintro e w2 ⟨rfl, hb⟩
    have HB2 := Lib.hid (below_trans HB.out hb); clear hb
    go_wp2_with fail
    go_ret2
    exact ⟨rfl, HB2.out⟩
  | true =>
    obtain ⟨h1, h2, h3⟩ := low_parts h
    have hml : m = (longL s.data.toList : Int) := by rw [hm]; exact long_low h
    rw [h] at HIL
    by_cases h4 : longL s.data.toList ≤ 2
    · have E : derO s.data.toList = some (cutL (lensL s.data.toList)) := by unfold derO derL; rw [h, if_pos h4]; rfl
      rw [E]
      have HLT := Lib.hid (fun (W : World) => lengthsText_any s W (by omega) h3 (by omega))
      have hlen : (lensL s.data.toList).length ≤ 60 := Nat.le_trans (lens_len _) (by simpa using h1)
      have HW := Lib.hid (fun (W : World) => withoutOnes_any (lensL s.data.toList) W (by omega))
      have hm2 : ¬ (2 < m) := by omega
      clear h E hm hy h2 h3 hml h4 hlen
      go_enter Tryz.func9, Tryz.ntmps9
      go_wp2_with fail
      refine (HLR.out _).mono ?_
      rintro e w1 ⟨rfl, hb⟩
      have HB := Lib.hid hb; clear hb
      go_wp2_with fail
      refine (HIL.out _).mono ?_
      rintro e w2 ⟨rfl, hb⟩
      have HB2 := Lib.hid (below_trans HB.out hb); clear hb
      go_wp2_with fail
      refine (HLT.out _).mono ?_
      rintro e w3 ⟨rfl, hb⟩
      have HB3 := Lib.hid (below_trans HB2.out hb); clear hb
      go_wp2_with fail
      refine (HW.out _).mono ?_
      rintro e w4 ⟨rfl, rfl⟩
      go_wp2_with fail
      go_ret2
      exact ⟨rfl, HB3.out⟩
    · have E : derO s.data.toList = none := by unfold derO derL; rw [h, if_neg h4]; rfl
      rw [E]
      have hm2 : 2 < m := by omega
      clear h E hm hy h2 h3 hml h4
      go_enter Tryz.func9, Tryz.ntmps9
      go_wp2_with fail
      refine (HLR.out _).mono ?_
      rintro e w1 ⟨rfl, hb⟩
      have HB := Lib.hid hb; clear hb
      go_wp2_with fail
      refine (HIL.out _).mono ?_
      rintro e w2 ⟨rfl, hb⟩
      have HB2 := Lib.hid (below_trans HB.out hb); clear hb
      go_wp2_with fail
      go_ret2
      exact ⟨rfl, HB2.out⟩
end Go.Proofs.YtkjmocdhhndlgaaGreatDoor
