/- How often a low word can be derived: DepthOf, IsSmooth. -/
import Derived.Test.YtkjmocdhhndlgaaGreatDoorD10
namespace Go.Proofs.YtkjmocdhhndlgaaGreatDoor
open Go.RowKit Go.BigFrame Go.Shelf
set_option linter.unusedSimpArgs false
set_option linter.unusedVariables false
set_option maxRecDepth 4000

def strLen : Value → Nat
  | .string s => s.size
  | _ => 0
def depV : Option Nat → Value
  | some d => .tuple #[.int .i64 (d : Int), .bool true]
  | none => .tuple #[.int .i64 0, .bool false]
theorem depO_nil : depO [] = some 0 := rfl
theorem derO_low {l m : List UInt8} (h : derO l = some m) : lowB l = true ∧ derL l = some m ∧ lowB m = true := by
  unfold derO at h
  by_cases hl : lowB l = true
  · rw [if_pos hl] at h; exact ⟨hl, h, der_low hl h⟩
  · rw [if_neg hl] at h; cases h
theorem depO_some {l m : List UInt8} (hl : l ≠ []) (h : derO l = some m) : depO l = (depO m).map (· + 1) := by
  obtain ⟨h1, h2, h3⟩ := derO_low h
  unfold depO
  rw [if_pos h1, if_pos h3, depL_some hl h2]
theorem depO_none {l : List UInt8} (hl : l ≠ []) (h : derO l = none) : depO l = none := by
  unfold depO
  by_cases h1 : lowB l = true
  · unfold derO at h
    rw [if_pos h1] at h
    rw [if_pos h1, depL_none hl h]
  · rw [if_neg h1]
theorem derO_less {l m : List UInt8} (hl : l ≠ []) (h : derO l = some m) : m.length < l.length := der_less hl (derO_low h).2.1
theorem map_more (o : Option Nat) (d : Nat) : (o.map (· + 1)).map (· + d) = o.map (· + (d + 1)) := by
  cases o with
  | none => rfl
  | some x => simp only [Option.map_some]; congr 1; omega
theorem bs_nonempty {l : List UInt8} (h : l ≠ []) : (bs l).toList.isEmpty = false := by
  rw [Go.Lib.toList_data, bs_list]
  cases l with
  | nil => exact absurd rfl h
  | cons a t => rfl

set_option maxHeartbeats 1000000 in
theorem ruDepth_any (l0 : List UInt8) (w : World) (h0 : lowB l0 = true) :
    Calls Tryz.prog 30 #[.string (bs l0)] w fun e w' => e = .returned (depV (depO l0)) ∧ Below w.heap.size w w' := by
  have hl60 : l0.length ≤ 60 := by unfold lowB at h0; simp only [Bool.and_eq_true, decide_eq_true_eq] at h0; exact h0.1
  obtain ⟨R, hR⟩ : ∃ R, R = depO l0 := ⟨_, rfl⟩
  rw [← hR]
  have hR2 : R = (depO l0).map (· + 0) := by rw [hR]; cases depO l0 <;> rfl
  have HR := Lib.hid hR2; have H0 := Lib.hid h0
  clear hR h0 hR2
  go_enter Tryz.func30, Tryz.ntmps30
  go_wp2_with fail
  go_loopw [0, 4] (fun v dv wr => ∃ (l : List UInt8) (d : Nat), v = .string (bs l) ∧ dv = .int .i64 (d : Int) ∧ d + l.length ≤ 60 ∧ Hid (lowB l = true ∧ R = (depO l).map (· + d) ∧ Below w.heap.size w wr)) (fun v _ _ => strLen v)
  case atStart => exact ⟨l0, 0, rfl, rfl, by omega, H0.out, HR.out, Below.refl _ _⟩
  case round =>
    obtain ⟨l, d, rfl, rfl, hdl, HX⟩ := hrel
    have hbsz : (bs l).size = l.length := bs_size _
    by_cases hl : l = []
    · subst hl
      have hz : (bs ([] : List UInt8)).size = 0 := rfl
      clear hbsz
      go_wp2_with fail
      go_ret2
      refine ⟨?_, HX.out.2.2⟩
      rw [HX.out.2.1, depO_nil]
      simp [depV]
    · have hpos : 0 < l.length := List.length_pos_iff.2 hl
      have hlb := HX.out.1
      have hlow : lowB (bs l).data.toList = true := by rw [bs_list]; exact hlb
      obtain ⟨p1, p2, _⟩ := low_parts hlow
      have hder := ruDerived_any (bs l) wr p1 p2
      rw [bs_list] at hder
      have hdo : derO l = derL l := by unfold derO; rw [if_pos hlb]
      cases hd : derL l with
      | none =>
        rw [hd] at hder hdo
        simp only [strOk] at hder
        have HD := Lib.hid hder
        have hn : R = none := by rw [HX.out.2.1, depO_none hl hdo]; rfl
        have HN := Lib.hid hn
        clear hder hd hdo hn hlow p1 p2 hlb
        go_wp2_with fail
        refine HD.out.mono ?_
        rintro e w2 ⟨rfl, hb⟩
        have HB := Lib.hid hb; clear hb
        go_wp2_with fail
        go_ret2
        exact ⟨by rw [HN.out]; rfl, below_trans HX.out.2.2 HB.out⟩
      | some m =>
        rw [hd] at hder hdo
        simp only [strOk] at hder
        have HD := Lib.hid hder
        have hless := derO_less hl hdo
        have hn : R = (depO m).map (· + (d + 1)) := by rw [HX.out.2.1, depO_some hl hdo, map_more]
        have hlm := (derO_low hdo).2.2
        have HN := Lib.hid hn; have HM := Lib.hid hlm
        have hbsm : (bs m).size = m.length := bs_size _
        clear hder hd hdo hn hlow p1 p2 hlb hlm
        go_wp2_with fail
        refine HD.out.mono ?_
        rintro e w2 ⟨rfl, hb⟩
        have HB := Lib.hid hb; clear hb
        go_wp2_with fail
        go_roundw
        case rel => exact ⟨m, d + 1, rfl, by go_num, by omega, HM.out, HN.out, below_trans HX.out.2.2 HB.out⟩
        case measure => simp [strLen]; omega
theorem specDepthOf_any (s : ByteArray) (w : World) (hs : s.size ≤ maxLen) :
    Calls Tryz.prog 8 #[.string s] w fun e w' => e = .returned (depV (depO s.data.toList)) ∧ Below w.heap.size w w' := by
  cases h : lowB s.data.toList with
  | false =>
    have E : depO s.data.toList = none := by unfold depO; rw [h]; rfl
    rw [E]
    have H := Lib.hid h; clear h E
    go_enter Tryz.func8, Tryz.ntmps8
    go_wp2_with fail
    refine (ruLow_any s w hs).mono ?_
    rintro e w1 ⟨rfl, rfl⟩
    rw [H.out]
    go_wp2_with fail
    go_ret2
    exact ⟨rfl, Below.refl _ _⟩
  | true =>
    have HD := Lib.hid (fun (W : World) => ruDepth_any s.data.toList W h)
    have es : bs s.data.toList = s := (bs_eq rfl).symm
    rw [es] at HD
    obtain ⟨x, y, hxy⟩ : ∃ (x : Int) (y : Bool), depV (depO s.data.toList) = .tuple #[.int .i64 x, .bool y] := by cases depO s.data.toList <;> exact ⟨_, _, rfl⟩
    rw [hxy] at HD ⊢
    have H := Lib.hid h; clear h es hxy
    go_enter Tryz.func8, Tryz.ntmps8
    go_wp2_with fail
    refine (ruLow_any s w hs).mono ?_
    rintro e w1 ⟨rfl, rfl⟩
    rw [H.out]
    go_wp2_with fail
    refine (HD.out _).mono ?_
    rintro e w1 ⟨rfl, hb⟩
    have HB := Lib.hid hb; clear hb
    go_wp2_with fail
    go_ret2
    exact ⟨rfl, HB.out⟩
theorem depV_ok (o : Option Nat) : ∃ x : Int, depV o = .tuple #[.int .i64 x, .bool o.isSome] := by cases o <;> exact ⟨_, rfl⟩
theorem specIsSmooth_any (s : ByteArray) (w : World) (hs : s.size ≤ maxLen) :
    Calls Tryz.prog 17 #[.string s] w fun e w' => e = .returned (.bool (depO s.data.toList).isSome) ∧ Below w.heap.size w w' := by
  cases h : lowB s.data.toList with
  | false =>
    have E : depO s.data.toList = none := by unfold depO; rw [h]; rfl
    rw [E]
    have H := Lib.hid h; clear h E
    go_enter Tryz.func17, Tryz.ntmps17
    go_wp2_with fail
    refine (ruLow_any s w hs).mono ?_
    rintro e w1 ⟨rfl, rfl⟩
    rw [H.out]
    go_wp2_with fail
    go_ret
    exact ⟨rfl, Below.refl _ _⟩
  | true =>
    have HD := Lib.hid (fun (W : World) => ruDepth_any s.data.toList W h)
    have es : bs s.data.toList = s := (bs_eq rfl).symm
    rw [es] at HD
    obtain ⟨x, hxy⟩ := depV_ok (depO s.data.toList)
    rw [hxy] at HD
    have H := Lib.hid h; clear h es hxy
    generalize (depO s.data.toList).isSome = y at *
    go_enter Tryz.func17, Tryz.ntmps17
    go_wp2_with fail
    refine (ruLow_any s w hs).mono ?_
    rintro e w1 ⟨rfl, rfl⟩
    rw [H.out]
    go_wp2_with fail
    refine (HD.out _).mono ?_
    rintro e w1 ⟨rfl, hb⟩
    have HB := Lib.hid hb; clear hb
    go_wp2_with fail
    go_ret
    exact ⟨rfl, HB.out⟩
set_option maxHeartbeats 1000000 in
theorem implDepthOf_any (s : ByteArray) (w : World) (hs : s.size ≤ maxLen) :
    Calls Tryz.prog 7 #[.string s] w fun e w' => e = .returned (depV (depO s.data.toList)) ∧ Below w.heap.size w w' := by
  obtain ⟨l0, hl0⟩ : ∃ l0, l0 = s.data.toList := ⟨_, rfl⟩
  obtain ⟨R, hR⟩ : ∃ R, R = depO s.data.toList := ⟨_, rfl⟩
  rw [← hR]
  have es : s = bs l0 := by rw [hl0]; exact bs_eq rfl
  have hR2 : R = (depO l0).map (· + 0) := by rw [hR, hl0]; cases depO s.data.toList <;> rfl
  have hll : l0.length ≤ maxLen := by rw [hl0]; simpa using hs
  clear hR hl0
  subst es
  have HR := Lib.hid hR2
  clear hR2 hs
  unfold maxLen at hll
  go_enter Tryz.func7, Tryz.ntmps7
  go_wp2_with fail
  go_loopw [4, 5] (fun dv v wr => ∃ (l : List UInt8) (d : Nat), v = .string (bs l) ∧ dv = .int .i64 (d : Int) ∧ d + l.length ≤ l0.length ∧ Hid (R = (depO l).map (· + d) ∧ Below w.heap.size w wr)) (fun _ v _ => strLen v)
  case atStart => exact ⟨l0, 0, rfl, rfl, by omega, HR.out, Below.refl _ _⟩
  case round =>
    obtain ⟨l, d, rfl, rfl, hdl, HX⟩ := hrel
    by_cases hl : l = []
    · subst hl
      have he : (bs ([] : List UInt8)).toList.isEmpty = true := by rw [Go.Lib.toList_data, bs_list]; rfl
      go_wp2_with fail
      go_ret2
      refine ⟨?_, HX.out.2⟩
      rw [HX.out.1, depO_nil]
      simp [depV]
    · have hpos : 0 < l.length := List.length_pos_iff.2 hl
      have hne := bs_nonempty hl
      have hder := implDerivedOf_any (bs l) wr (by rw [bs_size]; unfold maxLen; omega)
      rw [bs_list] at hder
      cases hd : derO l with
      | none =>
        rw [hd] at hder
        simp only [strOk] at hder
        have HD := Lib.hid hder
        have hn : R = none := by rw [HX.out.1, depO_none hl hd]; rfl
        have HN := Lib.hid hn
        clear hder hd hn
        go_wp2_with fail
        refine HD.out.mono ?_
        rintro e w2 ⟨rfl, hb⟩
        have HB := Lib.hid hb; clear hb
        go_wp2_with fail
        go_ret2
        exact ⟨by rw [HN.out]; rfl, below_trans HX.out.2 HB.out⟩
      | some m =>
        rw [hd] at hder
        simp only [strOk] at hder
        have HD := Lib.hid hder
        have hless := derO_less hl hd
        have hn : R = (depO m).map (· + (d + 1)) := by rw [HX.out.1, depO_some hl hd, map_more]
        have HN := Lib.hid hn
        clear hder hd hn
        go_wp2_with fail
        refine HD.out.mono ?_
        rintro e w2 ⟨rfl, hb⟩
        have HB := Lib.hid hb; clear hb
        go_wp2_with fail
        go_roundw
        case rel => exact ⟨m, d + 1, rfl, by go_num, by omega, HN.out, below_trans HX.out.2 HB.out⟩
        case measure => simp [strLen, bs_size]; omega
theorem implIsSmooth_any (s : ByteArray) (w : World) (hs : s.size ≤ maxLen) :
    Calls Tryz.prog 16 #[.string s] w fun e w' => e = .returned (.bool (depO s.data.toList).isSome) ∧ Below w.heap.size w w' := by
  have HD := Lib.hid (fun (W : World) => implDepthOf_any s W hs)
  obtain ⟨x, hxy⟩ := depV_ok (depO s.data.toList)
  rw [hxy] at HD
  clear hxy
  generalize (depO s.data.toList).isSome = y at *
  go_enter Tryz.func16, Tryz.ntmps16
  go_wp2_with fail
  refine (HD.out _).mono ?_
  rintro e w1 ⟨rfl, hb⟩
  have HB := Lib.hid hb; clear hb
  go_wp2_with fail
  go_ret
  exact ⟨rfl, HB.out⟩
end Go.Proofs.YtkjmocdhhndlgaaGreatDoor
