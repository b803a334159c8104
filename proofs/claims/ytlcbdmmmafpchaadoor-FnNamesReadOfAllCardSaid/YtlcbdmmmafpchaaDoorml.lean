/- Chapter 8: names compared. -/
import Derived.Test.YtlcbdmmmafpchaaDoormk
import Derived.WalkLawsBesides
namespace Go.Proofs.YtlcbdmmmafpchaaDoor
open Go.RowKit Go.BigFrame
set_option linter.unusedSimpArgs false
set_option linter.unusedVariables false
set_option maxRecDepth 4000

/-- One text comes before another. -/
def blB (a b : List UInt8) : Bool := Op.bytesLess (bs a).toList (bs b).toList
def cmpS (a b : List UInt8) : Int := if blB a b = true then -1 else if a = b then 0 else 1
theorem bs_eqB {a b : List UInt8} : ((bs a).toList == (bs b).toList) = decide (a = b) := by
  rw [Go.Lib.toList_data, Go.Lib.toList_data, bs_list, bs_list]
  by_cases h : a = b
  · simp [h]
  · rw [decide_eq_false h]; simpa using h
def ltO (n : Int) : List UInt8 := ltN n.toNat
def cmpO (a b : Int) : Int := if (nmB a && nmB b) = true then cmpS (ltO a) (ltO b) else 0

theorem isNaNS_is (a : List UInt8) (w : World) : Calls Tryd.prog 103 #[.string (bs a)] w fun e w' => e = .returned (.bool false) ∧ w = w' := by
  obtain ⟨t, ht⟩ : ∃ t, t = bs a := ⟨_, rfl⟩
  rw [← ht]
  have hx : (t.toList != t.toList) = false := by simp
  clear ht
  go_enter Tryd.func103, Tryd.ntmps103
  go_wp2_with fail
  go_ret
  exact ⟨rfl, rfl⟩

set_option maxHeartbeats 1000000 in
theorem compareS_is (a b : List UInt8) (w : World) : Calls Tryd.prog 83 #[.string (bs a), .string (bs b)] w fun e w' => e = .returned (.int .i64 (cmpS a b)) ∧ w = w' := by
  have HA := Lib.hid (fun W => isNaNS_is a W)
  have HB := Lib.hid (fun W => isNaNS_is b W)
  obtain ⟨s, hs⟩ : ∃ s, s = bs a := ⟨_, rfl⟩
  obtain ⟨t, ht⟩ : ∃ t, t = bs b := ⟨_, rfl⟩
  have h1 : Op.bytesLess s.toList t.toList = blB a b := by rw [hs, ht]; rfl
  have h2 : (s.toList == t.toList) = decide (a = b) := by rw [hs, ht]; exact bs_eqB
  rw [← hs, ← ht]; rw [← hs] at HA; rw [← ht] at HB
  unfold cmpS
  clear hs ht
  cases g1 : blB a b with
  | true =>
    rw [g1] at h1
    rw [if_pos rfl]
    clear h2 g1
    go_enter Tryd.func83, Tryd.ntmps83
    go_wp2_with fail
    refine (HA.out _).mono ?_
    rintro e w1 ⟨rfl, rfl⟩
    go_wp2_with fail
    refine (HB.out _).mono ?_
    rintro e w1 ⟨rfl, rfl⟩
    go_wp2_with fail
    go_ret
    exact ⟨rfl, rfl⟩
  | false =>
    rw [g1] at h1
    rw [if_neg (by simp)]
    by_cases g2 : a = b
    · rw [decide_eq_true g2] at h2
      rw [if_pos g2]
      clear g1 g2
      go_enter Tryd.func83, Tryd.ntmps83
      go_wp2_with fail
      refine (HA.out _).mono ?_
      rintro e w1 ⟨rfl, rfl⟩
      go_wp2_with fail
      refine (HB.out _).mono ?_
      rintro e w1 ⟨rfl, rfl⟩
      go_wp2_with fail
      go_ret
      exact ⟨rfl, rfl⟩
    · rw [decide_eq_false g2] at h2
      rw [if_neg g2]
      clear g1 g2
      go_enter Tryd.func83, Tryd.ntmps83
      go_wp2_with fail
      refine (HA.out _).mono ?_
      rintro e w1 ⟨rfl, rfl⟩
      go_wp2_with fail
      refine (HB.out _).mono ?_
      rintro e w1 ⟨rfl, rfl⟩
      go_wp2_with fail
      go_ret
      exact ⟨rfl, rfl⟩

set_option maxHeartbeats 2000000 in
theorem implCompareNames_any (a b : Int) (w : World) (NA : NamesAt w) :
    Calls Tryd.prog 37 #[.int .i64 a, .int .i64 b] w fun e w' => e = .returned (.tuple #[.int .i64 (cmpO a b), .bool (nmB a && nmB b)]) ∧ Below w.heap.size w w' := by
  have HG := Lib.hid (fun n W => isNamed_is n W)
  cases ha : nmB a with
  | false =>
    have e : cmpO a b = 0 := by unfold cmpO; rw [ha]; rfl
    rw [e, Bool.false_and]
    have HA := Lib.hid (fun W => HG.out a W)
    rw [ha] at HA
    clear e ha NA HG
    go_enter Tryd.func37, Tryd.ntmps37
    go_wp2_with fail
    refine (HA.out _).mono ?_
    rintro e w1 ⟨rfl, rfl⟩
    go_wp2_with fail
    go_ret2
    exact ⟨rfl, below_refl _⟩
  | true =>
    have HA := Lib.hid (fun W => HG.out a W)
    have HB := Lib.hid (fun W => HG.out b W)
    rw [ha] at HA
    cases hb : nmB b with
    | false =>
      have e : cmpO a b = 0 := by unfold cmpO; rw [ha, hb]; rfl
      rw [e, Bool.true_and]
      rw [hb] at HB
      clear e ha NA HG hb
      go_enter Tryd.func37, Tryd.ntmps37
      go_wp2_with fail
      refine (HA.out _).mono ?_
      rintro e w1 ⟨rfl, rfl⟩
      go_wp2_with fail
      refine (HB.out _).mono ?_
      rintro e w1 ⟨rfl, rfl⟩
      go_wp2_with fail
      go_ret2
      exact ⟨rfl, below_refl _⟩
    | true =>
      have e : cmpO a b = cmpS (ltO a) (ltO b) := by unfold cmpO; rw [ha, hb]; rfl
      rw [e, Bool.true_and]
      rw [hb] at HB
      obtain ⟨k, rfl, hk⟩ := nmB_parts ha
      obtain ⟨m, rfl, hm⟩ := nmB_parts hb
      have HSA := Lib.hid (spelledOut_any k w hk NA)
      have HSB := Lib.hid (fun (W : World) (hW : Below w.heap.size w W) => spelledOut_any m W hm (NA.below hW))
      have HC := Lib.hid (fun W => compareS_is (ltN k) (ltN m) W)
      have e1 : ltO (k : Int) = ltN k := rfl
      have e2 : ltO (m : Int) = ltN m := rfl
      rw [e1, e2]
      generalize cmpS (ltN k) (ltN m) = R at *
      generalize ltN k = A at *
      generalize ltN m = B at *
      clear e ha NA HG hb hk hm e1 e2
      go_enter Tryd.func37, Tryd.ntmps37
      go_wp2_with fail
      refine (HA.out _).mono ?_
      rintro e w1 ⟨rfl, rfl⟩
      go_wp2_with fail
      refine (HB.out _).mono ?_
      rintro e w1 ⟨rfl, rfl⟩
      go_wp2_with fail
      refine HSA.out.mono ?_
      rintro e w1 ⟨rfl, hb⟩
      have HB1 := Lib.hid hb; clear hb
      go_wp2_with fail
      refine (HSB.out _ HB1.out).mono ?_
      rintro e w2 ⟨rfl, hb⟩
      have HB2 := Lib.hid (below_trans HB1.out hb); clear hb
      go_wp2_with fail
      refine (HC.out _).mono ?_
      rintro e w3 ⟨rfl, rfl⟩
      go_wp2_with fail
      go_ret2
      exact ⟨rfl, HB2.out⟩

set_option maxHeartbeats 2000000 in
theorem specCompareNames_any (a b : Int) (w : World) :
    Calls Tryd.prog 40 #[.int .i64 a, .int .i64 b] w fun e w' => e = .returned (.tuple #[.int .i64 (cmpO a b), .bool (nmB a && nmB b)]) ∧ Below w.heap.size w w' := by
  have HG := Lib.hid (fun n W => naGood_is n W)
  cases ha : nmB a with
  | false =>
    have e : cmpO a b = 0 := by unfold cmpO; rw [ha]; rfl
    rw [e, Bool.false_and]
    have HA := Lib.hid (fun W => HG.out a W)
    rw [ha] at HA
    clear e ha HG
    go_enter Tryd.func40, Tryd.ntmps40
    go_wp2_with fail
    refine (HA.out _).mono ?_
    rintro e w1 ⟨rfl, rfl⟩
    go_wp2_with fail
    go_ret2
    exact ⟨rfl, below_refl _⟩
  | true =>
    have HA := Lib.hid (fun W => HG.out a W)
    have HB := Lib.hid (fun W => HG.out b W)
    rw [ha] at HA
    cases hb : nmB b with
    | false =>
      have e : cmpO a b = 0 := by unfold cmpO; rw [ha, hb]; rfl
      rw [e, Bool.true_and]
      rw [hb] at HB
      clear e ha HG hb
      go_enter Tryd.func40, Tryd.ntmps40
      go_wp2_with fail
      refine (HA.out _).mono ?_
      rintro e w1 ⟨rfl, rfl⟩
      go_wp2_with fail
      refine (HB.out _).mono ?_
      rintro e w1 ⟨rfl, rfl⟩
      go_wp2_with fail
      go_ret2
      exact ⟨rfl, below_refl _⟩
    | true =>
      have e : cmpO a b = cmpS (ltO a) (ltO b) := by unfold cmpO; rw [ha, hb]; rfl
      rw [e, Bool.true_and]
      rw [hb] at HB
      obtain ⟨k, rfl, hk⟩ := nmB_parts ha
      obtain ⟨m, rfl, hm⟩ := nmB_parts hb
      have HSA := Lib.hid (fun (W : World) => naLetters_any k W hk)
      have HSB := Lib.hid (fun (W : World) => naLetters_any m W hm)
      have e1 : ltO (k : Int) = ltN k := rfl
      have e2 : ltO (m : Int) = ltN m := rfl
      rw [e1, e2]
      obtain ⟨s, hs⟩ : ∃ s, s = bs (ltN k) := ⟨_, rfl⟩
      obtain ⟨t, ht⟩ : ∃ t, t = bs (ltN m) := ⟨_, rfl⟩
      have h1 : Op.bytesLess s.toList t.toList = blB (ltN k) (ltN m) := by rw [hs, ht]; rfl
      have h2 : (s.toList == t.toList) = decide (ltN k = ltN m) := by rw [hs, ht]; exact bs_eqB
      rw [← hs] at HSA; rw [← ht] at HSB
      unfold cmpS
      clear e ha HG hb hk hm e1 e2 hs ht
      cases g1 : blB (ltN k) (ltN m) with
      | true =>
        rw [g1] at h1
        rw [if_pos rfl]
        clear h2 g1
        go_enter Tryd.func40, Tryd.ntmps40
        go_wp2_with fail
        refine (HA.out _).mono ?_
        rintro e w1 ⟨rfl, rfl⟩
        go_wp2_with fail
        refine (HB.out _).mono ?_
        rintro e w1 ⟨rfl, rfl⟩
        go_wp2_with fail
        refine (HSA.out _).mono ?_
        rintro e w1 ⟨rfl, hb⟩
        have HB1 := Lib.hid hb; clear hb
        go_wp2_with fail
        refine (HSB.out _).mono ?_
        rintro e w2 ⟨rfl, hb⟩
        have HB2 := Lib.hid (below_trans HB1.out hb); clear hb
        go_wp2_with fail
        go_ret2
        exact ⟨rfl, HB2.out⟩
      | false =>
        rw [g1] at h1
        rw [if_neg (by simp)]
        by_cases g2 : ltN k = ltN m
        · rw [decide_eq_true g2] at h2
          rw [if_pos g2]
          clear g1 g2
          go_enter Tryd.func40, Tryd.ntmps40
          go_wp2_with fail
          refine (HA.out _).mono ?_
          rintro e w1 ⟨rfl, rfl⟩
          go_wp2_with fail
          refine (HB.out _).mono ?_
          rintro e w1 ⟨rfl, rfl⟩
          go_wp2_with fail
          refine (HSA.out _).mono ?_
          rintro e w1 ⟨rfl, hb⟩
          have HB1 := Lib.hid hb; clear hb
          go_wp2_with fail
          refine (HSB.out _).mono ?_
          rintro e w2 ⟨rfl, hb⟩
          have HB2 := Lib.hid (below_trans HB1.out hb); clear hb
          go_wp2_with fail
          go_ret2
          exact ⟨rfl, HB2.out⟩
        · rw [decide_eq_false g2] at h2
          rw [if_neg g2]
          clear g1 g2
          go_enter Tryd.func40, Tryd.ntmps40
          go_wp2_with fail
          refine (HA.out _).mono ?_
          rintro e w1 ⟨rfl, rfl⟩
          go_wp2_with fail
          refine (HB.out _).mono ?_
          rintro e w1 ⟨rfl, rfl⟩
          go_wp2_with fail
          refine (HSA.out _).mono ?_
          rintro e w1 ⟨rfl, hb⟩
          have HB1 := Lib.hid hb; clear hb
          go_wp2_with fail
          refine (HSB.out _).mono ?_
          rintro e w2 ⟨rfl, hb⟩
          have HB2 := Lib.hid (below_trans HB1.out hb); clear hb
          go_wp2_with fail
          go_ret2
          exact ⟨rfl, HB2.out⟩
end Go.Proofs.YtlcbdmmmafpchaaDoor
