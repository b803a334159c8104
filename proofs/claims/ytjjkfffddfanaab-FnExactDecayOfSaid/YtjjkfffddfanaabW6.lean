/- SplitsOf, PartsOf, IsElement, DecayOf: the program's and the model's, and the laws' walks. -/
import Derived.Test.YtjjkfffddfanaabK11
import Derived.Test.YtjjkfffddfanaabE2
namespace Go.Proofs.Ytjjkfffddfanaab
open Go.RowKit Go.BigFrame
set_option linter.unusedSimpArgs false
set_option linter.unusedVariables false
set_option maxRecDepth 4000

/-- A row of texts and a bool, or nil and false. -/
def StrsOkB (b : Bool) (ls : List (List UInt8)) (w w' : World) (e : Ending) : Prop :=
  ∃ v, e = .returned (.tuple #[v, .bool b]) ∧ Strs w' w.heap.size v (if b = true then ls else []) ∧ Below w.heap.size w w'
theorem elB_size {s : ByteArray} (h : elB s.data.toList = true) : sayB s.data.toList = true ∧ s.size ≤ 60 := by
  obtain ⟨_, h1, h2⟩ := elB_parts h
  exact ⟨h1, by rw [← size_list]; exact h2⟩

theorem specSplitsOf_any (s : ByteArray) (w : World) (hs : s.size ≤ maxLen) :
    Calls Try.prog 34 #[.string s] w fun e w' => IntsOk (elB s.data.toList) (natsI (splitsL s.data.toList)) w w' e := by
  cases hk : elB s.data.toList with
  | false =>
    have HK := Lib.hid hk; clear hk
    go_enter Try.func34, Try.ntmps34
    go_wp2_with fail
    refine (elGood_any s w hs).mono ?_
    rintro e w1 ⟨rfl, hb⟩
    rw [HK.out]
    have HB := Lib.hid hb; clear hb
    go_wp2_with fail
    go_ret2
    exact ⟨_, rfl, World.ownsRow_nil _ _ _ _, HB.out⟩
  | true =>
    obtain ⟨hsp, h60⟩ := elB_size hk
    have HK := Lib.hid hk; have HC := Lib.hid (fun (W : World) => elSplits_any s W hsp (by omega)); clear hk hsp
    go_enter Try.func34, Try.ntmps34
    go_wp2_with fail
    refine (elGood_any s w hs).mono ?_
    rintro e w1 ⟨rfl, hb⟩
    rw [HK.out]
    have HB := Lib.hid hb; clear hb
    go_wp2_with fail
    refine (HC.out w1).mono ?_
    rintro e w2 ⟨v, rfl, hv, hb2⟩
    have HV := Lib.hid hv; have HB2 := Lib.hid hb2; clear hv hb2
    go_wp2_with fail
    go_ret2
    exact ⟨_, rfl, by rw [if_pos rfl]; exact own_mono HV.out HB.out.size, below_trans HB.out HB2.out⟩

theorem implSplitsOf_any (s : ByteArray) (w : World) (hs : s.size ≤ maxLen) :
    Calls Try.prog 35 #[.string s] w fun e w' => IntsOk (elB s.data.toList) (natsI (splitsL s.data.toList)) w w' e := by
  cases hk : elB s.data.toList with
  | false =>
    have HK := Lib.hid hk; clear hk
    go_enter Try.func35, Try.ntmps35
    go_wp2_with fail
    refine (isShort_any s w hs).mono ?_
    rintro e w1 ⟨rfl, hb⟩
    rw [HK.out]
    have HB := Lib.hid hb; clear hb
    go_wp2_with fail
    go_ret2
    exact ⟨_, rfl, World.ownsRow_nil _ _ _ _, HB.out⟩
  | true =>
    obtain ⟨hsp, h60⟩ := elB_size hk
    have HK := Lib.hid hk; have HC := Lib.hid (fun (W : World) => splitPlaces_any s W hsp (by omega)); clear hk hsp
    go_enter Try.func35, Try.ntmps35
    go_wp2_with fail
    refine (isShort_any s w hs).mono ?_
    rintro e w1 ⟨rfl, hb⟩
    rw [HK.out]
    have HB := Lib.hid hb; clear hb
    go_wp2_with fail
    refine (HC.out w1).mono ?_
    rintro e w2 ⟨v, rfl, hv, hb2⟩
    have HV := Lib.hid hv; have HB2 := Lib.hid hb2; clear hv hb2
    go_wp2_with fail
    go_ret2
    exact ⟨_, rfl, by rw [if_pos rfl]; exact own_mono HV.out HB.out.size, below_trans HB.out HB2.out⟩

theorem specPartsOf_any (s : ByteArray) (w : World) (hs : s.size ≤ maxLen) :
    Calls Try.prog 36 #[.string s] w fun e w' => StrsOkB (elB s.data.toList) (partsL s.data.toList) w w' e := by
  cases hk : elB s.data.toList with
  | false =>
    have HK := Lib.hid hk; clear hk
    go_enter Try.func36, Try.ntmps36
    go_wp2_with fail
    refine (elGood_any s w hs).mono ?_
    rintro e w1 ⟨rfl, hb⟩
    rw [HK.out]
    have HB := Lib.hid hb; clear hb
    go_wp2_with fail
    go_ret2
    exact ⟨_, rfl, World.ownsRow_nil _ _ _ _, HB.out⟩
  | true =>
    obtain ⟨hsp, h60⟩ := elB_size hk
    have HK := Lib.hid hk; have HC := Lib.hid (fun (W : World) => elParts_any s W hsp (by omega)); clear hk hsp
    go_enter Try.func36, Try.ntmps36
    go_wp2_with fail
    refine (elGood_any s w hs).mono ?_
    rintro e w1 ⟨rfl, hb⟩
    rw [HK.out]
    have HB := Lib.hid hb; clear hb
    go_wp2_with fail
    refine (HC.out w1).mono ?_
    rintro e w2 ⟨v, rfl, hv, hb2⟩
    have HV := Lib.hid hv; have HB2 := Lib.hid hb2; clear hv hb2
    go_wp2_with fail
    go_ret2
    exact ⟨_, rfl, by rw [if_pos rfl]; exact own_mono HV.out HB.out.size, below_trans HB.out HB2.out⟩

theorem implPartsOf_any (s : ByteArray) (w : World) (hs : s.size ≤ maxLen) :
    Calls Try.prog 37 #[.string s] w fun e w' => StrsOkB (elB s.data.toList) (partsL s.data.toList) w w' e := by
  cases hk : elB s.data.toList with
  | false =>
    have HK := Lib.hid hk; clear hk
    go_enter Try.func37, Try.ntmps37
    go_wp2_with fail
    refine (isShort_any s w hs).mono ?_
    rintro e w1 ⟨rfl, hb⟩
    rw [HK.out]
    have HB := Lib.hid hb; clear hb
    go_wp2_with fail
    go_ret2
    exact ⟨_, rfl, World.ownsRow_nil _ _ _ _, HB.out⟩
  | true =>
    obtain ⟨hsp, h60⟩ := elB_size hk
    have HK := Lib.hid hk; have HC := Lib.hid (fun (W : World) => cutAtSplits_any s W hsp (by omega)); clear hk hsp
    go_enter Try.func37, Try.ntmps37
    go_wp2_with fail
    refine (isShort_any s w hs).mono ?_
    rintro e w1 ⟨rfl, hb⟩
    rw [HK.out]
    have HB := Lib.hid hb; clear hb
    go_wp2_with fail
    refine (HC.out w1).mono ?_
    rintro e w2 ⟨v, rfl, hv, hb2⟩
    have HV := Lib.hid hv; have HB2 := Lib.hid hb2; clear hv hb2
    go_wp2_with fail
    go_ret2
    exact ⟨_, rfl, by rw [if_pos rfl]; exact own_mono HV.out HB.out.size, below_trans HB.out HB2.out⟩

/-- Does a text split nowhere? -/
def elemB (l : List UInt8) : Bool := decide ((splitsL l).length = 0)
theorem specIsElement_any (s : ByteArray) (w : World) (hs : s.size ≤ maxLen) :
    Calls Try.prog 41 #[.string s] w fun e w' => e = .returned (.tuple #[.bool (elB s.data.toList && elemB s.data.toList), .bool (elB s.data.toList)]) ∧ Below w.heap.size w w' := by
  cases hk : elB s.data.toList with
  | false =>
    have HK := Lib.hid hk; clear hk
    go_enter Try.func41, Try.ntmps41
    go_wp2_with fail
    refine (elGood_any s w hs).mono ?_
    rintro e w1 ⟨rfl, hb⟩
    rw [HK.out]
    have HB := Lib.hid hb; clear hb
    go_wp2_with fail
    go_ret2
    exact ⟨rfl, HB.out⟩
  | true =>
    obtain ⟨hsp, h60⟩ := elB_size hk
    have HK := Lib.hid hk; have HC := Lib.hid (fun (W : World) => elSplits_any s W hsp (by omega)); clear hk hsp
    have hel : elemB s.data.toList = decide (((natsI (splitsL s.data.toList)).length : Int) = 0) := by unfold elemB; rw [natsI_len]; simp only [decide_eq_decide]; omega
    have HEL := Lib.hid hel; clear hel
    go_enter Try.func41, Try.ntmps41
    go_wp2_with fail
    refine (elGood_any s w hs).mono ?_
    rintro e w1 ⟨rfl, hb⟩
    rw [HK.out]
    have HB := Lib.hid hb; clear hb
    go_wp2_with fail
    refine (HC.out w1).mono ?_
    rintro e w2 ⟨v, rfl, hv, hb2⟩
    have hle := own_le hv
    obtain ⟨av, cv, rfl⟩ := own_slice hv
    have HB2 := Lib.hid hb2; clear hv hb2
    generalize (natsI (splitsL s.data.toList)).length = n at *
    go_wp2_with fail
    go_ret2
    exact ⟨by rw [HEL.out]; simp; rw [Bool.eq_iff_iff]; simp, below_trans HB.out HB2.out⟩

theorem implIsElement_any (s : ByteArray) (w : World) (hs : s.size ≤ maxLen) :
    Calls Try.prog 42 #[.string s] w fun e w' => e = .returned (.tuple #[.bool (elB s.data.toList && elemB s.data.toList), .bool (elB s.data.toList)]) ∧ Below w.heap.size w w' := by
  cases hk : elB s.data.toList with
  | false =>
    have HK := Lib.hid hk; clear hk
    go_enter Try.func42, Try.ntmps42
    go_wp2_with fail
    refine (isShort_any s w hs).mono ?_
    rintro e w1 ⟨rfl, hb⟩
    rw [HK.out]
    have HB := Lib.hid hb; clear hb
    go_wp2_with fail
    go_ret2
    exact ⟨rfl, HB.out⟩
  | true =>
    obtain ⟨hsp, h60⟩ := elB_size hk
    have HK := Lib.hid hk; have HC := Lib.hid (fun (W : World) => splitPlaces_any s W hsp (by omega)); clear hk hsp
    have hel : elemB s.data.toList = decide (((natsI (splitsL s.data.toList)).length : Int) = 0) := by unfold elemB; rw [natsI_len]; simp only [decide_eq_decide]; omega
    have HEL := Lib.hid hel; clear hel
    go_enter Try.func42, Try.ntmps42
    go_wp2_with fail
    refine (isShort_any s w hs).mono ?_
    rintro e w1 ⟨rfl, hb⟩
    rw [HK.out]
    have HB := Lib.hid hb; clear hb
    go_wp2_with fail
    refine (HC.out w1).mono ?_
    rintro e w2 ⟨v, rfl, hv, hb2⟩
    have hle := own_le hv
    obtain ⟨av, cv, rfl⟩ := own_slice hv
    have HB2 := Lib.hid hb2; clear hv hb2
    generalize (natsI (splitsL s.data.toList)).length = n at *
    go_wp2_with fail
    go_ret2
    exact ⟨by rw [HEL.out]; simp; rw [Bool.eq_iff_iff]; simp, below_trans HB.out HB2.out⟩

theorem splits_bound {l : List UInt8} (h : elB l = true) : (natsI (splitsL l)).length ≤ 1000 := by
  rw [natsI_len]; have h1 := splitsTo_len l l.length; have h2 := (elB_parts h).2.2; unfold splitsL; omega
theorem parts_bound {l : List UInt8} (h : elB l = true) : (partsL l).length ≤ 1000 := by
  rw [partsL_len]; have h1 := splitsTo_len l l.length; have h2 := (elB_parts h).2.2; unfold splitsL; omega

set_option maxHeartbeats 1000000 in
theorem law_SplitsOf (s : ByteArray) (w : World) (hs : s.size ≤ maxLen) :
    Calls Try.prog 11 #[.string s] w fun e w' => e = .returned (.bool true) ∧ Below w.heap.size w w' := by
  by_cases hb : 1048576 < s.size
  · go_enter Try.func11, Try.ntmps11
    go_wp2_with fail
    go_ret
    exact ⟨rfl, Below.refl _ _⟩
  · obtain ⟨y, hy⟩ : ∃ y, y = elB s.data.toList := ⟨_, rfl⟩
    obtain ⟨ns, hn⟩ : ∃ ns, ns = if y = true then natsI (splitsL s.data.toList) else [] := ⟨_, rfl⟩
    have hlen : ns.length ≤ 1000 := by
      rw [hn]
      split
      · rename_i h; rw [hy] at h; exact splits_bound h
      · simp
    have e2 : (y != y) = false := by simp
    obtain ⟨tt, ht⟩ : ∃ tt, tt = 1 + ns.length := ⟨_, rfl⟩
    have ht2 : tt ≤ 1001 := by omega
    have ht1 : 1 ≤ tt := by omega
    have e1 : ((tt : Int) != (tt : Int)) = false := by simp
    have HS := Lib.hid (fun (W : World) => specSplitsOf_any s W hs); have HI := Lib.hid (fun (W : World) => implSplitsOf_any s W hs)
    rw [← hy] at HS HI
    have HN := Lib.hid hn; have HT := Lib.hid ht; have HLEN := Lib.hid hlen
    clear hy hn ht hlen
    go_enter Try.func11, Try.ntmps11
    go_wp2_with fail
    refine (HS.out w).mono ?_
    rintro e w1 ⟨v0, rfl, h2, h3⟩
    rw [← HN.out] at h2
    have A1 := Lib.hid h2; have B1 := Lib.hid h3; clear h2 h3
    go_wp2_with fail
    refine (HI.out w1).mono ?_
    rintro e w2 ⟨v1, rfl, h2, h3⟩
    rw [← HN.out] at h2
    have A2 := Lib.hid h2; have B2 := Lib.hid h3; clear h2 h3
    go_wp2_with fail
    refine (eqIntS_same w2 _ _ v1 v0 ns A2.out (own_below A1.out B2.out)).mono ?_
    rintro e w3 ⟨rfl, h3⟩
    have B3 := Lib.hid h3; clear h3
    go_wp2_with fail
    refine (markIntS_any w3 _ 1 v1 ns (own_below A2.out B3.out) (by have := HLEN.out; omega)).mono ?_
    rintro e w4 ⟨rfl, h4, h5⟩
    rw [← HT.out]
    have hb4 : Below w1.heap.size w3 w4 := (Below.refl _ w3).grown h5 (Nat.le_trans B2.out.size B3.out.size) (fun g hg => ((own_below A2.out B3.out).lt g hg).1)
    have A4 := Lib.hid h4; have B4 := Lib.hid hb4; clear h4 h5 hb4
    go_wp2_with fail
    refine (heldIntS_any w4 _ 1 ns.length v1 A4.out (by have := HLEN.out; omega)).mono ?_
    rintro e w5 ⟨rfl, h5⟩
    rw [← HT.out]
    have B5 := Lib.hid h5; clear h5
    go_wp2_with fail
    refine (HI.out w5).mono ?_
    rintro e w6 ⟨v6, rfl, h2, h3⟩
    rw [← HN.out] at h2
    have A6 := Lib.hid h2; have B6 := Lib.hid h3; clear h2 h3
    go_wp2_with fail
    have C6 := Lib.hid (below_trans (below_trans ((below_trans B2.out B3.out).trans B4.out) B5.out) B6.out)
    have A1' : Hid (Ints w6 w.heap.size v0 ns) := own_below A1.out C6.out
    refine (eqIntS_same w6 _ _ v6 v0 ns A6.out A1'.out).mono ?_
    rintro e w7 ⟨rfl, h7⟩
    have B7 := Lib.hid h7; clear h7
    go_wp2_with fail
    refine (heldIntS_any w7 _ 1 ns.length v1 (own_below A4.out (below_trans B5.out (below_trans B6.out B7.out))) (by have := HLEN.out; omega)).mono ?_
    rintro e w8 ⟨rfl, h8⟩
    rw [← HT.out]
    have B8 := Lib.hid h8; clear h8
    go_wp2_with fail
    go_ret
    exact ⟨rfl, below_trans B1.out (below_trans C6.out (below_trans B7.out B8.out))⟩

set_option maxHeartbeats 1000000 in
theorem law_PartsOf (s : ByteArray) (w : World) (hs : s.size ≤ maxLen) :
    Calls Try.prog 12 #[.string s] w fun e w' => e = .returned (.bool true) ∧ Below w.heap.size w w' := by
  by_cases hb : 1048576 < s.size
  · go_enter Try.func12, Try.ntmps12
    go_wp2_with fail
    go_ret
    exact ⟨rfl, Below.refl _ _⟩
  · obtain ⟨y, hy⟩ : ∃ y, y = elB s.data.toList := ⟨_, rfl⟩
    obtain ⟨ns, hn⟩ : ∃ ns, ns = if y = true then partsL s.data.toList else [] := ⟨_, rfl⟩
    have hlen : ns.length ≤ 1000 := by
      rw [hn]
      split
      · rename_i h; rw [hy] at h; exact parts_bound h
      · simp
    have e2 : (y != y) = false := by simp
    obtain ⟨tt, ht⟩ : ∃ tt, tt = 1 + ns.length := ⟨_, rfl⟩
    have ht2 : tt ≤ 1001 := by omega
    have ht1 : 1 ≤ tt := by omega
    have e1 : ((tt : Int) != (tt : Int)) = false := by simp
    have HS := Lib.hid (fun (W : World) => specPartsOf_any s W hs); have HI := Lib.hid (fun (W : World) => implPartsOf_any s W hs)
    rw [← hy] at HS HI
    have HN := Lib.hid hn; have HT := Lib.hid ht; have HLEN := Lib.hid hlen
    clear hy hn ht hlen
    go_enter Try.func12, Try.ntmps12
    go_wp2_with fail
    refine (HS.out w).mono ?_
    rintro e w1 ⟨v0, rfl, h2, h3⟩
    rw [← HN.out] at h2
    have A1 := Lib.hid h2; have B1 := Lib.hid h3; clear h2 h3
    go_wp2_with fail
    refine (HI.out w1).mono ?_
    rintro e w2 ⟨v1, rfl, h2, h3⟩
    rw [← HN.out] at h2
    have A2 := Lib.hid h2; have B2 := Lib.hid h3; clear h2 h3
    go_wp2_with fail
    refine (eqStringS_same w2 _ _ v1 v0 ns A2.out (own_below A1.out B2.out)).mono ?_
    rintro e w3 ⟨rfl, h3⟩
    have B3 := Lib.hid h3; clear h3
    go_wp2_with fail
    refine (markStringS_any w3 _ 1 v1 ns (own_below A2.out B3.out) (Nat.le_trans B2.out.size B3.out.size) (by have := HLEN.out; omega)).mono ?_
    rintro e w4 ⟨rfl, h4, h5⟩
    rw [← HT.out]
    have A4 := Lib.hid h4; have B4 := Lib.hid h5; clear h4 h5
    go_wp2_with fail
    refine (heldStringS_any w4 _ 1 ns.length v1 A4.out (by have := HLEN.out; omega)).mono ?_
    rintro e w5 ⟨rfl, h5⟩
    rw [← HT.out]
    have B5 := Lib.hid h5; clear h5
    go_wp2_with fail
    refine (HI.out w5).mono ?_
    rintro e w6 ⟨v6, rfl, h2, h3⟩
    rw [← HN.out] at h2
    have A6 := Lib.hid h2; have B6 := Lib.hid h3; clear h2 h3
    go_wp2_with fail
    have C6 := Lib.hid (below_trans (below_trans ((below_trans B2.out B3.out).trans B4.out) B5.out) B6.out)
    have A1' : Hid (Strs w6 w.heap.size v0 ns) := own_below A1.out C6.out
    refine (eqStringS_same w6 _ _ v6 v0 ns A6.out A1'.out).mono ?_
    rintro e w7 ⟨rfl, h7⟩
    have B7 := Lib.hid h7; clear h7
    go_wp2_with fail
    refine (heldStringS_any w7 _ 1 ns.length v1 (own_below A4.out (below_trans B5.out (below_trans B6.out B7.out))) (by have := HLEN.out; omega)).mono ?_
    rintro e w8 ⟨rfl, h8⟩
    rw [← HT.out]
    have B8 := Lib.hid h8; clear h8
    go_wp2_with fail
    go_ret
    exact ⟨rfl, below_trans B1.out (below_trans C6.out (below_trans B7.out B8.out))⟩

theorem law_IsElement (s : ByteArray) (w : World) (hs : s.size ≤ maxLen) :
    Calls Try.prog 13 #[.string s] w fun e w' => e = .returned (.bool true) ∧ Below w.heap.size w w' := by
  by_cases h1 : 1048576 < s.size
  · go_enter Try.func13, Try.ntmps13
    go_wp2_with fail
    go_ret
    exact ⟨rfl, Below.refl _ _⟩
  · have HS := Lib.hid (fun (W : World) => specIsElement_any s W hs); have HI := Lib.hid (fun (W : World) => implIsElement_any s W hs)
    generalize (elB s.data.toList && elemB s.data.toList) = x at *
    generalize elB s.data.toList = y at *
    have e1 : (x != x) = false := by simp
    have e2 : (y != y) = false := by simp
    go_enter Try.func13, Try.ntmps13
    go_wp2_with fail
    refine (HS.out w).mono ?_
    rintro e w1 ⟨rfl, hb⟩
    have B1 := Lib.hid hb; clear hb
    go_wp2_with fail
    refine (HI.out w1).mono ?_
    rintro e w2 ⟨rfl, hb⟩
    have B2 := Lib.hid hb; clear hb
    go_wp2_with fail
    go_ret
    exact ⟨rfl, below_trans B1.out B2.out⟩

/-- Does an element decay into parts that are short enough? -/
def decB (l : List UInt8) : Bool := elB l && elemB l && decide ((sayL l).length ≤ 60)
theorem bs_clone (l : List UInt8) : (bs l).data.toList = l := bs_list l

theorem implDecayOf_any (s : ByteArray) (w : World) (hs : s.size ≤ maxLen) :
    Calls Try.prog 44 #[.string s] w fun e w' => StrsOkB (decB s.data.toList) (partsL (sayL s.data.toList)) w w' e := by
  have HE := Lib.hid (fun (W : World) => implIsElement_any s W hs)
  cases hk : (elB s.data.toList && elemB s.data.toList) with
  | false =>
    rw [hk] at HE
    have HD : Hid (decB s.data.toList = false) := by unfold decB; rw [hk]; rfl
    clear hk
    generalize elB s.data.toList = y at *
    go_enter Try.func44, Try.ntmps44
    go_wp2_with fail
    refine (HE.out w).mono ?_
    rintro e w1 ⟨rfl, hb⟩
    have HB := Lib.hid hb; clear hb
    go_wp2_with fail
    go_ret2
    exact ⟨_, by rw [HD.out]; rfl, by rw [HD.out]; exact World.ownsRow_nil _ _ _ _, HB.out⟩
  | true =>
    rw [hk] at HE
    have hk1 : elB s.data.toList = true := by simp at hk; exact hk.1
    obtain ⟨hsp, h60⟩ := elB_size hk1
    have hsl : (sayL s.data.toList).length ≤ 120 := by have := say_len_le hsp; rw [size_list] at this; omega
    have hsb : sayB (bs (sayL s.data.toList)).data.toList = true := by rw [bs_list]; exact sayB_say hsp
    have HSAY := Lib.hid (fun (W : World) => sayText_long s W hsp (by omega))
    have HCUT := Lib.hid (fun (W : World) => cutAtSplits_any (bs (sayL s.data.toList)) W hsb (by rw [bs_size]; exact hsl))
    rw [hk1] at HE
    rw [bs_list] at HCUT
    have hdq : decB s.data.toList = decide ((sayL s.data.toList).length ≤ 60) := by unfold decB; rw [hk]; rfl
    have hsz : (bs (sayL s.data.toList)).size = (sayL s.data.toList).length := bs_size _
    have HDQ := Lib.hid hdq
    clear hk hk1 hsp hsb hdq
    generalize bs (sayL s.data.toList) = t at *
    by_cases hgt : 60 < t.size
    · have HD := Lib.hid (show decB s.data.toList = false by rw [HDQ.out]; simp; omega)
      clear hsz hsl
      go_enter Try.func44, Try.ntmps44
      go_wp2_with fail
      refine (HE.out w).mono ?_
      rintro e w1 ⟨rfl, hb⟩
      have HB := Lib.hid hb; clear hb
      go_wp2_with fail
      refine (HSAY.out w1).mono ?_
      rintro e w2 ⟨rfl, hb⟩
      have HB2 := Lib.hid (below_trans HB.out hb); clear hb
      go_wp2_with fail
      go_ret2
      exact ⟨_, by rw [HD.out]; rfl, by rw [HD.out]; exact World.ownsRow_nil _ _ _ _, HB2.out⟩
    · have HD := Lib.hid (show decB s.data.toList = true by rw [HDQ.out]; simp; omega)
      have hts : t.size ≤ 120 := by omega
      clear hsz hsl
      go_enter Try.func44, Try.ntmps44
      go_wp2_with fail
      refine (HE.out w).mono ?_
      rintro e w1 ⟨rfl, hb⟩
      have HB := Lib.hid hb; clear hb
      go_wp2_with fail
      refine (HSAY.out w1).mono ?_
      rintro e w2 ⟨rfl, hb⟩
      have HB2 := Lib.hid (below_trans HB.out hb); clear hb
      go_wp2_with fail
      refine (HCUT.out w2).mono ?_
      rintro e w3 ⟨v, rfl, hv, hb⟩
      have HV := Lib.hid hv; have HB3 := Lib.hid (below_trans HB2.out hb); clear hv hb
      go_wp2_with fail
      go_ret2
      exact ⟨_, by rw [HD.out]; rfl, by rw [HD.out, if_pos rfl]; exact own_mono HV.out HB2.out.size, HB3.out⟩

theorem specDecayOf_any (s : ByteArray) (w : World) (hs : s.size ≤ maxLen) :
    Calls Try.prog 43 #[.string s] w fun e w' => StrsOkB (decB s.data.toList) (partsL (sayL s.data.toList)) w w' e := by
  cases hk : elB s.data.toList with
  | false =>
    have HD : Hid (decB s.data.toList = false) := by unfold decB; rw [hk]; rfl
    have HK := Lib.hid hk; clear hk
    go_enter Try.func43, Try.ntmps43
    go_wp2_with fail
    refine (elGood_any s w hs).mono ?_
    rintro e w1 ⟨rfl, hb⟩
    rw [HK.out]
    have HB := Lib.hid hb; clear hb
    go_wp2_with fail
    go_ret2
    exact ⟨_, by rw [HD.out]; rfl, by rw [HD.out]; exact World.ownsRow_nil _ _ _ _, HB.out⟩
  | true =>
    obtain ⟨hsp, h60⟩ := elB_size hk
    have hsp0 := sayB_iff.1 hsp
    have h1s : 1 ≤ s.size := by rw [← size_list]; exact Nat.pos_of_ne_zero (fun e => hsp0.1 (List.eq_nil_of_length_eq_zero e))
    have hsl : (sayL s.data.toList).length ≤ 120 := by have := say_len_le hsp; rw [size_list] at this; omega
    have hsb : sayB (bs (sayL s.data.toList)).data.toList = true := by rw [bs_list]; exact sayB_say hsp
    have HSAY := Lib.hid (fun (W : World) => woSay_any s W h1s (by omega) hsp0.2.1)
    have HCUT := Lib.hid (fun (W : World) => elParts_any (bs (sayL s.data.toList)) W hsb (by rw [bs_size]; exact hsl))
    have HSPL := Lib.hid (fun (W : World) => elSplits_any s W hsp (by omega))
    rw [bs_list] at HCUT
    have hdq : decB s.data.toList = (decide ((natsI (splitsL s.data.toList)).length = 0) && decide ((sayL s.data.toList).length ≤ 60)) := by unfold decB elemB; rw [hk, natsI_len]; rfl
    have hsz : (bs (sayL s.data.toList)).size = (sayL s.data.toList).length := bs_size _
    have HDQ := Lib.hid hdq; have HK := Lib.hid hk
    clear hk hsp hsp0 hsb hdq
    generalize bs (sayL s.data.toList) = t at *
    by_cases hn0 : (natsI (splitsL s.data.toList)).length = 0
    · by_cases hgt : 60 < t.size
      · have HD := Lib.hid (show decB s.data.toList = false by rw [HDQ.out, hn0]; simp; omega)
        clear hsz hsl
        go_enter Try.func43, Try.ntmps43
        go_wp2_with fail
        refine (elGood_any s w hs).mono ?_
        rintro e w1 ⟨rfl, hb⟩
        rw [HK.out]
        have HB := Lib.hid hb; clear hb
        go_wp2_with fail
        refine (HSPL.out w1).mono ?_
        rintro e w2 ⟨v, rfl, hv, hb⟩
        obtain ⟨av, cv, rfl⟩ := own_slice hv
        have HB2 := Lib.hid (below_trans HB.out hb); clear hv hb
        go_wp2_with fail
        refine (HSAY.out w2).mono ?_
        rintro e w3 ⟨rfl, hb⟩
        have HB3 := Lib.hid (below_trans HB2.out hb); clear hb
        go_wp2_with fail
        go_ret2
        exact ⟨_, by rw [HD.out]; rfl, by rw [HD.out]; exact World.ownsRow_nil _ _ _ _, HB3.out⟩
      · have HD := Lib.hid (show decB s.data.toList = true by rw [HDQ.out, hn0]; simp; omega)
        have hts : t.size ≤ 120 := by omega
        clear hsz hsl
        go_enter Try.func43, Try.ntmps43
        go_wp2_with fail
        refine (elGood_any s w hs).mono ?_
        rintro e w1 ⟨rfl, hb⟩
        rw [HK.out]
        have HB := Lib.hid hb; clear hb
        go_wp2_with fail
        refine (HSPL.out w1).mono ?_
        rintro e w2 ⟨v, rfl, hv, hb⟩
        obtain ⟨av, cv, rfl⟩ := own_slice hv
        have HB2 := Lib.hid (below_trans HB.out hb); clear hv hb
        go_wp2_with fail
        refine (HSAY.out w2).mono ?_
        rintro e w3 ⟨rfl, hb⟩
        have HB3 := Lib.hid (below_trans HB2.out hb); clear hb
        go_wp2_with fail
        refine (HSAY.out w3).mono ?_
        rintro e w4 ⟨rfl, hb⟩
        have HB4 := Lib.hid (below_trans HB3.out hb); clear hb
        go_wp2_with fail
        refine (HCUT.out w4).mono ?_
        rintro e w5 ⟨v, rfl, hv, hb⟩
        have HV := Lib.hid hv; have HB5 := Lib.hid (below_trans HB4.out hb); clear hv hb
        go_wp2_with fail
        go_ret2
        exact ⟨_, by rw [HD.out]; rfl, by rw [HD.out, if_pos rfl]; exact own_mono HV.out HB4.out.size, HB5.out⟩
    · have HD := Lib.hid (show decB s.data.toList = false by rw [HDQ.out]; simp [hn0])
      clear hsz hsl
      go_enter Try.func43, Try.ntmps43
      go_wp2_with fail
      refine (elGood_any s w hs).mono ?_
      rintro e w1 ⟨rfl, hb⟩
      rw [HK.out]
      have HB := Lib.hid hb; clear hb
      go_wp2_with fail
      refine (HSPL.out w1).mono ?_
      rintro e w2 ⟨v, rfl, hv, hb⟩
      have hle := own_le hv
      obtain ⟨av, cv, rfl⟩ := own_slice hv
      have HB2 := Lib.hid (below_trans HB.out hb); clear hv hb
      have hpos : 0 < (natsI (splitsL s.data.toList)).length := by omega
      generalize (natsI (splitsL s.data.toList)).length = n at *
      go_wp2_with fail
      go_ret2
      exact ⟨_, by rw [HD.out]; rfl, by rw [HD.out]; exact World.ownsRow_nil _ _ _ _, HB2.out⟩

theorem decay_bound {l : List UInt8} (h : decB l = true) : (partsL (sayL l)).length ≤ 1000 := by
  unfold decB at h
  simp only [Bool.and_eq_true, decide_eq_true_eq] at h
  rw [partsL_len]; have h1 := splitsTo_len (sayL l) (sayL l).length; unfold splitsL; omega

set_option maxHeartbeats 1000000 in
theorem law_DecayOf (s : ByteArray) (w : World) (hs : s.size ≤ maxLen) :
    Calls Try.prog 14 #[.string s] w fun e w' => e = .returned (.bool true) ∧ Below w.heap.size w w' := by
  by_cases hb : 1048576 < s.size
  · go_enter Try.func14, Try.ntmps14
    go_wp2_with fail
    go_ret
    exact ⟨rfl, Below.refl _ _⟩
  · obtain ⟨y, hy⟩ : ∃ y, y = decB s.data.toList := ⟨_, rfl⟩
    obtain ⟨ns, hn⟩ : ∃ ns, ns = if y = true then partsL (sayL s.data.toList) else [] := ⟨_, rfl⟩
    have hlen : ns.length ≤ 1000 := by
      rw [hn]
      split
      · rename_i h; rw [hy] at h; exact decay_bound h
      · simp
    have e2 : (y != y) = false := by simp
    obtain ⟨tt, ht⟩ : ∃ tt, tt = 1 + ns.length := ⟨_, rfl⟩
    have ht2 : tt ≤ 1001 := by omega
    have ht1 : 1 ≤ tt := by omega
    have e1 : ((tt : Int) != (tt : Int)) = false := by simp
    have HS := Lib.hid (fun (W : World) => specDecayOf_any s W hs); have HI := Lib.hid (fun (W : World) => implDecayOf_any s W hs)
    rw [← hy] at HS HI
    have HN := Lib.hid hn; have HT := Lib.hid ht; have HLEN := Lib.hid hlen
    clear hy hn ht hlen
    go_enter Try.func14, Try.ntmps14
    go_wp2_with fail
    refine (HS.out w).mono ?_
    rintro e w1 ⟨v0, rfl, h2, h3⟩
    rw [← HN.out] at h2
    have A1 := Lib.hid h2; have B1 := Lib.hid h3; clear h2 h3
    go_wp2_with fail
    refine (HI.out w1).mono ?_
    rintro e w2 ⟨v1, rfl, h2, h3⟩
    rw [← HN.out] at h2
    have A2 := Lib.hid h2; have B2 := Lib.hid h3; clear h2 h3
    go_wp2_with fail
    refine (eqStringS_same w2 _ _ v1 v0 ns A2.out (own_below A1.out B2.out)).mono ?_
    rintro e w3 ⟨rfl, h3⟩
    have B3 := Lib.hid h3; clear h3
    go_wp2_with fail
    refine (markStringS_any w3 _ 1 v1 ns (own_below A2.out B3.out) (Nat.le_trans B2.out.size B3.out.size) (by have := HLEN.out; omega)).mono ?_
    rintro e w4 ⟨rfl, h4, h5⟩
    rw [← HT.out]
    have A4 := Lib.hid h4; have B4 := Lib.hid h5; clear h4 h5
    go_wp2_with fail
    refine (heldStringS_any w4 _ 1 ns.length v1 A4.out (by have := HLEN.out; omega)).mono ?_
    rintro e w5 ⟨rfl, h5⟩
    rw [← HT.out]
    have B5 := Lib.hid h5; clear h5
    go_wp2_with fail
    refine (HI.out w5).mono ?_
    rintro e w6 ⟨v6, rfl, h2, h3⟩
    rw [← HN.out] at h2
    have A6 := Lib.hid h2; have B6 := Lib.hid h3; clear h2 h3
    go_wp2_with fail
    have C6 := Lib.hid (below_trans (below_trans ((below_trans B2.out B3.out).trans B4.out) B5.out) B6.out)
    have A1' : Hid (Strs w6 w.heap.size v0 ns) := own_below A1.out C6.out
    refine (eqStringS_same w6 _ _ v6 v0 ns A6.out A1'.out).mono ?_
    rintro e w7 ⟨rfl, h7⟩
    have B7 := Lib.hid h7; clear h7
    go_wp2_with fail
    refine (heldStringS_any w7 _ 1 ns.length v1 (own_below A4.out (below_trans B5.out (below_trans B6.out B7.out))) (by have := HLEN.out; omega)).mono ?_
    rintro e w8 ⟨rfl, h8⟩
    rw [← HT.out]
    have B8 := Lib.hid h8; clear h8
    go_wp2_with fail
    go_ret
    exact ⟨rfl, below_trans B1.out (below_trans C6.out (below_trans B7.out B8.out))⟩

end Go.Proofs.Ytjjkfffddfanaab
