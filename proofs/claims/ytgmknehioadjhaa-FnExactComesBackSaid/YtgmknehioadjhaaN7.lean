/- The elements from a word: ElementsFrom, CountElements: the model's, the program's, the laws. -/
import Derived.Test.YtgmknehioadjhaaN6
import Derived.Test.YtgmknehioadjhaaE3
namespace Go.Proofs.Ytgmknehioadjhaa
open Go.RowKit Go.BigFrame Go.Maps
set_option linter.unusedSimpArgs false
set_option linter.unusedVariables false
set_option maxRecDepth 4000

/-- The elements from a word, if there are any. -/
def tabQ (l : List UInt8) : Option (List (List UInt8)) := if elB l = true then tabF l else none
def tabB (l : List UInt8) : Bool := (tabQ l).isSome
def tabL (l : List UInt8) : List (List UInt8) := (tabQ l).getD []
theorem runF_le : ∀ (f k : Nat) (ns r : List (List UInt8)), runF f k ns = some r → ns.length ≤ 200 → r.length ≤ 200
  | 0, _, _, _, h, _ => by cases h
  | f + 1, k, ns, r, h, hn => by
    rw [runF] at h
    split at h
    · split at h
      · cases h
      · split at h
        · cases h
        · exact runF_le f _ _ _ h (by omega)
    · cases h; exact hn
theorem tabQ_le {l : List UInt8} {r : List (List UInt8)} (h : tabQ l = some r) : r.length ≤ 200 := by
  unfold tabQ at h
  split at h
  · rename_i hb
    obtain ⟨_, h1, h2⟩ := elB_parts hb
    refine runF_le _ _ _ _ h ?_
    have := (nmT_len (partsL l) []).2
    have := parts_len h1
    simp at *; omega
  · cases h
theorem tabL_le (l : List UInt8) : (tabL l).length ≤ 200 := by
  unfold tabL
  cases h : tabQ l with
  | none => simp
  | some r => exact tabQ_le h

theorem elAsked_any (s : ByteArray) (w : World) (hs : s.size ≤ maxLen) :
    Calls Try.prog 36 #[.string s] w fun e w' => ElPost (partsL s.data.toList) (tabQ s.data.toList) w w' e := by
  cases hk : elB s.data.toList with
  | false =>
    have HQ : Hid (tabQ s.data.toList = none) := Lib.hid (by unfold tabQ; rw [hk]; rfl)
    have HK := Lib.hid hk; clear hk
    go_enter Try.func36, Try.ntmps36
    go_wp2_with fail
    refine (elGood_any s w hs).mono ?_
    rintro e w1 ⟨rfl, hb⟩
    rw [HK.out]
    have HB := Lib.hid hb; clear hb
    go_wp2_with fail
    go_ret2
    exact ⟨fun _ => rfl, fun ns h => (by rw [HQ.out] at h; cases h), HB.out⟩
  | true =>
    obtain ⟨_, hsp, h60⟩ := elB_parts hk
    rw [size_list] at h60
    obtain ⟨R, hR⟩ : ∃ R, R = tabQ s.data.toList := ⟨_, rfl⟩
    have HF := Lib.hid (fun (W : World) => elFrom_any s W hsp h60 R (by rw [hR]; unfold tabQ; rw [hk]; rfl))
    rw [← hR]
    have HK := Lib.hid hk; clear hk hsp h60 hR
    go_enter Try.func36, Try.ntmps36
    go_wp2_with fail
    refine (elGood_any s w hs).mono ?_
    rintro e w1 ⟨rfl, hb⟩
    rw [HK.out]
    have HB := Lib.hid hb; clear hb
    go_wp2_with fail
    refine (HF.out w1).mono ?_
    rintro e w2 hpost
    cases R with
    | none =>
      have hB2 := hpost.2.2
      obtain rfl := hpost.1 rfl
      have HB2 := Lib.hid hB2
      clear hpost hB2 HF
      go_wp2_with fail
      go_ret2
      exact ⟨fun _ => rfl, fun ns h => (by cases h), HB.out.trans (HB2.out.mono HB.out.size)⟩
    | some ns =>
      have hB2 := hpost.2.2
      obtain ⟨tp, nd, xb, v0, v1, v2, rfl, hT, hRMhT⟩ := hpost.2.1 ns rfl
      have HB2 := Lib.hid hB2; have HT := Lib.hid hT; have HRM := Lib.hid hRMhT
      clear hpost hB2 HF hT hRMhT
      go_wp2_with fail
      go_ret2
      refine ⟨fun h => (by cases h), fun ns' h => ?_, HB.out.trans (HB2.out.mono HB.out.size)⟩
      cases h
      have hb := HB.out.size
      have hT := HT.out
      obtain ⟨xd, hr⟩ := hT.rows
      exact ⟨tp, nd, xb, v0, v1, v2, rfl, ⟨by have := hT.base; omega, by have := hT.low; omega, hT.obj, own_mono hT.names hb, ⟨xd, own_mono hr hb⟩, own_mono hT.begin_ hb⟩, RowsX.mono HRM.out.1 hb, HRM.out.2⟩

theorem findElements_q (s : ByteArray) (w : World) (hs : s.size ≤ maxLen) :
    Calls Try.prog 37 #[.string s] w fun e w' => FePost (partsL s.data.toList) (tabQ s.data.toList) w w' e := findElements_any s w hs _ rfl

/-- A list of texts and true, or no list and false. -/
def StrsQ (R : Option (List (List UInt8))) (w w' : World) (e : Ending) : Prop :=
  ∃ v, e = .returned (.tuple #[v, .bool R.isSome]) ∧ Strs w' w.heap.size v (R.getD []) ∧ Below w.heap.size w w'
def StrsOkB (b : Bool) (ls : List (List UInt8)) (w w' : World) (e : Ending) : Prop :=
  ∃ v, e = .returned (.tuple #[v, .bool b]) ∧ Strs w' w.heap.size v (if b = true then ls else []) ∧ Below w.heap.size w w'
theorem StrsQ.okB {l : List UInt8} {w w' : World} {e : Ending} (h : StrsQ (tabQ l) w w' e) : StrsOkB (tabB l) (tabL l) w w' e := by
  obtain ⟨v, rfl, h1, h2⟩ := h
  refine ⟨v, rfl, ?_, h2⟩
  unfold tabB tabL
  cases h : tabQ l with
  | none => rw [h] at h1; exact h1
  | some r => rw [h] at h1; exact h1

theorem specElementsFrom_any (s : ByteArray) (w : World) (hs : s.size ≤ maxLen) :
    Calls Try.prog 12 #[.string s] w fun e w' => StrsOkB (tabB s.data.toList) (tabL s.data.toList) w w' e := by
  have HA := Lib.hid (fun (W : World) => elAsked_any s W hs)
  obtain ⟨l, hl⟩ : ∃ l, l = s.data.toList := ⟨_, rfl⟩
  rw [← hl] at HA ⊢
  clear hl
  refine Calls.mono (R := fun e w' => StrsQ (tabQ l) w w' e) ?_ (fun e w' h => StrsQ.okB h)
  obtain ⟨R, hR⟩ : ∃ R, R = tabQ l := ⟨_, rfl⟩
  rw [← hR] at HA ⊢
  clear hR
  go_enter Try.func12, Try.ntmps12
  go_wp2_with fail
  refine (HA.out w).mono ?_
  rintro e w2 hpost
  cases R with
  | none =>
    have hB2 := hpost.2.2
    obtain rfl := hpost.1 rfl
    have HB2 := Lib.hid hB2
    clear hpost hB2 HA
    go_wp2_with fail
    go_ret2
    exact ⟨_, rfl, World.ownsRow_nil _ _ _ _, HB2.out⟩
  | some ns =>
    have hB2 := hpost.2.2
    obtain ⟨tp, nd, xb, v0, v1, v2, rfl, hT, hRMhT⟩ := hpost.2.1 ns rfl
    have x0 := hT.cell0
    have HB2 := Lib.hid hB2; have HT := Lib.hid hT
    clear hpost hB2 hT HA hRMhT
    go_wp2_with fail
    go_ret2
    exact ⟨_, rfl, HT.out.names, HB2.out⟩

set_option maxHeartbeats 2000000 in
theorem implElementsFrom_any (s : ByteArray) (w : World) (hs : s.size ≤ maxLen) :
    Calls Try.prog 13 #[.string s] w fun e w' => StrsOkB (tabB s.data.toList) (tabL s.data.toList) w w' e := by
  have HA := Lib.hid (fun (W : World) => findElements_q s W hs)
  obtain ⟨l, hl⟩ : ∃ l, l = s.data.toList := ⟨_, rfl⟩
  rw [← hl] at HA ⊢
  clear hl
  refine Calls.mono (R := fun e w' => StrsQ (tabQ l) w w' e) ?_ (fun e w' h => StrsQ.okB h)
  obtain ⟨R, hR⟩ : ∃ R, R = tabQ l := ⟨_, rfl⟩
  rw [← hR] at HA ⊢
  clear hR
  go_enter Try.func13, Try.ntmps13
  go_wp2_with fail
  refine (HA.out w).mono ?_
  rintro e w2 hpost
  have hB2 := hpost.2.2
  cases R with
  | none =>
    obtain rfl := hpost.1 rfl
    have HB2 := Lib.hid hB2
    clear hpost hB2 HA
    go_wp2_with fail
    go_ret2
    refine ⟨_, rfl, World.ownsRow_nil _ _ _ _, ?_⟩
    exact HB2.out.trans ((below_alloc w2 _).mono HB2.out.size)
  | some ns =>
    obtain ⟨vE, mb, vT, vP, vD, ts, rfl, hF⟩ := hpost.2.1 ns rfl
    have hE := hF.names
    obtain ⟨aE, cE, rfl⟩ := own_slice hE
    obtain ⟨aT, cT, rfl⟩ := own_slice hF.times
    obtain ⟨aP, nP, cP, rfl⟩ := hF.shP
    obtain ⟨aD, nD, cD, rfl⟩ := hF.shD
    have HB2 := Lib.hid hB2; have HE := Lib.hid hE
    clear hpost hB2 HA hE hF
    go_wp2_with fail
    go_ret2
    refine ⟨_, rfl, ?_, ?_⟩
    · exact HE.out.alloc _
    · exact HB2.out.trans ((below_alloc w2 _).mono HB2.out.size)

def tabN (l : List UInt8) : Int := ((tabL l).length : Nat)
theorem tabN_q {l : List UInt8} : tabN l = (((tabQ l).getD []).length : Nat) := rfl
theorem specCountElements_any (s : ByteArray) (w : World) (hs : s.size ≤ maxLen) :
    Calls Try.prog 17 #[.string s] w fun e w' => e = .returned (.tuple #[.int .i64 (tabN s.data.toList), .bool (tabB s.data.toList)]) ∧ Below w.heap.size w w' := by
  have HA := Lib.hid (fun (W : World) => elAsked_any s W hs)
  obtain ⟨l, hl⟩ : ∃ l, l = s.data.toList := ⟨_, rfl⟩
  rw [← hl] at HA ⊢
  clear hl
  rw [tabN_q]
  unfold tabB
  obtain ⟨R, hR⟩ : ∃ R, R = tabQ l := ⟨_, rfl⟩
  rw [← hR] at HA ⊢
  clear hR
  cases R with
  | none =>
    go_enter Try.func17, Try.ntmps17
    go_wp2_with fail
    refine (HA.out w).mono ?_
    rintro e w2 hpost
    have hB2 := hpost.2.2
    obtain rfl := hpost.1 rfl
    have HB2 := Lib.hid hB2
    clear hpost hB2 HA
    go_wp2_with fail
    go_ret2
    exact ⟨rfl, HB2.out⟩
  | some ns =>
    go_enter Try.func17, Try.ntmps17
    go_wp2_with fail
    refine (HA.out w).mono ?_
    rintro e w2 hpost
    have hB2 := hpost.2.2
    obtain ⟨tp, nd, xb, v0, v1, v2, rfl, hT, hRMhT⟩ := hpost.2.1 ns rfl
    have x0 := hT.cell0
    obtain ⟨am, cm, rfl⟩ := own_slice hT.names
    have HB2 := Lib.hid hB2
    clear hpost hB2 hT HA hRMhT
    go_wp2_with fail
    go_ret2
    exact ⟨rfl, HB2.out⟩

set_option maxHeartbeats 2000000 in
theorem implCountElements_any (s : ByteArray) (w : World) (hs : s.size ≤ maxLen) :
    Calls Try.prog 18 #[.string s] w fun e w' => e = .returned (.tuple #[.int .i64 (tabN s.data.toList), .bool (tabB s.data.toList)]) ∧ Below w.heap.size w w' := by
  have HA := Lib.hid (fun (W : World) => findElements_q s W hs)
  obtain ⟨l, hl⟩ : ∃ l, l = s.data.toList := ⟨_, rfl⟩
  rw [← hl] at HA ⊢
  clear hl
  rw [tabN_q]
  unfold tabB
  obtain ⟨R, hR⟩ : ∃ R, R = tabQ l := ⟨_, rfl⟩
  rw [← hR] at HA ⊢
  clear hR
  cases R with
  | none =>
    go_enter Try.func18, Try.ntmps18
    go_wp2_with fail
    refine (HA.out w).mono ?_
    rintro e w2 hpost
    have hB2 := hpost.2.2
    obtain rfl := hpost.1 rfl
    have HB2 := Lib.hid hB2
    clear hpost hB2 HA
    go_wp2_with fail
    go_ret2
    refine ⟨rfl, ?_⟩
    exact HB2.out.trans ((below_alloc w2 _).mono HB2.out.size)
  | some ns =>
    go_enter Try.func18, Try.ntmps18
    go_wp2_with fail
    refine (HA.out w).mono ?_
    rintro e w2 hpost
    have hB2 := hpost.2.2
    obtain ⟨vE, mb, vT, vP, vD, ts, rfl, hF⟩ := hpost.2.1 ns rfl
    have hE := hF.names
    obtain ⟨aE, cE, rfl⟩ := own_slice hE
    obtain ⟨aT, cT, rfl⟩ := own_slice hF.times
    obtain ⟨aP, nP, cP, rfl⟩ := hF.shP
    obtain ⟨aD, nD, cD, rfl⟩ := hF.shD
    have HB2 := Lib.hid hB2
    clear hpost hB2 HA hE hF
    go_wp2_with fail
    go_ret2
    refine ⟨rfl, ?_⟩
    exact HB2.out.trans ((below_alloc w2 _).mono HB2.out.size)
theorem tabL_bound {l : List UInt8} (h : tabB l = true) : (tabL l).length ≤ 1000 := Nat.le_trans (tabL_le l) (by omega)
set_option maxHeartbeats 1000000 in
theorem law_ElementsFrom (s : ByteArray) (w : World) (hs : s.size ≤ maxLen) :
    Calls Try.prog 3 #[.string s] w fun e w' => e = .returned (.bool true) ∧ Below w.heap.size w w' := by
  by_cases hb : 1048576 < s.size
  · go_enter Try.func3, Try.ntmps3
    go_wp2_with fail
    go_ret
    exact ⟨rfl, Below.refl _ _⟩
  · obtain ⟨y, hy⟩ : ∃ y, y = tabB s.data.toList := ⟨_, rfl⟩
    obtain ⟨ns, hn⟩ : ∃ ns, ns = if y = true then tabL s.data.toList else [] := ⟨_, rfl⟩
    have hlen : ns.length ≤ 1000 := by
      rw [hn]
      split
      · rename_i h; rw [hy] at h; exact tabL_bound h
      · simp
    have e2 : (y != y) = false := by simp
    obtain ⟨tt, ht⟩ : ∃ tt, tt = 1 + ns.length := ⟨_, rfl⟩
    have ht2 : tt ≤ 1001 := by omega
    have ht1 : 1 ≤ tt := by omega
    have e1 : ((tt : Int) != (tt : Int)) = false := by simp
    have HS := Lib.hid (fun (W : World) => specElementsFrom_any s W hs); have HI := Lib.hid (fun (W : World) => implElementsFrom_any s W hs)
    rw [← hy] at HS HI
    have HN := Lib.hid hn; have HT := Lib.hid ht; have HLEN := Lib.hid hlen
    clear hy hn ht hlen
    go_enter Try.func3, Try.ntmps3
    go_wp2_with fail
    refine (HS.out w).mono ?_
    rintro e w1 ⟨v0, rfl, h2, h3⟩
    rw [← HN.out] at h2
    have A1 := Lib.hid h2; have B1 := Lib.hid h3; clear h2 h3
    go_wp2_with fail
    refine (HI.out w1).mono ?_
    rintro e w2 ⟨v1, rfl, h2, h3⟩
    rw [← HN.out] at h2
    have A2 := Lib.hid h2; have B2 := Lib.hid h3; clear h2 h3
    go_wp2_with fail
    refine (eqStringS_same w2 _ _ v1 v0 ns A2.out (own_below A1.out B2.out)).mono ?_
    rintro e w3 ⟨rfl, h3⟩
    have B3 := Lib.hid h3; clear h3
    go_wp2_with fail
    refine (markStringS_any w3 _ 1 v1 ns (own_below A2.out B3.out) (Nat.le_trans B2.out.size B3.out.size) (by have := HLEN.out; omega)).mono ?_
    rintro e w4 ⟨rfl, h4, h5⟩
    rw [← HT.out]
    have A4 := Lib.hid h4; have B4 := Lib.hid h5; clear h4 h5
    go_wp2_with fail
    refine (heldStringS_any w4 _ 1 ns.length v1 A4.out (by have := HLEN.out; omega)).mono ?_
    rintro e w5 ⟨rfl, h5⟩
    rw [← HT.out]
    have B5 := Lib.hid h5; clear h5
    go_wp2_with fail
    refine (HI.out w5).mono ?_
    rintro e w6 ⟨v6, rfl, h2, h3⟩
    rw [← HN.out] at h2
    have A6 := Lib.hid h2; have B6 := Lib.hid h3; clear h2 h3
    go_wp2_with fail
    have C6 := Lib.hid (below_trans (below_trans ((below_trans B2.out B3.out).trans B4.out) B5.out) B6.out)
    have A1' : Hid (Strs w6 w.heap.size v0 ns) := own_below A1.out C6.out
    refine (eqStringS_same w6 _ _ v6 v0 ns A6.out A1'.out).mono ?_
    rintro e w7 ⟨rfl, h7⟩
    have B7 := Lib.hid h7; clear h7
    go_wp2_with fail
    refine (heldStringS_any w7 _ 1 ns.length v1 (own_below A4.out (below_trans B5.out (below_trans B6.out B7.out))) (by have := HLEN.out; omega)).mono ?_
    rintro e w8 ⟨rfl, h8⟩
    rw [← HT.out]
    have B8 := Lib.hid h8; clear h8
    go_wp2_with fail
    go_ret
    exact ⟨rfl, below_trans B1.out (below_trans C6.out (below_trans B7.out B8.out))⟩


set_option maxHeartbeats 1000000 in
theorem law_CountElements (s : ByteArray) (w : World) (hs : s.size ≤ maxLen) :
    Calls Try.prog 4 #[.string s] w fun e w' => e = .returned (.bool true) ∧ Below w.heap.size w w' := by
  by_cases hbs : 1048576 < s.size
  · go_enter Try.func4, Try.ntmps4
    go_wp2_with fail
    go_ret
    exact ⟨rfl, Below.refl _ _⟩
  have HS := Lib.hid (fun (W : World) => specCountElements_any s W hs); have HI := Lib.hid (fun (W : World) => implCountElements_any s W hs)
  obtain ⟨v, hv⟩ : ∃ v, v = tabN s.data.toList := ⟨_, rfl⟩
  obtain ⟨b, hb⟩ : ∃ b, b = tabB s.data.toList := ⟨_, rfl⟩
  rw [← hv, ← hb] at HS HI
  clear hv hb
  have e1 : (v != v) = false := by simp
  have e2 : (b != b) = false := by simp
  go_enter Try.func4, Try.ntmps4
  go_wp2_with fail
  refine (HS.out w).mono ?_
  rintro e w1 ⟨rfl, h1⟩
  have B1 := Lib.hid h1; clear h1
  go_wp2_with fail
  refine (HI.out w1).mono ?_
  rintro e w2 ⟨rfl, h1⟩
  have B2 := Lib.hid h1; clear h1
  go_wp2_with fail
  go_ret
  exact ⟨rfl, below_trans B1.out B2.out⟩
end Go.Proofs.Ytgmknehioadjhaa
