/- CommonElements: the program's closure, its deletion, and the law. -/
import Derived.Test.YtgmknehioadjhaaN8
namespace Go.Proofs.Ytgmknehioadjhaa
open Go.RowKit Go.BigFrame Go.Maps Go.Sort
set_option linter.unusedSimpArgs false
set_option linter.unusedVariables false
set_option maxRecDepth 4000

abbrev ShortL : Type := {p : List UInt8 // p.length ≤ 1000}
instance : Inhabited ShortL := ⟨⟨[], by simp⟩⟩
def encU (x : ShortL) : Value := .string (bs x.1)
def shortsOf (a : List (List UInt8)) (h : ∀ p ∈ a, p.length ≤ 1000) : List ShortL := a.pmap Subtype.mk h
theorem shorts_val (a : List (List UInt8)) (h : ∀ p ∈ a, p.length ≤ 1000) : (shortsOf a h).map (·.1) = a := by unfold shortsOf; simp [List.map_pmap]
theorem shorts_enc (a : List (List UInt8)) (h : ∀ p ∈ a, p.length ≤ 1000) : (shortsOf a h).map encU = a.map (fun l => .string (bs l)) := by
  conv => rhs; rw [← shorts_val a h]
  rw [List.map_map]; rfl
theorem shorts_filter (a b : List (List UInt8)) (h : ∀ p ∈ a, p.length ≤ 1000) : ((shortsOf a h).filter fun x => decide (x.1 ∈ b)).map encU = (cmL a b).map (fun l => .string (bs l)) := by
  have e : cmL a b = ((shortsOf a h).filter fun x => decide (x.1 ∈ b)).map (·.1) := by
    unfold cmL
    conv => lhs; rw [← shorts_val a h]
    rw [List.filter_map]; rfl
  rw [e, List.map_map]; rfl

set_option maxHeartbeats 1000000 in
/-- The closure: whether a text is none of the names of a table that lies behind a pointer. -/
theorem delClos (W : World) (B mb nb : Nat) (D : DataW Unit) (ns : List (List UInt8)) (x : List UInt8) (hx : x.length ≤ 1000) (hc : W.cell? ⟨B, 1, none⟩ = some (.map (some mb))) (hm : OwnS W mb nb D) (hN : NumD D ns) :
    Calls Try.prog 51 #[.string (bs x), .pointer (some ⟨B, 0, none⟩)] W fun e w' => e = .returned (.bool (!decide (x ∈ ns))) ∧ ∃ q, w' = W.drewN q := by
  have HD := Lib.hid hm
  by_cases hin : x ∈ ns
  · have hh : Maps.has D (kS x) = true := (hN.keys x).2 hin
    have HV : Hid ((!decide (x ∈ ns)) = false) := Lib.hid (by simp [hin])
    clear hm hN hin
    go_enter Try.func51, Try.ntmps51
    go_wp2_with (at_lookup; refine wpList_lookup_own_ok_int _ rfl _ _ 51 rfl 9 3 .i64 lawS Try.underlying51 Try.underlying3 (zeroI _) mb nb D rfl HD.out _ _ rfl (keyOfS hx) ?_; intro c hat hwc; clear hat hwc)
    go_ret
    exact ⟨by rw [HV.out]; rfl, 0, rfl⟩
  · have hh : Maps.has D (kS x) = false := by
      cases h : Maps.has D (kS x) with
      | false => rfl
      | true => exact absurd ((hN.keys x).1 h) hin
    have HV : Hid ((!decide (x ∈ ns)) = true) := Lib.hid (by simp [hin])
    clear hm hN hin
    go_enter Try.func51, Try.ntmps51
    go_wp2_with (at_lookup; refine wpList_lookup_own_ok_int _ rfl _ _ 51 rfl 9 3 .i64 lawS Try.underlying51 Try.underlying3 (zeroI _) mb nb D rfl HD.out _ _ rfl (keyOfS hx) ?_; intro c hat hwc; clear hat hwc)
    go_ret
    exact ⟨by rw [HV.out]; rfl, 0, rfl⟩

theorem sort_grown (W : World) (g n : Nat) (dk : Array ShortL) (os : Array Obj) : W.grownBy (Go.Proofs.sortWorld encU W g 0 n dk os) (some g) := by
  unfold Go.Proofs.sortWorld
  refine ⟨rfl, rfl, rfl, ?_, fun k hk hne => ?_⟩
  · simp [grow, putRow, mapBlock, Sort.ahead]
  · have hk2 : k < (putRow encU (Sort.ahead W n) g 0 dk).heap.size := by simpa [putRow, mapBlock, Sort.ahead] using hk
    rw [heap_grow_old _ _ hk2]
    have : g ≠ k := fun e => hne (by rw [e])
    simp [putRow, mapBlock, Sort.ahead, Array.getElem?_modify, this]
theorem cell_of_block {W W' : World} {g i : Nat} (h : W'.heap[g]? = W.heap[g]?) : W'.cell? ⟨g, i, none⟩ = W.cell? ⟨g, i, none⟩ := by simp only [World.cell?, h]

set_option maxHeartbeats 1000000 in
theorem del_any (W : World) (n₀ gA N cA Bk mb nb : Nat) (a b : List (List UInt8)) (D : DataW Unit) (hrow : Strs W n₀ (.slice (some ⟨gA, 0, none⟩) N cA) a) (hN : N = a.length) (ha : ∀ p ∈ a, p.length ≤ 1000)
    (hc : W.cell? ⟨Bk, 1, none⟩ = some (.map (some mb))) (hBk : Bk < W.heap.size) (hne : Bk ≠ gA) (hm : OwnS W mb nb D) (hND : NumD D b) :
    Calls Try.prog 50 #[.slice (some ⟨gA, 0, none⟩) N cA, .func (.func 51) #[] #[.pointer (some ⟨Bk, 0, none⟩)]] W fun e w' => ∃ v, e = .returned v ∧ Strs w' n₀ v (cmL a b) ∧ Below n₀ W w' := by
  subst hN
  have hr2 : W.ownsRow n₀ 9 1 (.slice (some ⟨gA, 0, none⟩) a.length cA) a.length ((shortsOf a ha).map encU) := by rw [shorts_enc]; exact hrow
  obtain ⟨g', cap', e, hg0, hglt, hcap, hmax, hl, hH⟩ := Lib.holds_of_ownsRow hr2 (by simp)
  injection e with e1 _ e3
  injection e1 with e1
  injection e1 with e1
  subst e1; subst e3
  have hne2 : mb ≠ gA := fun e => map_row hm hrow (by rw [e]; rfl)
  have hlen : (shortsOf a ha).toArray.size = a.length := by simpa using hl
  have hcon := Try.slices_DeleteFunc encU (fun x => rfl) (fun x => !decide (x.1 ∈ b)) 51 #[.pointer (some ⟨Bk, 0, none⟩)] (enters_of Try.func51 (by kernel_rfl) rfl) ⟨[], by simp⟩ (fun w => by kernel_rfl) gA 0 cA (shortsOf a ha).toArray W
    (fun W' x hb => delClos W' Bk mb nb D b x.1 x.2 ((hb.cell (p := ⟨Bk, 1, none⟩) hBk).trans hc) (hm.kept (row := none) ⟨hb.os, hb.tape, hb.output, hb.size, fun g hg _ => hb.block g hg⟩ (by simp)) hND)
    (fun n os dk x hs => by
      have hg := sort_grown W gA n dk os
      exact delClos _ Bk mb nb D b x.1 x.2 ((cell_of_block (hg.block Bk hBk (fun e => hne (Option.some.inj e)))).trans hc) (hm.kept hg (fun e => hne2 (Option.some.inj e))) hND)
    hH (by rw [hlen]; unfold maxLen at hmax; omega) (by rw [hlen]; exact hcap)
  rw [hlen] at hcon
  refine hcon.mono ?_
  rintro e w' ⟨rfl, q, rfl⟩
  have hf : ((shortsOf a ha).filter fun x => decide (x.1 ∈ b)).length = (cmL a b).length := by
    have := congrArg List.length (shorts_filter a b ha); simpa using this
  have hf2 : ((shortsOf a ha).toArray.toList.filter fun x => !(!decide (x.1 ∈ b))) = (shortsOf a ha).filter fun x => decide (x.1 ∈ b) := by simp
  rw [hf2]
  refine ⟨_, rfl, ?_, Lib.below_putRow (Below.refl _ _) hg0⟩
  have hle := cm_len a b
  have h5 := Lib.ownsRow_putRow (q := q) (k := (cmL a b).length) (ys := ((shortsOf a ha).filter fun x => decide (x.1 ∈ b)) ++ List.replicate (a.length - (cmL a b).length) ⟨[], by simp⟩) hr2 (by simp [hf]; omega) hle
  rw [hf]
  rw [List.take_left' hf, shorts_filter] at h5
  exact h5

theorem cell_newAt (W : World) (cs : Array Value) (T : TypeId) (i : Nat) (v : Value) (h : cs[i]? = some v) : (W.alloc (.cells cs T (0, 0))).cell? ⟨W.heap.size, i, none⟩ = some v := by
  have hb := heap_alloc_new W (.cells cs T (0, 0))
  simp only [World.cell?, hb]
  simpa using h
theorem cmQ_none1 {R2 : Option (List (List UInt8))} : (match (none : Option (List (List UInt8))), R2 with | some a, some b => some (cmL a b) | _, _ => none) = none := rfl
set_option maxHeartbeats 4000000 in
theorem implCommonElements_q (s t : ByteArray) (w : World) (hs : s.size ≤ maxLen) (ht : t.size ≤ maxLen) :
    Calls Try.prog 33 #[.string s, .string t] w fun e w' => StrsQ (cmQ s.data.toList t.data.toList) w w' e := by
  have HA := Lib.hid (fun (W : World) => findElements_q s W hs); have HC := Lib.hid (fun (W : World) => findElements_q t W ht)
  unfold cmQ
  have hQa := fun (r : List (List UInt8)) (h : tabQ s.data.toList = some r) => tabQ_ok h
  generalize tabQ s.data.toList = R1 at *
  generalize tabQ t.data.toList = R2 at *
  go_enter Try.func33, Try.ntmps33
  go_wp2_with fail
  refine (HA.out w).mono ?_
  rintro e w1 hpost
  have hB1 := hpost.2.2
  have HB1 := Lib.hid hB1
  cases R1 with
  | none =>
    obtain rfl := hpost.1 rfl
    clear hpost hB1 HA hQa
    go_wp2_with fail
    refine (HC.out _).mono ?_
    rintro e w3 hpost
    have hB3 := hpost.2.2
    have HB3 := Lib.hid hB3
    cases R2 with
    | none =>
      obtain rfl := hpost.1 rfl
      clear hpost hB3 HC
      go_wp2_with fail
      go_ret2
      exact ⟨_, rfl, World.ownsRow_nil _ _ _ _, (((HB1.out.trans ((below_alloc w1 _).mono HB1.out.size))).trans (HB3.out.mono (by have := HB1.out.size; simp; omega))).trans ((below_alloc w3 _).mono (by have := HB1.out.size; have := HB3.out.size; simp at this; omega))⟩
    | some b =>
      obtain ⟨vE, mb, vT, vP, vD, ts, rfl, hF⟩ := hpost.2.1 b rfl
      obtain ⟨aE, cE, rfl⟩ := own_slice hF.names
      obtain ⟨aT, cT, rfl⟩ := own_slice hF.times
      obtain ⟨aP, nP, cP, rfl⟩ := hF.shP
      obtain ⟨aD, nD, cD, rfl⟩ := hF.shD
      clear hpost hB3 HC hF
      go_wp2_with fail
      go_ret2
      exact ⟨_, rfl, World.ownsRow_nil _ _ _ _, (((HB1.out.trans ((below_alloc w1 _).mono HB1.out.size))).trans (HB3.out.mono (by have := HB1.out.size; simp; omega))).trans ((below_alloc w3 _).mono (by have := HB1.out.size; have := HB3.out.size; simp at this; omega))⟩
  | some a =>
    obtain ⟨hok, hne⟩ := hQa a rfl
    obtain ⟨vE, mb, vT, vP, vD, ts, rfl, hF⟩ := hpost.2.1 a rfl
    obtain ⟨gA, cA, rfl, hgB, hgA, _⟩ := strs_pos hF.names hne
    obtain ⟨aT, cT, rfl⟩ := own_slice hF.times
    obtain ⟨aP, nP, cP, rfl⟩ := hF.shP
    obtain ⟨aD, nD, cD, rfl⟩ := hF.shD
    obtain ⟨M, hM⟩ : ∃ M, M = a.length := ⟨_, rfl⟩
    have hnm := hF.names
    rw [← hM] at hnm ⊢
    have HNM := Lib.hid hnm; have HM := Lib.hid hM; have HOK := Lib.hid hok
    clear hpost hB1 HA hQa hF hnm hM hok hne
    go_wp2_with fail
    refine (HC.out _).mono ?_
    rintro e w3 hpost
    have hB3 := hpost.2.2
    have hs3 := hB3.size
    rw [World.size_alloc] at hs3
    have hlt3 : w1.heap.size < w3.heap.size := hs3
    have x0 : w3.cell? ⟨w1.heap.size, 0, none⟩ = some (.slice (some ⟨gA, 0, none⟩) M cA) := by
      rw [hB3.cell (p := ⟨w1.heap.size, 0, none⟩) (by simp)]
      exact cell_newAt _ _ _ _ _ rfl
    have HB3 := Lib.hid hB3
    cases R2 with
    | none =>
      obtain rfl := hpost.1 rfl
      clear hpost hB3 HC
      go_wp2_with fail
      go_ret2
      exact ⟨_, rfl, World.ownsRow_nil _ _ _ _, (((HB1.out.trans ((below_alloc w1 _).mono HB1.out.size))).trans (HB3.out.mono (by have := HB1.out.size; simp; omega))).trans ((below_alloc w3 _).mono (by have := HB1.out.size; omega))⟩
    | some b =>
      obtain ⟨vE, mb2, vT, vP, vD, ts2, rfl, hF⟩ := hpost.2.1 b rfl
      obtain ⟨aE2, cE2, rfl⟩ := own_slice hF.names
      obtain ⟨aT2, cT2, rfl⟩ := own_slice hF.times
      obtain ⟨aP2, nP2, cP2, rfl⟩ := hF.shP
      obtain ⟨aD2, nD2, cD2, rfl⟩ := hF.shD
      obtain ⟨D, hD, hND⟩ := hF.map
      obtain ⟨nb, hnb⟩ : ∃ nb, nb = b.length := ⟨_, rfl⟩
      obtain ⟨nt, hnt⟩ : ∃ nt, nt = (natsI ts2).length := ⟨_, rfl⟩
      rw [← hnb, ← hnt]
      rw [← hnb] at hD
      have hnm3 : Strs w3 w.heap.size (.slice (some ⟨gA, 0, none⟩) M cA) a := own_below (HNM.out.alloc _) hB3
      have hall : ∀ o : Obj, o = .cells #[.slice aE2 nb cE2, .map (some mb2), .slice aT2 nt cT2, .slice aP2 nP2 cP2, .slice aD2 nD2 cD2] 54 (0, 0) → Calls Try.prog 50 #[.slice (some ⟨gA, 0, none⟩) M cA, .func (.func 51) #[] #[.pointer (some ⟨w3.heap.size, 0, none⟩)]] (w3.alloc o) fun e w' => ∃ v, e = .returned v ∧ Strs w' w.heap.size v (cmL a b) ∧ Below w.heap.size (w3.alloc o) w' := fun o ho =>
        del_any _ _ _ _ _ _ _ nb a b D (hnm3.alloc _) HM.out (fun p hp => by have := (HOK.out p hp).2; omega) (by rw [ho]; exact cell_newAt _ _ _ _ _ rfl) (by simp) (by omega) (hD.alloc _) hND
      have HALL := Lib.hid hall
      clear hpost hB3 HC hF hD hND hnm3 hall hnb hnt
      go_wp2_with fail
      refine (HALL.out _ rfl).mono ?_
      rintro e w5 ⟨v, rfl, hv, hb5⟩
      have HV := Lib.hid hv; have HB5 := Lib.hid hb5
      clear hv hb5
      go_wp2_with fail
      go_ret2
      exact ⟨_, rfl, HV.out, ((((HB1.out.trans ((below_alloc w1 _).mono HB1.out.size))).trans (HB3.out.mono (by have := HB1.out.size; simp; omega))).trans ((below_alloc w3 _).mono (by have := HB1.out.size; omega))).trans HB5.out⟩

/-! ### the law -/
def cmB (u v : List UInt8) : Bool := (cmQ u v).isSome
def cmR (u v : List UInt8) : List (List UInt8) := (cmQ u v).getD []
theorem cmR_le (u v : List UInt8) : (cmR u v).length ≤ 1000 := by
  unfold cmR cmQ
  cases h1 : tabQ u with
  | none => simp
  | some a =>
    have := tabQ_le h1
    cases h2 : tabQ v with
    | none => simp
    | some b => have := cm_len a b; simp; omega
theorem StrsQ.ok2 {R : Option (List (List UInt8))} {w w' : World} {e : Ending} (h : StrsQ R w w' e) : StrsOkB R.isSome (R.getD []) w w' e := by
  obtain ⟨v, rfl, h1, h2⟩ := h
  refine ⟨v, rfl, ?_, h2⟩
  cases R with
  | none => exact h1
  | some r => exact h1
theorem specCommonElements_any (s t : ByteArray) (w : World) (hs : s.size ≤ maxLen) (ht : t.size ≤ maxLen) :
    Calls Try.prog 32 #[.string s, .string t] w fun e w' => StrsOkB (cmB s.data.toList t.data.toList) (cmR s.data.toList t.data.toList) w w' e := (specCommonElements_q s t w hs ht).mono fun e w' h => h.ok2
theorem implCommonElements_any (s t : ByteArray) (w : World) (hs : s.size ≤ maxLen) (ht : t.size ≤ maxLen) :
    Calls Try.prog 33 #[.string s, .string t] w fun e w' => StrsOkB (cmB s.data.toList t.data.toList) (cmR s.data.toList t.data.toList) w w' e := (implCommonElements_q s t w hs ht).mono fun e w' h => h.ok2
set_option maxHeartbeats 1000000 in
theorem law_CommonElements (s : ByteArray) (t : ByteArray) (w : World) (hs : s.size ≤ maxLen) (ht : t.size ≤ maxLen) :
    Calls Try.prog 10 #[.string s, .string t] w fun e w' => e = .returned (.bool true) ∧ Below w.heap.size w w' := by
  by_cases hbs : 1048576 < s.size
  · go_enter Try.func10, Try.ntmps10
    go_wp2_with fail
    go_ret
    exact ⟨rfl, Below.refl _ _⟩
  by_cases hbt : 1048576 < t.size
  · go_enter Try.func10, Try.ntmps10
    go_wp2_with fail
    go_ret
    exact ⟨rfl, Below.refl _ _⟩
  obtain ⟨y, hy⟩ : ∃ y, y = cmB s.data.toList t.data.toList := ⟨_, rfl⟩
  obtain ⟨ns, hn⟩ : ∃ ns, ns = if y = true then cmR s.data.toList t.data.toList else [] := ⟨_, rfl⟩
  have hlen : ns.length ≤ 1000 := by
    rw [hn]
    split
    · exact cmR_le s.data.toList t.data.toList
    · simp
  have e2 : (y != y) = false := by simp
  obtain ⟨tt, ht0⟩ : ∃ tt, tt = 1 + ns.length := ⟨_, rfl⟩
  have ht2 : tt ≤ 1001 := by omega
  have ht1 : 1 ≤ tt := by omega
  have e1 : ((tt : Int) != (tt : Int)) = false := by simp
  have HS := Lib.hid (fun (W : World) => specCommonElements_any s t W hs ht); have HI := Lib.hid (fun (W : World) => implCommonElements_any s t W hs ht)
  rw [← hy] at HS HI
  have HN := Lib.hid hn; have HT := Lib.hid ht0; have HLEN := Lib.hid hlen
  clear hy hn ht0 hlen
  go_enter Try.func10, Try.ntmps10
  go_wp2_with fail
  refine (HS.out w).mono ?_
  rintro e w1 ⟨v0, rfl, h2, h3⟩
  rw [← HN.out] at h2
  have A1 := Lib.hid h2; have B1 := Lib.hid h3; clear h2 h3
  go_wp2_with fail
  refine (HI.out w1).mono ?_
  rintro e w2 ⟨v1, rfl, h2, h3⟩
  rw [← HN.out] at h2
  have A2 := Lib.hid h2; have B2 := Lib.hid h3; clear h2 h3
  go_wp2_with fail
  refine (eqStringS_same w2 _ _ v1 v0 ns A2.out (own_below A1.out B2.out)).mono ?_
  rintro e w3 ⟨rfl, h3⟩
  have B3 := Lib.hid h3; clear h3
  go_wp2_with fail
  refine (markStringS_any w3 _ 1 v1 ns (own_below A2.out B3.out) (Nat.le_trans B2.out.size B3.out.size) (by have := HLEN.out; omega)).mono ?_
  rintro e w4 ⟨rfl, h4, h5⟩
  rw [← HT.out]
  have A4 := Lib.hid h4; have B4 := Lib.hid h5; clear h4 h5
  go_wp2_with fail
  refine (heldStringS_any w4 _ 1 ns.length v1 A4.out (by have := HLEN.out; omega)).mono ?_
  rintro e w5 ⟨rfl, h5⟩
  rw [← HT.out]
  have B5 := Lib.hid h5; clear h5
  go_wp2_with fail
  refine (HI.out w5).mono ?_
  rintro e w6 ⟨v6, rfl, h2, h3⟩
  rw [← HN.out] at h2
  have A6 := Lib.hid h2; have B6 := Lib.hid h3; clear h2 h3
  go_wp2_with fail
  have C6 := Lib.hid (below_trans (below_trans ((below_trans B2.out B3.out).trans B4.out) B5.out) B6.out)
  have A1' : Hid (Strs w6 w.heap.size v0 ns) := own_below A1.out C6.out
  refine (eqStringS_same w6 _ _ v6 v0 ns A6.out A1'.out).mono ?_
  rintro e w7 ⟨rfl, h7⟩
  have B7 := Lib.hid h7; clear h7
  go_wp2_with fail
  refine (heldStringS_any w7 _ 1 ns.length v1 (own_below A4.out (below_trans B5.out (below_trans B6.out B7.out))) (by have := HLEN.out; omega)).mono ?_
  rintro e w8 ⟨rfl, h8⟩
  rw [← HT.out]
  have B8 := Lib.hid h8; clear h8
  go_wp2_with fail
  go_ret
  exact ⟨rfl, below_trans B1.out (below_trans C6.out (below_trans B7.out B8.out))⟩

end Go.Proofs.Ytgmknehioadjhaa
