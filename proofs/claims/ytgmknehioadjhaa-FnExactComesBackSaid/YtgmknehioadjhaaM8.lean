/- LengthLater: the model's, the program's, the law. -/
import Derived.Test.YtgmknehioadjhaaM7
namespace Go.Proofs.Ytgmknehioadjhaa
open Go.RowKit Go.BigFrame Go.Maps
set_option linter.unusedSimpArgs false
set_option linter.unusedVariables false
set_option maxRecDepth 4000

/-- A sum over the counts, as it wraps. -/
def sumF (f : Nat → Int) (c : List Int) : Nat → Int
  | 0 => 0
  | k + 1 => wrap64 (sumF f c k + wrap64 (c.getD k 0 * f k))
def szF (ns : List (List UInt8)) (k : Nat) : Int := (((bs (ns.getD k [])).size : Nat) : Int)
def sumQ (f : List (List UInt8) → Nat → Int) (l : List UInt8) (n : Int) : Int :=
  match ltQ l n with
  | some ns => sumF (f ns) (cntsL (partsL l) ns n.toNat) ns.length
  | none => 0
theorem sumQ_some {f : List (List UInt8) → Nat → Int} {l : List UInt8} {n : Int} {ns : List (List UInt8)} (h : tabQ l = some ns) (hn : inT n = true) : sumQ f l n = sumF (f ns) (cntsL (partsL l) ns n.toNat) ns.length := by
  unfold sumQ ltQ
  rw [if_pos hn, h]
theorem sumQ_none {f : List (List UInt8) → Nat → Int} {l : List UInt8} {n : Int} (h : ltB l n = false) : sumQ f l n = 0 := by
  unfold ltB at h
  unfold sumQ
  cases hq : ltQ l n with
  | none => rfl
  | some ns => rw [hq] at h; cases h
theorem strs_at {W : World} {B g n c : Nat} {ns : List (List UInt8)} (h : Strs W B (.slice (some ⟨g, 0, none⟩) n c) ns) {k : Nat} (hk : k < n) : W.cell? ⟨g, k, none⟩ = some (.string (bs (ns.getD k []))) ∧ g < W.heap.size ∧ n = ns.length := by
  rcases strs_open h with ⟨e, _⟩ | ⟨g', cap, e, h1, h2, _, _, h3, _⟩
  · cases e
  · injection e with e1 e2 e3
    injection e1 with e1
    injection e1 with e1
    subst e1
    refine ⟨?_, h2, e2⟩
    rw [h3 k (by omega)]
    simp [List.getD, List.getElem?_eq_getElem (show k < ns.length by omega)]

set_option maxHeartbeats 4000000 in
theorem specLengthLater_any (s : ByteArray) (n : Int) (w : World) (hs : s.size ≤ maxLen) :
    Calls Try.prog 24 #[.string s, .int .i64 n] w fun e w' => e = .returned (.tuple #[.int .i64 (sumQ szF s.data.toList n), .bool (ltB s.data.toList n)]) ∧ Below w.heap.size w w' := by
  have HA := Lib.hid (fun (W : World) => elAsked_any s W hs)
  obtain ⟨l, hl⟩ : ∃ l, l = s.data.toList := ⟨_, rfl⟩
  rw [← hl] at HA ⊢
  clear hl
  cases hR : tabQ l with
  | none =>
    rw [hR] at HA
    have hb := ltB_none (n := n) hR
    have HB : Hid (Ending.returned (.tuple #[.int .i64 (sumQ szF l n), .bool (ltB l n)]) = .returned (.tuple #[.int .i64 0, .bool false])) := Lib.hid (by rw [sumQ_none hb, hb])
    clear hR hb
    rw [HB.out]
    go_enter Try.func24, Try.ntmps24
    go_wp2_with fail
    refine (HA.out w).mono ?_
    rintro e w1 hpost
    have hB1 := hpost.2.2
    obtain rfl := hpost.1 rfl
    have HB1 := Lib.hid hB1
    clear hpost hB1 HA
    go_wp2_with fail
    go_ret2
    exact ⟨rfl, HB1.out⟩
  | some ns =>
    rw [hR] at HA
    have h0 := tabQ_ok hR
    have h1 := tabQ_le hR
    have h2 := tabQ_parts hR
    cases hT : inT n with
    | false =>
      have HE := Lib.hid (fun W => elTimes_is false n W hT)
      have hb := ltB_out (l := l) hT
      have HB : Hid (Ending.returned (.tuple #[.int .i64 (sumQ szF l n), .bool (ltB l n)]) = .returned (.tuple #[.int .i64 0, .bool false])) := Lib.hid (by rw [sumQ_none hb, hb])
      clear hR h0 h1 h2 hT hb
      rw [HB.out]
      go_enter Try.func24, Try.ntmps24
      go_wp2_with fail
      refine (HA.out w).mono ?_
      rintro e w1 hpost
      have hB1 := hpost.2.2
      obtain ⟨tp, nd, xb, v0, v1, v2, rfl, _, _⟩ := hpost.2.1 ns rfl
      have HB1 := Lib.hid hB1
      clear hpost hB1 HA
      go_wp2_with fail
      refine (HE.out _).mono ?_
      rintro e w2 ⟨rfl, rfl⟩
      go_wp2_with fail
      go_ret2
      exact ⟨rfl, HB1.out⟩
    | true =>
      have HE := Lib.hid (fun W => elTimes_is true n W hT)
      have hb := (ltC_some hR hT).1
      have hsq := sumQ_some (f := szF) hR hT
      obtain ⟨t, rfl⟩ : ∃ t : Nat, n = t := ⟨n.toNat, by unfold inT at hT; simp at hT; omega⟩
      have ht9 : t ≤ 80 := by unfold inT at hT; simp at hT; omega
      rw [Int.toNat_natCast] at hsq
      have HB : Hid (Ending.returned (.tuple #[.int .i64 (sumQ szF l (t : Int)), .bool (ltB l (t : Int))]) = .returned (.tuple #[.int .i64 (sumF (szF ns) (cntsL (partsL l) ns t) ns.length), .bool true])) := Lib.hid (by rw [hsq, hb])
      have hlat := fun (W : World) (n₀ tp nd : Nat) (xb : List Nat) (v0 v1 v2 : Value) (hT1 : TabM W n₀ tp ns nd xb v0 v1 v2) (hR1 : RichM W n₀ (partsL l) ns nd xb v1) => later_any W n₀ tp nd xb v0 v1 v2 (partsL l) ns t ht9 hT1 hR1 h1 h0.2 h2.1 (by have := h2.2; omega) h0.1
      have hcl := cnts_len (partsL l) ns t
      obtain ⟨c, hc⟩ : ∃ c, c = cntsL (partsL l) ns t := ⟨_, rfl⟩
      rw [← hc] at hlat hcl HB
      obtain ⟨m, hm⟩ : ∃ m, m = ns.length := ⟨_, rfl⟩
      have hm9 : m ≤ 200 := by rw [hm]; exact h1
      have hm0 : 0 < m := by rw [hm]; exact Nat.pos_of_ne_zero (fun e => h0.2 (List.eq_nil_of_length_eq_zero e))
      rw [← hm] at hcl HB
      have H0 := Lib.hid h0; have HLAT := Lib.hid hlat; have HCL := Lib.hid hcl; have HM := Lib.hid hm
      clear hR h0 h1 h2 hT hb hsq hc hlat hcl hm
      rw [HB.out]
      go_enter Try.func24, Try.ntmps24
      go_wp2_with fail
      refine (HA.out w).mono ?_
      rintro e w1 hpost
      have hB1 := hpost.2.2
      obtain ⟨tp, nd, xb, v0, v1, v2, rfl, hT1, hR1⟩ := hpost.2.1 ns rfl
      have HL := Lib.hid (HLAT.out w1 w.heap.size tp nd xb v0 v1 v2 hT1 hR1)
      obtain ⟨gE, cE, rfl, _, hgE, _⟩ := strs_pos hT1.names H0.out.2
      have x0 := hT1.cell0
      have htp := hT1.lt
      have hnm := hT1.names
      rw [← HM.out] at x0 hnm
      have HB1 := Lib.hid hB1; have HNM := Lib.hid hnm
      clear hpost hB1 HA hT1 hR1 hnm HLAT
      go_wp2_with fail
      refine (HE.out _).mono ?_
      rintro e w2 ⟨rfl, rfl⟩
      go_wp2_with fail
      refine HL.out.mono ?_
      rintro e w3 ⟨v, rfl, hv, hb3⟩
      obtain ⟨gc, cc, rfl, _, hgc⟩ := ints_posI hv (by intro e; rw [e] at HCL; have := HCL.out; simp at this; omega)
      rw [HCL.out] at hv
      have hv2 : Ints w3 w1.heap.size (.slice (some ⟨gc, 0, none⟩) m cc) c := hv
      have y0 := (hb3.cell (p := ⟨tp, 0, none⟩) htp).trans x0
      have HV := Lib.hid hv2; have HB3 := Lib.hid hb3
      rw [HCL.out]
      clear hv hv2 hb3 HL
      go_wp2_with fail
      go_loopw [8, 27] (fun sv kv wr => ∃ k : Nat, k ≤ m ∧ kv = .int .i64 k ∧ sv = .int .i64 (sumF (szF ns) c k) ∧ w3 = wr) (fun _ kv _ => m - (intOf kv).toNat)
      case atStart => exact ⟨0, by omega, rfl, rfl, rfl⟩
      case round =>
        obtain ⟨k, hk, rfl, rfl, rfl⟩ := hrel
        by_cases hkm : k < m
        · have yk := (ints_at HV.out hkm).1
          have zk := (HB3.out.cell (p := ⟨gE, k, none⟩) hgE).trans (strs_at HNM.out hkm).1
          have HSS : Hid (sumF (szF ns) c (k + 1) = wrap64 (sumF (szF ns) c k + wrap64 (c.getD k 0 * szF ns k))) := Lib.hid rfl
          have hsz : szF ns k = (((bs (ns.getD k [])).size : Nat) : Int) := rfl
          rw [hsz] at HSS
          obtain ⟨cv, hcv⟩ : ∃ cv, cv = c.getD k 0 := ⟨_, rfl⟩
          obtain ⟨p, hp⟩ : ∃ p, p = bs (ns.getD k []) := ⟨_, rfl⟩
          rw [← hcv] at yk HSS
          rw [← hp] at zk HSS
          clear hsz hcv hp
          go_wp2_with fail
          go_roundw
          case rel => exact ⟨k + 1, by omega, by go_num, by rw [HSS.out], trivial⟩
          case measure => simp [intOf] <;> omega
        · obtain rfl : k = m := by omega
          go_wp2_with fail
          go_ret2
          exact ⟨rfl, HB1.out.trans (HB3.out.mono HB1.out.size)⟩

set_option maxHeartbeats 4000000 in
theorem implLengthLater_any (s : ByteArray) (n : Int) (w : World) (hs : s.size ≤ maxLen) :
    Calls Try.prog 25 #[.string s, .int .i64 n] w fun e w' => e = .returned (.tuple #[.int .i64 (sumQ szF s.data.toList n), .bool (ltB s.data.toList n)]) ∧ Below w.heap.size w w' := by
  have HA := Lib.hid (fun (W : World) => countElements_any s n W hs)
  obtain ⟨l, hl⟩ : ∃ l, l = s.data.toList := ⟨_, rfl⟩
  rw [← hl] at HA ⊢
  clear hl
  cases hR : ltQ l n with
  | none =>
    have hb : ltB l n = false := by unfold ltB; rw [hR]; rfl
    have HB : Hid (Ending.returned (.tuple #[.int .i64 (sumQ szF l n), .bool (ltB l n)]) = .returned (.tuple #[.int .i64 0, .bool false])) := Lib.hid (by rw [sumQ_none hb, hb])
    rw [hR] at HA
    rw [HB.out]
    clear hR hb
    go_enter Try.func25, Try.ntmps25
    go_wp2_with fail
    refine (HA.out w).mono ?_
    rintro e w1 hpost
    have HB1 := Lib.hid hpost.2.2
    obtain rfl := hpost.1 rfl
    clear hpost HA
    go_wp2_with fail
    go_loopw [9, 21] (fun sv kv wr => sv = .int .i64 0 ∧ kv = .int .i64 0 ∧ Hid (Below w.heap.size w wr)) (fun _ _ _ => 0)
    case atStart => exact ⟨rfl, rfl, Lib.hid (HB1.out.trans ((below_alloc w1 _).mono HB1.out.size))⟩
    case round =>
      obtain ⟨rfl, rfl, HX⟩ := hrel
      go_wp2_with fail
      go_ret2
      exact ⟨rfl, HX.out⟩
  | some ns =>
    obtain ⟨hq1, hq2⟩ := ltQ_tab hR
    have h0 := tabQ_ok hq1
    have h1 := tabQ_le hq1
    have hb : ltB l n = true := by unfold ltB; rw [hR]; rfl
    have hsq := sumQ_some (f := szF) hq1 hq2
    have hcl := cnts_len (partsL l) ns n.toNat
    have HB : Hid (Ending.returned (.tuple #[.int .i64 (sumQ szF l n), .bool (ltB l n)]) = .returned (.tuple #[.int .i64 (sumF (szF ns) (cntsL (partsL l) ns n.toNat) ns.length), .bool true])) := Lib.hid (by rw [hsq, hb])
    rw [hR] at HA
    have hA2 := fun W => (HA.out W)
    unfold CePost at hA2
    obtain ⟨c, hc⟩ : ∃ c, c = cntsL (partsL l) ns n.toNat := ⟨_, rfl⟩
    obtain ⟨m, hm⟩ : ∃ m, m = ns.length := ⟨_, rfl⟩
    have hm9 : m ≤ 200 := by rw [hm]; exact h1
    have hm0 : 0 < m := by rw [hm]; exact Nat.pos_of_ne_zero (fun e => h0.2 (List.eq_nil_of_length_eq_zero e))
    rw [← hc] at hcl HB
    rw [← hm] at hcl HB
    have HM := Lib.hid hm; have HCL := Lib.hid hcl; have HCC := Lib.hid hc; have H0 := Lib.hid h0
    rw [HB.out]
    clear hR hb hsq hcl hA2 hc hm hq1 hq2 h0 h1
    go_enter Try.func25, Try.ntmps25
    go_wp2_with fail
    refine (HA.out w).mono ?_
    rintro e w1 hpost
    have HB1 := Lib.hid hpost.2.2
    obtain ⟨vE, mb, vT, vP, vD, ts, v, rfl, hF, hv⟩ := hpost.2.1 ns rfl
    have hnm := hF.names
    obtain ⟨gE, cE, rfl, _, hgE, _⟩ := strs_pos hF.names H0.out.2
    obtain ⟨aT, cT, rfl⟩ := own_slice hF.times
    obtain ⟨aP, nP, cP, rfl⟩ := hF.shP
    obtain ⟨aD, nD, cD, rfl⟩ := hF.shD
    rw [← HCC.out] at hv
    obtain ⟨gc, cc, rfl, _, hgc⟩ := ints_posI hv (by intro e; have := HCL.out; rw [e] at this; simp at this; omega)
    rw [HCL.out] at hv
    have hv2 : Ints w1 w.heap.size (.slice (some ⟨gc, 0, none⟩) m cc) c := hv
    rw [← HM.out] at hnm
    rw [HCL.out, ← HM.out]
    obtain ⟨nt, hnt⟩ : ∃ nt, nt = (natsI ts).length := ⟨_, rfl⟩
    rw [← hnt]
    obtain ⟨wA, hwA⟩ : ∃ wA, wA = w1.alloc (.cells #[.slice (some ⟨gE, 0, none⟩) m cE, .map (some mb), .slice aT nt cT, .slice aP nP cP, .slice aD nD cD] 54 (0, 0)) := ⟨_, rfl⟩
    have x0 : wA.cell? ⟨w1.heap.size, 0, none⟩ = some (.slice (some ⟨gE, 0, none⟩) m cE) := by rw [hwA]; exact cell_newAt _ _ _ _ _ rfl
    have hbA : Below w1.heap.size w1 wA := by rw [hwA]; exact below_alloc _ _
    have HNA : Hid (Strs wA w.heap.size (.slice (some ⟨gE, 0, none⟩) m cE) ns) := Lib.hid (own_below hnm hbA)
    have HVA : Hid (Ints wA w.heap.size (.slice (some ⟨gc, 0, none⟩) m cc) c) := Lib.hid (own_below hv2 hbA)
    have HWA := Lib.hid hwA; have HBA := Lib.hid hbA
    clear hpost HA hF hv hv2 hnm hwA hbA hnt
    go_wp2_with fail
    go_loopw [9, 21] (fun sv kv wr => ∃ k : Nat, k ≤ m ∧ kv = .int .i64 k ∧ sv = .int .i64 (sumF (szF ns) c k) ∧ wA = wr) (fun _ kv _ => m - (intOf kv).toNat)
    case atStart => exact ⟨0, by omega, rfl, rfl, HWA.out⟩
    case round =>
      obtain ⟨k, hk, rfl, rfl, rfl⟩ := hrel
      by_cases hkm : k < m
      · have yk := (ints_at HVA.out hkm).1
        have zk := (strs_at HNA.out hkm).1
        have HSS : Hid (sumF (szF ns) c (k + 1) = wrap64 (sumF (szF ns) c k + wrap64 (c.getD k 0 * szF ns k))) := Lib.hid rfl
        have hsz : szF ns k = (((bs (ns.getD k [])).size : Nat) : Int) := rfl
        rw [hsz] at HSS
        obtain ⟨cv, hcv⟩ : ∃ cv, cv = c.getD k 0 := ⟨_, rfl⟩
        obtain ⟨p, hp⟩ : ∃ p, p = bs (ns.getD k []) := ⟨_, rfl⟩
        rw [← hcv] at yk HSS
        rw [← hp] at zk HSS
        clear hsz hcv hp
        go_wp2_with fail
        go_roundw
        case rel => exact ⟨k + 1, by omega, by go_num, by rw [HSS.out], trivial⟩
        case measure => simp [intOf] <;> omega
      · obtain rfl : k = m := by omega
        go_wp2_with fail
        go_ret2
        exact ⟨rfl, HB1.out.trans (HBA.out.mono HB1.out.size)⟩

set_option maxHeartbeats 1000000 in
theorem law_LengthLater (s : ByteArray) (n : Int) (w : World) (hs : s.size ≤ maxLen) :
    Calls Try.prog 6 #[.string s, .int .i64 n] w fun e w' => e = .returned (.bool true) ∧ Below w.heap.size w w' := by
  by_cases hbs : 1048576 < s.size
  · go_enter Try.func6, Try.ntmps6
    go_wp2_with fail
    go_ret
    exact ⟨rfl, Below.refl _ _⟩
  have HS := Lib.hid (fun (W : World) => specLengthLater_any s n W hs); have HI := Lib.hid (fun (W : World) => implLengthLater_any s n W hs)
  obtain ⟨v, hv⟩ : ∃ v, v = sumQ szF s.data.toList n := ⟨_, rfl⟩
  obtain ⟨b, hb⟩ : ∃ b, b = ltB s.data.toList n := ⟨_, rfl⟩
  rw [← hv, ← hb] at HS HI
  clear hv hb
  have e1 : (v != v) = false := by simp
  have e2 : (b != b) = false := by simp
  go_enter Try.func6, Try.ntmps6
  go_wp2_with fail
  refine (HS.out w).mono ?_
  rintro e w1 ⟨rfl, h1⟩
  have B1 := Lib.hid h1; clear h1
  go_wp2_with fail
  refine (HI.out w1).mono ?_
  rintro e w2 ⟨rfl, h1⟩
  have B2 := Lib.hid h1; clear h1
  go_wp2_with fail
  go_ret
  exact ⟨rfl, below_trans B1.out B2.out⟩
end Go.Proofs.Ytgmknehioadjhaa
