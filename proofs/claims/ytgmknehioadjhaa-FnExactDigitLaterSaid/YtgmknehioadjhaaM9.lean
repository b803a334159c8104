/- DigitLater: the model's, the program's, the law. -/
import Derived.Test.YtgmknehioadjhaaM8
import Derived.Test.YtgmknehioadjhaaMC
namespace Go.Proofs.Ytgmknehioadjhaa
open Go.RowKit Go.BigFrame Go.Maps
set_option linter.unusedSimpArgs false
set_option linter.unusedVariables false
set_option maxRecDepth 4000

def dgF (d : Int) (ns : List (List UInt8)) (k : Nat) : Int := (countD (ns.getD k []) d : Nat)
def dlB (l : List UInt8) (d n : Int) : Bool := digOk d && ltB l n
def dlV (l : List UInt8) (d n : Int) : Int := if digOk d = true then sumQ (dgF d) l n else 0
theorem dl_none {l : List UInt8} {d n : Int} (h : ltB l n = false) : (Value.tuple #[.int .i64 (dlV l d n), .bool (dlB l d n)]) = .tuple #[.int .i64 0, .bool false] := by
  unfold dlV dlB
  rw [sumQ_none h, h]; simp
theorem dl_dig {l : List UInt8} {d n : Int} (h : digOk d = false) : (Value.tuple #[.int .i64 (dlV l d n), .bool (dlB l d n)]) = .tuple #[.int .i64 0, .bool false] := by
  unfold dlV dlB
  rw [h]; simp
theorem dl_some {l : List UInt8} {d n : Int} (h : digOk d = true) : (Value.tuple #[.int .i64 (dlV l d n), .bool (dlB l d n)]) = .tuple #[.int .i64 (sumQ (dgF d) l n), .bool (ltB l n)] := by
  unfold dlV dlB
  rw [h]; simp
theorem dgF_model {d : Int} {ns : List (List UInt8)} {k : Nat} {W : World} (hok : NmOk ns) (hk : k < ns.length) (h0 : 1 ≤ d) (h1 : d ≤ 9) : Calls Try.prog 43 #[.string (bs (ns.getD k [])), .int .i64 d] W fun e w' => e = .returned (.int .i64 (dgF d ns k)) ∧ W = w' := by
  have e : ns.getD k [] = ns[k] := by simp [List.getD, List.getElem?_eq_getElem hk]
  obtain ⟨q1, q2⟩ := hok _ (List.getElem_mem hk)
  have h := woDigit_any (bs (ns.getD k [])) d W (by rw [bs_size, e]; omega) (by rw [bs_list, e]; exact (sayB_iff.1 q1).2.1) h0 h1
  rw [bs_list] at h
  exact h
theorem count_is (d : Int) (h0 : 1 ≤ d) (h1 : d ≤ 9) (p : List UInt8) (b cap gs : Nat) (W : World) (hcell : ∀ i (h : i < (bs p).size), W.cell? ⟨b, i, none⟩ = some (.int .u8 ((bs p)[i].toNat : Int))) (hs : W.cell? ⟨gs, 0, none⟩ = some (.int .u8 (48 + d))) :
    Calls Try.prog 46 #[.slice (some ⟨b, 0, none⟩) (bs p).size cap, .slice (some ⟨gs, 0, none⟩) 1 1] W fun e w' => e = .returned (.int .i64 (countD p d : Nat)) ∧ W = w' := by
  obtain ⟨s, hse⟩ : ∃ s, s = bs p := ⟨_, rfl⟩
  have hpl : p = s.data.toList := by rw [hse, bs_list]
  rw [← hse] at hcell ⊢
  rw [hpl]
  have hz : s.size = s.data.toList.length := by simp
  have hcc : ∀ i, i < s.size → W.cell? ⟨b, 0 + i, none⟩ = some (.int .u8 ((s.data.toList.map (fun c => (c.toNat : Int))).getD i 0)) := by
    intro i hi
    rw [Nat.zero_add, hcell i hi]
    have : i < s.data.toList.length := by rw [← hz]; exact hi
    rw [List.getD_eq_getElem?_getD, List.getElem?_map, List.getElem?_eq_getElem this]
    rfl
  have hcon := Try.bytes_Count_one b 0 s.size cap gs 0 1 (s.data.toList.map (fun c => (c.toNat : Int))) (48 + d) W (by simp) hcc hs
  have hval : Go.Lib.countByte (Go.Lib.bytesOf (s.data.toList.map (fun c => (c.toNat : Int)))) (48 + d).toNat.toUInt8 = countD s.data.toList d := by
    have e1 : Go.Lib.bytesOf (s.data.toList.map (fun c => (c.toNat : Int))) = s.data.toList := by
      unfold Go.Lib.bytesOf
      rw [List.map_map]
      conv => rhs; rw [← List.map_id s.data.toList]
      apply List.map_congr_left
      intro c _; simp
    have e2 : (48 + d).toNat.toUInt8 = dgc d := by
      unfold dgc
      rw [show (48 + d).toNat = 48 + d.toNat by omega]
    rw [e1, e2]; rfl
  rw [hval] at hcon
  exact hcon.mono fun e w' h => ⟨h.1, h.2.symm⟩

set_option maxHeartbeats 4000000 in
theorem specDigitLater_any (s : ByteArray) (d n : Int) (w : World) (hs : s.size ≤ maxLen) :
    Calls Try.prog 26 #[.string s, .int .i64 d, .int .i64 n] w fun e w' => e = .returned (.tuple #[.int .i64 (dlV s.data.toList d n), .bool (dlB s.data.toList d n)]) ∧ Below w.heap.size w w' := by
  have HA := Lib.hid (fun (W : World) => elAsked_any s W hs)
  obtain ⟨l, hl⟩ : ∃ l, l = s.data.toList := ⟨_, rfl⟩
  rw [← hl] at HA ⊢
  clear hl
  cases hR : tabQ l with
  | none =>
    rw [hR] at HA
    have hb := ltB_none (n := n) hR
    have HB : Hid (Ending.returned (.tuple #[.int .i64 (dlV l d n), .bool (dlB l d n)]) = .returned (.tuple #[.int .i64 0, .bool false])) := Lib.hid (by rw [dl_none hb])
    clear hR hb
    rw [HB.out]
    go_enter Try.func26, Try.ntmps26
    go_wp2_with fail
    refine (HA.out w).mono ?_
    rintro e w1 hpost
    have hB1 := hpost.2.2
    obtain rfl := hpost.1 rfl
    have HB1 := Lib.hid hB1
    clear hpost hB1 HA
    go_wp2_with fail
    go_ret2
    exact ⟨rfl, HB1.out⟩
  | some ns =>
    rw [hR] at HA
    have h0 := tabQ_ok hR
    have h1 := tabQ_le hR
    have h2 := tabQ_parts hR
    cases hT : inT n with
    | false =>
      have HE := Lib.hid (fun W => elTimes_is false n W hT)
      have hb := ltB_out (l := l) hT
      have HB : Hid (Ending.returned (.tuple #[.int .i64 (dlV l d n), .bool (dlB l d n)]) = .returned (.tuple #[.int .i64 0, .bool false])) := Lib.hid (by rw [dl_none hb])
      clear hR h0 h1 h2 hT hb
      rw [HB.out]
      go_enter Try.func26, Try.ntmps26
      go_wp2_with fail
      refine (HA.out w).mono ?_
      rintro e w1 hpost
      have hB1 := hpost.2.2
      obtain ⟨tp, nd, xb, v0, v1, v2, rfl, _, _⟩ := hpost.2.1 ns rfl
      have HB1 := Lib.hid hB1
      clear hpost hB1 HA
      go_wp2_with fail
      refine (HE.out _).mono ?_
      rintro e w2 ⟨rfl, rfl⟩
      go_wp2_with fail
      go_ret2
      exact ⟨rfl, HB1.out⟩
    | true =>
      have HE := Lib.hid (fun W => elTimes_is true n W hT)
      cases hD : digOk d with
      | false =>
        have HL1 := Lib.hid (fun W => l1In_is false d 1 9 W hD)
        have HB : Hid (Ending.returned (.tuple #[.int .i64 (dlV l d n), .bool (dlB l d n)]) = .returned (.tuple #[.int .i64 0, .bool false])) := Lib.hid (by rw [dl_dig hD])
        clear hR h0 h1 h2 hT hD
        rw [HB.out]
        go_enter Try.func26, Try.ntmps26
        go_wp2_with fail
        refine (HA.out w).mono ?_
        rintro e w1 hpost
        have hB1 := hpost.2.2
        obtain ⟨tp, nd, xb, v0, v1, v2, rfl, _, _⟩ := hpost.2.1 ns rfl
        have HB1 := Lib.hid hB1
        clear hpost hB1 HA
        go_wp2_with fail
        refine (HE.out _).mono ?_
        rintro e w2 ⟨rfl, rfl⟩
        go_wp2_with fail
        refine (HL1.out _).mono ?_
        rintro e w2 ⟨rfl, rfl⟩
        go_wp2_with fail
        go_ret2
        exact ⟨rfl, HB1.out⟩
      | true =>
        obtain ⟨hd0, hd1⟩ : 1 ≤ d ∧ d ≤ 9 := by unfold digOk at hD; simpa using hD
        have HL1 := Lib.hid (fun W => l1In_is true d 1 9 W hD)
        have hb := (ltC_some hR hT).1
        have hdl := dl_some (l := l) (d := d) (n := n) hD
        have hsq := sumQ_some (f := dgF d) hR hT
        obtain ⟨t, rfl⟩ : ∃ t : Nat, n = t := ⟨n.toNat, by unfold inT at hT; simp at hT; omega⟩
        have ht9 : t ≤ 80 := by unfold inT at hT; simp at hT; omega
        rw [Int.toNat_natCast] at hsq
        have HB : Hid (Ending.returned (.tuple #[.int .i64 (dlV l d (t : Int)), .bool (dlB l d (t : Int))]) = .returned (.tuple #[.int .i64 (sumF (dgF d ns) (cntsL (partsL l) ns t) ns.length), .bool true])) := Lib.hid (by rw [hdl, hsq, hb])
        have hlat := fun (W : World) (n₀ tp nd : Nat) (xb : List Nat) (v0 v1 v2 : Value) (hT1 : TabM W n₀ tp ns nd xb v0 v1 v2) (hR1 : RichM W n₀ (partsL l) ns nd xb v1) => later_any W n₀ tp nd xb v0 v1 v2 (partsL l) ns t ht9 hT1 hR1 h1 h0.2 h2.1 (by have := h2.2; omega) h0.1
        have hcl := cnts_len (partsL l) ns t
        obtain ⟨c, hc⟩ : ∃ c, c = cntsL (partsL l) ns t := ⟨_, rfl⟩
        rw [← hc] at hlat hcl HB
        obtain ⟨m, hm⟩ : ∃ m, m = ns.length := ⟨_, rfl⟩
        have hm9 : m ≤ 200 := by rw [hm]; exact h1
        have hm0 : 0 < m := by rw [hm]; exact Nat.pos_of_ne_zero (fun e => h0.2 (List.eq_nil_of_length_eq_zero e))
        rw [← hm] at hcl HB
        have H0 := Lib.hid h0; have HLAT := Lib.hid hlat; have HCL := Lib.hid hcl; have HM := Lib.hid hm
        clear hR h0 h1 h2 hT hb hsq hc hlat hcl hm hdl hD
        rw [HB.out]
        go_enter Try.func26, Try.ntmps26
        go_wp2_with fail
        refine (HA.out w).mono ?_
        rintro e w1 hpost
        have hB1 := hpost.2.2
        obtain ⟨tp, nd, xb, v0, v1, v2, rfl, hT1, hR1⟩ := hpost.2.1 ns rfl
        have HL := Lib.hid (HLAT.out w1 w.heap.size tp nd xb v0 v1 v2 hT1 hR1)
        obtain ⟨gE, cE, rfl, _, hgE, _⟩ := strs_pos hT1.names H0.out.2
        have x0 := hT1.cell0
        have htp := hT1.lt
        have hnm := hT1.names
        rw [← HM.out] at x0 hnm
        have HB1 := Lib.hid hB1; have HNM := Lib.hid hnm
        clear hpost hB1 HA hT1 hR1 hnm HLAT
        go_wp2_with fail
        refine (HE.out _).mono ?_
        rintro e w2 ⟨rfl, rfl⟩
        go_wp2_with fail
        refine (HL1.out _).mono ?_
        rintro e w2 ⟨rfl, rfl⟩
        go_wp2_with fail
        refine HL.out.mono ?_
        rintro e w3 ⟨v, rfl, hv, hb3⟩
        obtain ⟨gc, cc, rfl, _, hgc⟩ := ints_posI hv (by intro e; rw [e] at HCL; have := HCL.out; simp at this; omega)
        rw [HCL.out] at hv
        have hv2 : Ints w3 w1.heap.size (.slice (some ⟨gc, 0, none⟩) m cc) c := hv
        have y0 := (hb3.cell (p := ⟨tp, 0, none⟩) htp).trans x0
        have HV := Lib.hid hv2; have HB3 := Lib.hid hb3
        rw [HCL.out]
        clear hv hv2 hb3 HL
        go_wp2_with fail
        go_loopw [10, 34] (fun sv kv wr => ∃ k : Nat, k ≤ m ∧ kv = .int .i64 k ∧ sv = .int .i64 (sumF (dgF d ns) c k) ∧ w3 = wr) (fun _ kv _ => m - (intOf kv).toNat)
        case atStart => exact ⟨0, by omega, rfl, rfl, rfl⟩
        case round =>
          obtain ⟨k, hk, rfl, rfl, rfl⟩ := hrel
          by_cases hkm : k < m
          · have yk := (ints_at HV.out hkm).1
            have zk := (HB3.out.cell (p := ⟨gE, k, none⟩) hgE).trans (strs_at HNM.out hkm).1
            have HSS : Hid (sumF (dgF d ns) c (k + 1) = wrap64 (sumF (dgF d ns) c k + wrap64 (c.getD k 0 * dgF d ns k))) := Lib.hid rfl
            have hwd := fun W => dgF_model (W := W) (k := k) H0.out.1 (by rw [← HM.out]; exact hkm) hd0 hd1
            obtain ⟨y, hy⟩ : ∃ y, y = dgF d ns k := ⟨_, rfl⟩
            rw [← hy] at HSS hwd
            have HWD := Lib.hid hwd
            obtain ⟨cv, hcv⟩ : ∃ cv, cv = c.getD k 0 := ⟨_, rfl⟩
            obtain ⟨p, hp⟩ : ∃ p, p = bs (ns.getD k []) := ⟨_, rfl⟩
            rw [← hcv] at yk HSS
            rw [← hp] at zk HWD
            clear hcv hp hy hwd
            go_wp2_with fail
            refine (HWD.out _).mono ?_
            rintro e w5 ⟨rfl, rfl⟩
            go_wp2_with fail
            go_roundw
            case rel => exact ⟨k + 1, by omega, by go_num, by rw [HSS.out], trivial⟩
            case measure => simp [intOf] <;> omega
          · obtain rfl : k = m := by omega
            go_wp2_with fail
            go_ret2
            exact ⟨rfl, HB1.out.trans (HB3.out.mono HB1.out.size)⟩

set_option maxHeartbeats 4000000 in
theorem implDigitLater_any (s : ByteArray) (d n : Int) (w : World) (hs : s.size ≤ maxLen) :
    Calls Try.prog 27 #[.string s, .int .i64 d, .int .i64 n] w fun e w' => e = .returned (.tuple #[.int .i64 (dlV s.data.toList d n), .bool (dlB s.data.toList d n)]) ∧ Below w.heap.size w w' := by
  have HA := Lib.hid (fun (W : World) => countElements_any s n W hs)
  obtain ⟨l, hl⟩ : ∃ l, l = s.data.toList := ⟨_, rfl⟩
  rw [← hl] at HA ⊢
  clear hl
  cases hD : digOk d with
  | false =>
    have HL1 := Lib.hid (fun W => isDigit_is false d W hD)
    have HB : Hid (Ending.returned (.tuple #[.int .i64 (dlV l d n), .bool (dlB l d n)]) = .returned (.tuple #[.int .i64 0, .bool false])) := Lib.hid (by rw [dl_dig hD])
    rw [HB.out]
    clear hD HA
    go_enter Try.func27, Try.ntmps27
    go_wp2_with fail
    refine (HL1.out _).mono ?_
    rintro e w2 ⟨rfl, rfl⟩
    go_wp2_with fail
    go_ret2
    exact ⟨rfl, Below.refl _ _⟩
  | true =>
    obtain ⟨hd0, hd1⟩ : 1 ≤ d ∧ d ≤ 9 := by unfold digOk at hD; simpa using hD
    have HL1 := Lib.hid (fun W => isDigit_is true d W hD)
    have HSG := Lib.hid (fun W => signOf_is d W (by omega) (by omega))
    cases hR : ltQ l n with
    | none =>
      have hb : ltB l n = false := by unfold ltB; rw [hR]; rfl
      have HB : Hid (Ending.returned (.tuple #[.int .i64 (dlV l d n), .bool (dlB l d n)]) = .returned (.tuple #[.int .i64 0, .bool false])) := Lib.hid (by rw [dl_none hb])
      rw [hR] at HA
      rw [HB.out]
      clear hR hb hD
      go_enter Try.func27, Try.ntmps27
      go_wp2_with fail
      refine (HL1.out _).mono ?_
      rintro e w0 ⟨rfl, rfl⟩
      go_wp2_with fail
      refine (HA.out w).mono ?_
      rintro e w1 hpost
      have HB1 := Lib.hid hpost.2.2
      obtain rfl := hpost.1 rfl
      clear hpost HA
      go_wp2_with fail
      refine (HSG.out _).mono ?_
      rintro e w2 ⟨rfl, rfl⟩
      go_wp2_with fail
      go_loopw [12, 30] (fun sv kv wr => sv = .int .i64 0 ∧ kv = .int .i64 0 ∧ Hid (Below w.heap.size w wr)) (fun _ _ _ => 0)
      case atStart => exact ⟨rfl, rfl, Lib.hid ((HB1.out.trans ((below_alloc w1 _).mono HB1.out.size)).alloc (by have := HB1.out.size; simp; omega) _)⟩
      case round =>
        obtain ⟨rfl, rfl, HX⟩ := hrel
        go_wp2_with fail
        go_ret2
        exact ⟨rfl, HX.out⟩
    | some ns =>
      obtain ⟨hq1, hq2⟩ := ltQ_tab hR
      have h0 := tabQ_ok hq1
      have h1 := tabQ_le hq1
      have hb : ltB l n = true := by unfold ltB; rw [hR]; rfl
      have hsq := sumQ_some (f := dgF d) hq1 hq2
      have hcl := cnts_len (partsL l) ns n.toNat
      have HB : Hid (Ending.returned (.tuple #[.int .i64 (dlV l d n), .bool (dlB l d n)]) = .returned (.tuple #[.int .i64 (sumF (dgF d ns) (cntsL (partsL l) ns n.toNat) ns.length), .bool true])) := Lib.hid (by rw [dl_some hD, hsq, hb])
      rw [hR] at HA
      have hA2 := fun W => (HA.out W)
      unfold CePost at hA2
      obtain ⟨c, hc⟩ : ∃ c, c = cntsL (partsL l) ns n.toNat := ⟨_, rfl⟩
      obtain ⟨m, hm⟩ : ∃ m, m = ns.length := ⟨_, rfl⟩
      have hm9 : m ≤ 200 := by rw [hm]; exact h1
      have hm0 : 0 < m := by rw [hm]; exact Nat.pos_of_ne_zero (fun e => h0.2 (List.eq_nil_of_length_eq_zero e))
      rw [← hc] at hcl HB
      rw [← hm] at hcl HB
      have HM := Lib.hid hm; have HCL := Lib.hid hcl; have HCC := Lib.hid hc; have H0 := Lib.hid h0
      rw [HB.out]
      clear hR hb hsq hcl hA2 hc hm hq1 hq2 h0 h1 hD
      go_enter Try.func27, Try.ntmps27
      go_wp2_with fail
      refine (HL1.out _).mono ?_
      rintro e w0 ⟨rfl, rfl⟩
      go_wp2_with fail
      refine (HA.out w).mono ?_
      rintro e w1 hpost
      have HB1 := Lib.hid hpost.2.2
      obtain ⟨vE, mb, vT, vP, vD, ts, v, rfl, hF, hv⟩ := hpost.2.1 ns rfl
      have hnm := hF.names
      obtain ⟨gE, cE, rfl, _, hgE, _⟩ := strs_pos hF.names H0.out.2
      obtain ⟨aT, cT, rfl⟩ := own_slice hF.times
      obtain ⟨aP, nP, cP, rfl⟩ := hF.shP
      obtain ⟨aD, nD, cD, rfl⟩ := hF.shD
      rw [← HCC.out] at hv
      obtain ⟨gc, cc, rfl, _, hgc⟩ := ints_posI hv (by intro e; have := HCL.out; rw [e] at this; simp at this; omega)
      rw [HCL.out] at hv
      have hv2 : Ints w1 w.heap.size (.slice (some ⟨gc, 0, none⟩) m cc) c := hv
      rw [← HM.out] at hnm
      rw [HCL.out, ← HM.out]
      obtain ⟨nt, hnt⟩ : ∃ nt, nt = (natsI ts).length := ⟨_, rfl⟩
      rw [← hnt]
      obtain ⟨wA, hwA⟩ : ∃ wA, wA = w1.alloc (.cells #[.slice (some ⟨gE, 0, none⟩) m cE, .map (some mb), .slice aT nt cT, .slice aP nP cP, .slice aD nD cD] 54 (0, 0)) := ⟨_, rfl⟩
      have x0 : wA.cell? ⟨w1.heap.size, 0, none⟩ = some (.slice (some ⟨gE, 0, none⟩) m cE) := by rw [hwA]; exact cell_newAt _ _ _ _ _ rfl
      have hbA : Below w1.heap.size w1 wA := by rw [hwA]; exact below_alloc _ _
      have HNA : Hid (Strs wA w.heap.size (.slice (some ⟨gE, 0, none⟩) m cE) ns) := Lib.hid (own_below hnm hbA)
      have HVA : Hid (Ints wA w.heap.size (.slice (some ⟨gc, 0, none⟩) m cc) c) := Lib.hid (own_below hv2 hbA)
      have HWA := Lib.hid hwA; have HBA := Lib.hid hbA
      have hsA : wA.heap.size = w1.heap.size + 1 := by rw [hwA]; simp
      obtain ⟨wB, hwB⟩ : ∃ wB, wB = wA.alloc (.cells #[.int .u8 (48 + d)] 5 (0, 0)) := ⟨_, rfl⟩
      have hbB : Below wA.heap.size wA wB := by rw [hwB]; exact below_alloc _ _
      have hsB : wB.heap.size = w1.heap.size + 1 + 1 := by rw [hwB]; simp [hsA]
      have xs0 : wB.cell? ⟨w1.heap.size + 1, 0, none⟩ = some (.int .u8 (48 + d)) := by rw [hwB, ← hsA]; exact cell_newAt _ _ _ _ _ rfl
      have x1 : wB.cell? ⟨w1.heap.size, 0, none⟩ = some (.slice (some ⟨gE, 0, none⟩) m cE) := (hbB.cell (p := ⟨w1.heap.size, 0, none⟩) (show w1.heap.size < wA.heap.size by omega)).trans x0
      have HNB : Hid (Strs wB w.heap.size (.slice (some ⟨gE, 0, none⟩) m cE) ns) := Lib.hid (own_below HNA.out hbB)
      have HVB : Hid (Ints wB w.heap.size (.slice (some ⟨gc, 0, none⟩) m cc) c) := Lib.hid (own_below HVA.out hbB)
      have HWB : Hid (wB = (w1.alloc (.cells #[.slice (some ⟨gE, 0, none⟩) m cE, .map (some mb), .slice aT nt cT, .slice aP nP cP, .slice aD nD cD] 54 (0, 0))).alloc (.cells #[.int .u8 (48 + d)] 5 (0, 0))) := Lib.hid (by rw [hwB, hwA])
      have HBB : Hid (Below w.heap.size w wB) := Lib.hid ((HB1.out.trans (hbA.mono HB1.out.size)).trans (hbB.mono (by have := HB1.out.size; omega)))
      have HSB := Lib.hid hsB
      clear hpost HA hF hv hv2 hnm hwA hbA hnt hsA hwB hbB hsB x0 HNA HVA HWA HBA
      go_wp2_with fail
      refine (HSG.out _).mono ?_
      rintro e w2 ⟨rfl, rfl⟩
      go_wp2_with fail
      go_loopw [12, 30] (fun sv kv wr => ∃ k : Nat, k ≤ m ∧ kv = .int .i64 k ∧ sv = .int .i64 (sumF (dgF d ns) c k) ∧ Hid (Below wB.heap.size wB wr)) (fun _ kv _ => m - (intOf kv).toNat)
      case atStart => exact ⟨0, by omega, rfl, rfl, Lib.hid (by rw [← HWB.out]; exact Below.refl _ _)⟩
      case round =>
        obtain ⟨k, hk, rfl, rfl, HX⟩ := hrel
        have hb := HX.out
        have hszb := hb.size
        rw [HSB.out] at hszb
        by_cases hkm : k < m
        · obtain ⟨zk0, hgEB, hmn⟩ := strs_at HNB.out hkm
          clear hmn
          have yk := (hb.cell (p := ⟨gc, k, none⟩) (ints_len HVB.out).2.1).trans (ints_at HVB.out hkm).1
          have zk := (hb.cell (p := ⟨gE, k, none⟩) hgEB).trans zk0
          have x2 := (hb.cell (p := ⟨w1.heap.size, 0, none⟩) (show w1.heap.size < wB.heap.size by rw [HSB.out]; omega)).trans x1
          have xs2 := (hb.cell (p := ⟨w1.heap.size + 1, 0, none⟩) (show w1.heap.size + 1 < wB.heap.size by rw [HSB.out]; omega)).trans xs0
          have HSS : Hid (sumF (dgF d ns) c (k + 1) = wrap64 (sumF (dgF d ns) c k + wrap64 (c.getD k 0 * dgF d ns k))) := Lib.hid rfl
          have hpl : (ns.getD k []).length ≤ 60 := by
            have hk2 : k < ns.length := by rw [← HM.out]; exact hkm
            rw [show ns.getD k [] = ns[k] by simp [List.getD, List.getElem?_eq_getElem hk2]]
            exact (H0.out.1 _ (List.getElem_mem hk2)).2
          have hdg : dgF d ns k = (countD (ns.getD k []) d : Nat) := rfl
          obtain ⟨y, hy⟩ : ∃ y, y = dgF d ns k := ⟨_, rfl⟩
          rw [← hy] at HSS hdg
          obtain ⟨cv, hcv⟩ : ∃ cv, cv = c.getD k 0 := ⟨_, rfl⟩
          obtain ⟨p, hp⟩ : ∃ p, p = ns.getD k [] := ⟨_, rfl⟩
          rw [← hcv] at yk HSS
          rw [← hp] at zk hpl hdg
          have hsz : (bs p).size ≤ maxLen := by rw [bs_size]; unfold maxLen; omega
          have HDG := Lib.hid hdg; have HB := Lib.hid hb
          clear HX hb zk0 hcv hp hy hdg hpl
          go_wp2_with (refine wpList_bytes _ rfl 9 65 _ rfl 5 Try.underlying9 Try.underlying65 Try.underlying5 (bs p) rfl hsz ?_; intro w2 cap hb2 hsz2 hcap hcm hcell hfr)
          have hcon := count_is d hd0 hd1 p wr.heap.size cap (w1.heap.size + 1) w2 hcell ((hb2.cell (p := ⟨w1.heap.size + 1, 0, none⟩) (show w1.heap.size + 1 < wr.heap.size by omega)).trans xs2)
          rw [← HDG.out] at hcon
          have HCON := Lib.hid hcon; have HB2 := Lib.hid hb2
          clear hcon hb2 hcell hfr
          go_wp2_with fail
          refine HCON.out.mono ?_
          rintro e w5 ⟨rfl, rfl⟩
          go_wp2_with fail
          go_roundw
          case rel => exact ⟨k + 1, by omega, by go_num, by rw [HSS.out], Lib.hid (HB.out.trans (HB2.out.mono (by rw [HSB.out]; omega)))⟩
          case measure => simp [intOf] <;> omega
        · obtain rfl : k = m := by omega
          have HB := Lib.hid hb
          clear HX hb
          go_wp2_with fail
          go_ret2
          exact ⟨rfl, HBB.out.trans (HB.out.mono (by have := HBB.out.size; omega))⟩


set_option maxHeartbeats 1000000 in
theorem law_DigitLater (s : ByteArray) (n : Int) (m : Int) (w : World) (hs : s.size ≤ maxLen) :
    Calls Try.prog 7 #[.string s, .int .i64 n, .int .i64 m] w fun e w' => e = .returned (.bool true) ∧ Below w.heap.size w w' := by
  by_cases hbs : 1048576 < s.size
  · go_enter Try.func7, Try.ntmps7
    go_wp2_with fail
    go_ret
    exact ⟨rfl, Below.refl _ _⟩
  have HS := Lib.hid (fun (W : World) => specDigitLater_any s n m W hs); have HI := Lib.hid (fun (W : World) => implDigitLater_any s n m W hs)
  obtain ⟨v, hv⟩ : ∃ v, v = dlV s.data.toList n m := ⟨_, rfl⟩
  obtain ⟨b, hb⟩ : ∃ b, b = dlB s.data.toList n m := ⟨_, rfl⟩
  rw [← hv, ← hb] at HS HI
  clear hv hb
  have e1 : (v != v) = false := by simp
  have e2 : (b != b) = false := by simp
  go_enter Try.func7, Try.ntmps7
  go_wp2_with fail
  refine (HS.out w).mono ?_
  rintro e w1 ⟨rfl, h1⟩
  have B1 := Lib.hid h1; clear h1
  go_wp2_with fail
  refine (HI.out w1).mono ?_
  rintro e w2 ⟨rfl, h1⟩
  have B2 := Lib.hid h1; clear h1
  go_wp2_with fail
  go_ret
  exact ⟨rfl, below_trans B1.out B2.out⟩
end Go.Proofs.Ytgmknehioadjhaa
