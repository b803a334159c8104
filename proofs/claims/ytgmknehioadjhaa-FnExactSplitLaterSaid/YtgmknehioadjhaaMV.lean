/- The program's SplitLater, and the law. -/
import Derived.Test.YtgmknehioadjhaaMU
namespace Go.Proofs.Ytgmknehioadjhaa
open Go.RowKit Go.BigFrame Go.Maps
set_option linter.unusedSimpArgs false
set_option linter.unusedVariables false
set_option maxRecDepth 4000

set_option maxHeartbeats 8000000 in
theorem implSplitLater_q (s : ByteArray) (n : Int) (w : World) (hs : s.size ≤ maxLen) :
    Calls Try.prog 35 #[.string s, .int .i64 n] w fun e w' => StrsQ (slQ s.data.toList n) w w' e := by
  obtain ⟨s0, si, sz0, sz1, sz2⟩ := info_parts info_str6
  have HA := Lib.hid (fun (W : World) => findElements_q s W hs)
  obtain ⟨l, hl⟩ : ∃ l, l = s.data.toList := ⟨_, rfl⟩
  rw [← hl] at HA ⊢
  clear hl
  cases hN : inS n with
  | false =>
    have HE := Lib.hid (fun W => isWithin_is false n 0 12 W hN)
    rw [slQ_out hN]
    clear hN HA
    go_enter Try.func35, Try.ntmps35
    go_wp2_with fail
    refine (HE.out _).mono ?_
    rintro e w2 ⟨rfl, rfl⟩
    go_wp2_with fail
    go_ret2
    exact ⟨_, rfl, World.ownsRow_nil _ _ _ _, Below.refl _ _⟩
  | true =>
    have HE := Lib.hid (fun W => isWithin_is true n 0 12 W hN)
    cases hR : tabQ l with
    | none =>
      rw [hR] at HA
      rw [slQ_none hR]
      clear hR hN
      go_enter Try.func35, Try.ntmps35
      go_wp2_with fail
      refine (HE.out _).mono ?_
      rintro e w2 ⟨rfl, rfl⟩
      go_wp2_with fail
      refine (HA.out w).mono ?_
      rintro e w1 hpost
      have HB1 := Lib.hid hpost.2.2
      obtain rfl := hpost.1 rfl
      clear hpost HA
      go_wp2_with fail
      go_ret2
      exact ⟨_, rfl, World.ownsRow_nil _ _ _ _, HB1.out.trans ((below_alloc w1 _).mono HB1.out.size)⟩
    | some ns =>
      rw [hR] at HA
      have h0 := tabQ_ok hR
      have h1 := tabQ_le hR
      have h2 := tabQ_parts hR
      rw [slQ_some hR hN]
      obtain ⟨t, rfl⟩ : ∃ t : Nat, n = t := ⟨n.toNat, by unfold inS at hN; simp at hN; omega⟩
      have ht9 : t ≤ 12 := by unfold inS at hN; simp at hN; omega
      rw [Int.toNat_natCast]
      obtain ⟨P, hP⟩ : ∃ P, P = partsL l := ⟨_, rfl⟩
      rw [← hP] at h2 HA ⊢
      obtain ⟨RES, hRES⟩ : ∃ RES, RES = splF (rowN ns) t (begN P ns) := ⟨_, rfl⟩
      rw [← hRES]
      have HRES := Lib.hid hRES; have H0 := Lib.hid h0; have H1 := Lib.hid h1; have H2 := Lib.hid h2
      clear hR hN hRES h0 h1 h2 hP
      go_enter Try.func35, Try.ntmps35
      go_wp2_with fail
      refine (HE.out _).mono ?_
      rintro e w2 ⟨rfl, rfl⟩
      go_wp2_with fail
      refine (HA.out w).mono ?_
      rintro e w1 hpost
      have hB1 := hpost.2.2
      obtain ⟨vE, mb, vT, vP, vD, ts, rfl, hF⟩ := hpost.2.1 ns rfl
      obtain ⟨gE, cE, aT, cT, gp, cp, gD, cD, rfl, rfl, rfl, rfl, hgp, hgE⟩ := hF.open_ H0.out.2 H2.out.1
      have hparts := hF.parts
      have hrows := hF.rows
      have hnm := hF.names
      have hbl : (begN P ns).length = P.length := by unfold begN; simp
      obtain ⟨m, hm⟩ : ∃ m, m = ns.length := ⟨_, rfl⟩
      obtain ⟨M, hM⟩ : ∃ M, M = P.length := ⟨_, rfl⟩
      obtain ⟨nt, hnt⟩ : ∃ nt, nt = (natsI ts).length := ⟨_, rfl⟩
      have hm9 : m ≤ 200 := by rw [hm]; exact H1.out
      have hM9 : M ≤ 61 := by rw [hM]; exact H2.out.2
      have hbeglt : AllLt m (begN P ns) := by rw [hm]; exact beg_lt hF.mem
      have hnp : NR w1 w.heap.size (.slice (some ⟨gp, 0, none⟩) M cp) M (begN P ns) := by
        rw [hM]
        exact NR.of hparts hbl.symm
      have hrlt : ∀ k, k < m → AllLt m (rowN ns k) := fun k hk => by rw [hm]; exact rowN_lt hrows (by rw [← hm]; exact hk)
      rw [← hm] at hrows hnm
      rw [← hm, ← hnt, ← hM]
      obtain ⟨wA, hwA⟩ : ∃ wA, wA = w1.alloc (.cells #[.slice (some ⟨gE, 0, none⟩) m cE, .map (some mb), .slice aT nt cT, .slice (some ⟨gp, 0, none⟩) M cp, .slice (some ⟨gD, 0, none⟩) m cD] 54 (0, 0)) := ⟨_, rfl⟩
      have hsA : wA.heap.size = w1.heap.size + 1 := by rw [hwA]; simp
      have hbA : Below w1.heap.size w1 wA := by rw [hwA]; exact below_alloc _ _
      have hoA : wA.heap[w1.heap.size]? = some (.cells #[.slice (some ⟨gE, 0, none⟩) m cE, .map (some mb), .slice aT nt cT, .slice (some ⟨gp, 0, none⟩) M cp, .slice (some ⟨gD, 0, none⟩) m cD] 54 (0, 0)) := by rw [hwA]; exact heap_alloc_new _ _
      obtain ⟨j0, _, _, j3, j4, _⟩ := cells_of hoA
      have hwb : Below w.heap.size w wA := hB1.trans (hbA.mono hB1.size)
      have HWA := Lib.hid hwA; have HSA := Lib.hid hsA; have HM := Lib.hid hm; have HBL := Lib.hid (hbl.trans hM.symm); have HBEG := Lib.hid hbeglt; have HRLT := Lib.hid hrlt
      have HNP : Hid (NR wA w.heap.size (.slice (some ⟨gp, 0, none⟩) M cp) M (begN P ns)) := Lib.hid (own_below hnp hbA)
      have HRA : Hid (RowsD wA w.heap.size w1.heap.size (.slice (some ⟨gD, 0, none⟩) m cD) m ns) := Lib.hid (hrows.below hbA)
      have HNA : Hid (Strs wA w.heap.size (.slice (some ⟨gE, 0, none⟩) m cE) ns) := Lib.hid (own_below hnm hbA)
      have HWB := Lib.hid hwb
      clear hpost hF hB1 hm hM hnt hwA hsA hbA hoA hwb hparts hrows hnm hbl hbeglt hrlt hnp HA
      go_wp2_with fail
      go_loopw [8, 25] (fun nv kv wr => ∃ (i : Nat) (lst : List Nat), i ≤ t ∧ kv = .int .i64 i ∧ (∃ ra rc, nv = .slice ra lst.length rc) ∧ Hid (splF (rowN ns) (t - i) lst = RES ∧ lst.length ≤ 400 ∧ AllLt m lst ∧ NR wr w.heap.size nv lst.length lst ∧ Below wA.heap.size wA wr)) (fun _ kv _ => t - (intOf kv).toNat)
      case atStart => exact ⟨0, begN P ns, by omega, rfl, ⟨_, _, by rw [HBL.out]⟩, Lib.hid ⟨HRES.out.symm, by rw [HBL.out]; omega, HBEG.out, by rw [HBL.out, ← HWA.out]; exact HNP.out, by rw [← HWA.out]; exact Below.refl _ _⟩⟩
      case round =>
        obtain ⟨wm, hwm⟩ : ∃ wm, wm = wr := ⟨_, rfl⟩
        subst hwm
        obtain ⟨i, lst, hi, rfl, ⟨ra, rc, rfl⟩, HX⟩ := hrel
        obtain ⟨hsp, hl4, hall, hnr, hb⟩ := HX.out
        obtain ⟨T, hT⟩ : ∃ T, T = lst.length := ⟨_, rfl⟩
        rw [← hT] at hl4 hnr ⊢
        have hszm := hb.size
        rw [HSA.out] at hszm
        by_cases hit : i < t
        · have hone : ¬ 400 < (flatS (rowN ns) lst).length → splF (rowN ns) (t - (i + 1)) (flatS (rowN ns) lst) = RES := fun h => by
            rw [← hsp, show t - i = (t - (i + 1)) + 1 by omega, splF, if_neg h]
          have hbig : 400 < (flatS (rowN ns) lst).length → RES = none := fun h => by
            rw [← hsp, show t - i = (t - (i + 1)) + 1 by omega, splF, if_pos h]
          have hcall := decayed_any wm w.heap.size w1.heap.size w1.heap.size m gD cD T w.heap.size (.slice ra T rc) ns lst HM.out hm9 H0.out.1 ((hb.cell (p := ⟨w1.heap.size, 4, none⟩) (by rw [HSA.out]; exact Nat.lt_succ_self _)).trans j4) (by omega) (HRA.out.below hb) hT hl4 hall hnr
          have hlt2 := flat_lt HRLT.out hall
          obtain ⟨lst2, hl2⟩ : ∃ lst2, lst2 = flatS (rowN ns) lst := ⟨_, rfl⟩
          rw [← hl2] at hone hbig hcall hlt2
          obtain ⟨T2, hT2⟩ : ∃ T2, T2 = lst2.length := ⟨_, rfl⟩
          rw [← hT2] at hone hbig hcall
          have HONE := Lib.hid hone; have HBIG := Lib.hid hbig; have HCALL := Lib.hid hcall; have HLT2 := Lib.hid hlt2; have HB := Lib.hid hb; have HT2 := Lib.hid hT2
          clear HX hsp hall hnr hb hone hbig hcall hlt2 hl2 hT hT2
          go_wp2_with fail
          refine HCALL.out.mono ?_
          rintro e w5 ⟨v, rfl, hv, hb5⟩
          obtain ⟨rv, cv, rfl⟩ := own_slice hv
          have HV := Lib.hid hv
          have HB5 := Lib.hid (HB.out.trans (hb5.mono (by rw [HSA.out]; omega)))
          clear hv hb5 HCALL
          by_cases hbg : 400 < T2
          · have HRN := Lib.hid (HBIG.out hbg)
            go_wp2_with fail
            go_ret2
            rw [HRN.out]
            exact ⟨_, rfl, World.ownsRow_nil _ _ _ _, HWB.out.trans (HB5.out.mono (by have := HWB.out.size; omega))⟩
          · go_wp2_with fail
            go_roundw
            case rel => exact ⟨i + 1, lst2, by omega, by go_num, ⟨rv, cv, by rw [HT2.out]⟩, Lib.hid ⟨HONE.out hbg, by rw [← HT2.out]; omega, HLT2.out, by rw [← HT2.out]; exact own_mono HV.out (by have := HWB.out.size; rw [HSA.out] at this; omega), HB5.out⟩⟩
            case measure => simp [intOf] <;> omega
        · have hre : RES = some lst := by rw [← hsp, show t - i = 0 by omega]; rfl
          have HRE := Lib.hid hre; have HALL := Lib.hid hall; have HNR := Lib.hid hnr; have HB := Lib.hid hb; have HT := Lib.hid hT
          clear HX hsp hall hnr hb hT hre
          go_wp2_with (refine wpList_make_own _ rfl _ _ 22 rfl wm.heap.size 9 s0 (.string ⟨#[]⟩) 1 Try.underlying22 si sz0 sz1 .i64 .i64 (T : Int) T rfl rfl rfl (by rw [sz2]; omega) (by unfold maxLen; omega) (Nat.le_refl _) ?_; intro w6 hown hgr; have HO := Lib.hid hown; have HB6 := Lib.hid (below_grown (Nat.le_refl _) hgr (fun g e => by cases e)); clear hown hgr)
          go_loopw [9, 38] (fun ov kv wz => ∃ k : Nat, k ≤ T ∧ kv = .int .i64 k ∧ Hid ((∃ ao co, ov = .slice ao (outN ns (lst.take k)).length co) ∧ Strs wz wm.heap.size ov (outN ns (lst.take k)) ∧ Below wm.heap.size wm wz)) (fun _ kv _ => T - (intOf kv).toNat)
          case atStart => exact ⟨0, by omega, rfl, Lib.hid ⟨⟨_, _, rfl⟩, HO.out, HB6.out⟩⟩
          case round =>
            obtain ⟨k, hk, rfl, HX⟩ := hrel
            obtain ⟨⟨ao, co, rfl⟩, hrow, hbz⟩ := HX.out
            by_cases hkT : k < T
            · have hkl : k < lst.length := by rw [← HT.out]; exact hkT
              obtain ⟨gn, cn, hen, ynk, hgn, _⟩ := HNR.out.at_ HT.out hkT
              cases hen
              have hxn := getD_lt HALL.out hkl
              have hsn := outN_snoc (ns := ns) hkl
              have hol : (outN ns (lst.take k)).length ≤ 400 := by unfold outN; simp; omega
              have yk := (hbz.cell (p := ⟨gn, k, none⟩) hgn).trans ynk
              have hbW : Below wA.heap.size wA wr := HB.out.trans (hbz.mono (by rw [HSA.out]; exact hszm))
              have y0 := (hbW.cell (p := ⟨w1.heap.size, 0, none⟩) (by rw [HSA.out]; exact Nat.lt_succ_self _)).trans j0
              obtain ⟨x, hx⟩ : ∃ x, x = lst.getD k 0 := ⟨_, rfl⟩
              rw [← hx] at yk hxn hsn
              obtain ⟨zx, hgEA, hmn⟩ := strs_at HNA.out hxn
              have yx := (hbW.cell (p := ⟨gE, x, none⟩) hgEA).trans zx
              obtain ⟨p, hp⟩ : ∃ p, p = ns.getD x [] := ⟨_, rfl⟩
              rw [← hp] at yx hsn
              have hszz := hbz.size
              have HROW := Lib.hid hrow; have HBZ := Lib.hid hbz; have HSN := Lib.hid hsn
              clear HX hrow hbz hsn hx hp ynk hbW hkl zx hmn
              go_wp2_with (at_builtin; refine wpList_app _ rfl _ _ 22 rfl wm.heap.size 9 s0 (.string ⟨#[]⟩) 16 Try.underlying22 si sz0 sz1 sz2 rfl _ (outN ns (lst.take k)).length _ rfl (HROW.out.alloc _) _ 1 1 [.string (bs p)] rfl rfl ?c1 ?c2 ?c3 ?c4 ?c5 ?_)
              case c1 => intro i u hi'; cases i with | zero => (simp at hi'; subst hi'; simp [Addr.add]; (try exact cell_newN _ _ _ _ (by simp))) | succ i => simp at hi'
              case c2 => intro u hu; simp at hu; subst hu; rfl
              case c3 => unfold maxLen; omega
              case c4 => omega
              case c5 => simp; omega
              intro v' w5 hown' hgrow hwh
              have hb5 : Below wm.heap.size wm w5 := (HBZ.out.alloc hszz _).trans (below_grown (by simp; omega) hgrow (fun g e => (HROW.out.lt g e).1))
              obtain ⟨a3, c3, rfl⟩ := own_slice hown'
              have HO5 := Lib.hid hown'; have HB5 := Lib.hid hb5
              clear hown' hgrow hwh hb5
              go_wp2_with fail
              go_roundw
              case rel =>
                refine ⟨k + 1, by omega, by go_num, Lib.hid ⟨⟨a3, c3, by rw [HSN.out, List.length_append]; rfl⟩, ?_, HB5.out⟩⟩
                rw [HSN.out]
                have h := HO5.out
                unfold Strs
                rw [List.length_append]
                simpa using h
              case measure => simp [intOf] <;> omega
            · obtain rfl : k = T := by omega
              have hfull : lst.take k = lst := List.take_of_length_le (by rw [← HT.out]; exact Nat.le_refl _)
              have HROW := Lib.hid hrow; have HBZ := Lib.hid hbz; have HFULL := Lib.hid hfull
              clear HX hrow hbz hfull
              go_wp2_with fail
              go_ret2
              rw [HRE.out]
              refine ⟨_, rfl, by rw [show ((some lst).map (outN ns)).getD [] = outN ns (lst.take k) by rw [HFULL.out]; rfl]; exact own_mono HROW.out (by have := HWB.out.size; rw [HSA.out] at this; omega), (HWB.out.trans (HB.out.mono (by have := HWB.out.size; omega))).trans (HBZ.out.mono (by have := HWB.out.size; rw [HSA.out] at this; omega))⟩

def slB (l : List UInt8) (n : Int) : Bool := (slQ l n).isSome
def slL (l : List UInt8) (n : Int) : List (List UInt8) := (slQ l n).getD []
theorem slL_le (l : List UInt8) (n : Int) : (slL l n).length ≤ 1000 := slQ_le
theorem specSplitLater_any (s : ByteArray) (n : Int) (w : World) (hs : s.size ≤ maxLen) :
    Calls Try.prog 34 #[.string s, .int .i64 n] w fun e w' => StrsOkB (slB s.data.toList n) (slL s.data.toList n) w w' e := (specSplitLater_q s n w hs).mono fun e w' h => h.ok2
theorem implSplitLater_any (s : ByteArray) (n : Int) (w : World) (hs : s.size ≤ maxLen) :
    Calls Try.prog 35 #[.string s, .int .i64 n] w fun e w' => StrsOkB (slB s.data.toList n) (slL s.data.toList n) w w' e := (implSplitLater_q s n w hs).mono fun e w' h => h.ok2
set_option maxHeartbeats 1000000 in
theorem law_SplitLater (s : ByteArray) (n : Int) (w : World) (hs : s.size ≤ maxLen) :
    Calls Try.prog 11 #[.string s, .int .i64 n] w fun e w' => e = .returned (.bool true) ∧ Below w.heap.size w w' := by
  by_cases hbs : 1048576 < s.size
  · go_enter Try.func11, Try.ntmps11
    go_wp2_with fail
    go_ret
    exact ⟨rfl, Below.refl _ _⟩
  obtain ⟨y, hy⟩ : ∃ y, y = slB s.data.toList n := ⟨_, rfl⟩
  obtain ⟨ns, hn⟩ : ∃ ns, ns = if y = true then slL s.data.toList n else [] := ⟨_, rfl⟩
  have hlen : ns.length ≤ 1000 := by
    rw [hn]
    split
    · exact slL_le s.data.toList n
    · simp
  have e2 : (y != y) = false := by simp
  obtain ⟨tt, ht0⟩ : ∃ tt, tt = 1 + ns.length := ⟨_, rfl⟩
  have ht2 : tt ≤ 1001 := by omega
  have ht1 : 1 ≤ tt := by omega
  have e1 : ((tt : Int) != (tt : Int)) = false := by simp
  have HS := Lib.hid (fun (W : World) => specSplitLater_any s n W hs); have HI := Lib.hid (fun (W : World) => implSplitLater_any s n W hs)
  rw [← hy] at HS HI
  have HN := Lib.hid hn; have HT := Lib.hid ht0; have HLEN := Lib.hid hlen
  clear hy hn ht0 hlen
  go_enter Try.func11, Try.ntmps11
  go_wp2_with fail
  refine (HS.out w).mono ?_
  rintro e w1 ⟨v0, rfl, h2, h3⟩
  rw [← HN.out] at h2
  have A1 := Lib.hid h2; have B1 := Lib.hid h3; clear h2 h3
  go_wp2_with fail
  refine (HI.out w1).mono ?_
  rintro e w2 ⟨v1, rfl, h2, h3⟩
  rw [← HN.out] at h2
  have A2 := Lib.hid h2; have B2 := Lib.hid h3; clear h2 h3
  go_wp2_with fail
  refine (eqStringS_same w2 _ _ v1 v0 ns A2.out (own_below A1.out B2.out)).mono ?_
  rintro e w3 ⟨rfl, h3⟩
  have B3 := Lib.hid h3; clear h3
  go_wp2_with fail
  refine (markStringS_any w3 _ 1 v1 ns (own_below A2.out B3.out) (Nat.le_trans B2.out.size B3.out.size) (by have := HLEN.out; omega)).mono ?_
  rintro e w4 ⟨rfl, h4, h5⟩
  rw [← HT.out]
  have A4 := Lib.hid h4; have B4 := Lib.hid h5; clear h4 h5
  go_wp2_with fail
  refine (heldStringS_any w4 _ 1 ns.length v1 A4.out (by have := HLEN.out; omega)).mono ?_
  rintro e w5 ⟨rfl, h5⟩
  rw [← HT.out]
  have B5 := Lib.hid h5; clear h5
  go_wp2_with fail
  refine (HI.out w5).mono ?_
  rintro e w6 ⟨v6, rfl, h2, h3⟩
  rw [← HN.out] at h2
  have A6 := Lib.hid h2; have B6 := Lib.hid h3; clear h2 h3
  go_wp2_with fail
  have C6 := Lib.hid (below_trans (below_trans ((below_trans B2.out B3.out).trans B4.out) B5.out) B6.out)
  have A1' : Hid (Strs w6 w.heap.size v0 ns) := own_below A1.out C6.out
  refine (eqStringS_same w6 _ _ v6 v0 ns A6.out A1'.out).mono ?_
  rintro e w7 ⟨rfl, h7⟩
  have B7 := Lib.hid h7; clear h7
  go_wp2_with fail
  refine (heldStringS_any w7 _ 1 ns.length v1 (own_below A4.out (below_trans B5.out (below_trans B6.out B7.out))) (by have := HLEN.out; omega)).mono ?_
  rintro e w8 ⟨rfl, h8⟩
  rw [← HT.out]
  have B8 := Lib.hid h8; clear h8
  go_wp2_with fail
  go_ret
  exact ⟨rfl, below_trans B1.out (below_trans C6.out (below_trans B7.out B8.out))⟩

end Go.Proofs.Ytgmknehioadjhaa
