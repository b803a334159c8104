/- The model's SplitLater. -/
import Derived.Test.YtgmknehioadjhaaMS
import Derived.Test.YtgmknehioadjhaaM8
namespace Go.Proofs.Ytgmknehioadjhaa
open Go.RowKit Go.BigFrame
set_option linter.unusedSimpArgs false
set_option linter.unusedVariables false
set_option maxRecDepth 4000

theorem outN_snoc {ns : List (List UInt8)} {l : List Nat} {k : Nat} (hk : k < l.length) : outN ns (l.take (k + 1)) = outN ns (l.take k) ++ [ns.getD (l.getD k 0) []] := by
  unfold outN
  rw [List.take_succ_eq_append_getElem hk, List.map_append]
  simp [List.getD, List.getElem?_eq_getElem hk]
theorem getD_lt {n : Nat} {l : List Nat} (h : AllLt n l) {k : Nat} (hk : k < l.length) : l.getD k 0 < n := by
  have : l.getD k 0 = l[k] := by simp [List.getD, List.getElem?_eq_getElem hk]
  rw [this]; exact h _ (List.getElem_mem hk)

set_option maxHeartbeats 8000000 in
theorem specSplitLater_q (s : ByteArray) (n : Int) (w : World) (hs : s.size ≤ maxLen) :
    Calls Try.prog 34 #[.string s, .int .i64 n] w fun e w' => StrsQ (slQ s.data.toList n) w w' e := by
  obtain ⟨i0, hi, hz0, hz1, hz2⟩ := info_parts info_int5
  obtain ⟨s0, si, sz0, sz1, sz2⟩ := info_parts info_str6
  have HA := Lib.hid (fun (W : World) => elAsked_any s W hs)
  obtain ⟨l, hl⟩ : ∃ l, l = s.data.toList := ⟨_, rfl⟩
  rw [← hl] at HA ⊢
  clear hl
  cases hR : tabQ l with
  | none =>
    rw [hR] at HA
    rw [slQ_none hR]
    clear hR
    go_enter Try.func34, Try.ntmps34
    go_wp2_with fail
    refine (HA.out w).mono ?_
    rintro e w1 hpost
    have HB1 := Lib.hid hpost.2.2
    obtain rfl := hpost.1 rfl
    clear hpost HA
    go_wp2_with fail
    go_ret2
    exact ⟨_, rfl, World.ownsRow_nil _ _ _ _, HB1.out⟩
  | some ns =>
    rw [hR] at HA
    cases hN : inS n with
    | false =>
      have HE := Lib.hid (fun W => l1In_is false n 0 12 W hN)
      rw [slQ_out hN]
      clear hR hN
      go_enter Try.func34, Try.ntmps34
      go_wp2_with fail
      refine (HA.out w).mono ?_
      rintro e w1 hpost
      have HB1 := Lib.hid hpost.2.2
      obtain ⟨tp, nd, xb, v0, v1, v2, rfl, _, _⟩ := hpost.2.1 ns rfl
      clear hpost HA
      go_wp2_with fail
      refine (HE.out _).mono ?_
      rintro e w2 ⟨rfl, rfl⟩
      go_wp2_with fail
      go_ret2
      exact ⟨_, rfl, World.ownsRow_nil _ _ _ _, HB1.out⟩
    | true =>
      have HE := Lib.hid (fun W => l1In_is true n 0 12 W hN)
      have h0 := tabQ_ok hR
      have h1 := tabQ_le hR
      have h2 := tabQ_parts hR
      rw [slQ_some hR hN]
      obtain ⟨t, rfl⟩ : ∃ t : Nat, n = t := ⟨n.toNat, by unfold inS at hN; simp at hN; omega⟩
      have ht9 : t ≤ 12 := by unfold inS at hN; simp at hN; omega
      rw [Int.toNat_natCast]
      obtain ⟨P, hP⟩ : ∃ P, P = partsL l := ⟨_, rfl⟩
      rw [← hP] at h2 HA ⊢
      obtain ⟨RES, hRES⟩ : ∃ RES, RES = splF (rowN ns) t (begN P ns) := ⟨_, rfl⟩
      rw [← hRES]
      obtain ⟨n, hnn⟩ : ∃ n, n = ns.length := ⟨_, rfl⟩
      have hn9 : n ≤ 200 := by rw [hnn]; exact h1
      have hbl : (begN P ns).length = P.length := by unfold begN; simp
      obtain ⟨M, hM⟩ : ∃ M, M = P.length := ⟨_, rfl⟩
      have hM9 : M ≤ 61 := by rw [hM]; exact h2.2
      have HRES := Lib.hid hRES; have HNN := Lib.hid hnn; have HM := Lib.hid hM; have H2 := Lib.hid h2; have H0 := Lib.hid h0; have HBL := Lib.hid (hbl.trans hM.symm)
      clear hR hN hRES hnn hM h2 hP h0 h1 hbl
      go_enter Try.func34, Try.ntmps34
      go_wp2_with fail
      refine (HA.out w).mono ?_
      rintro e w1 hpost
      have hB1 := hpost.2.2
      obtain ⟨tp, nd, xb, v0, v1, v2, rfl, hT, hRM⟩ := hpost.2.1 ns rfl
      obtain ⟨hrows, rfl, hxb, hmem⟩ := hRM
      have hxb2 : xb = begN P ns := hxb
      have hbeglt : AllLt n (begN P ns) := by rw [HNN.out]; exact beg_lt hmem
      obtain ⟨gb, cb, rfl, _, hgb⟩ := ints_posI hT.begin_ (by intro e; have := congrArg List.length e; rw [natsI_len, hxb2, HBL.out] at this; simp only [List.length_nil] at this; exact H2.out.1 (List.eq_nil_of_length_eq_zero (by rw [← HM.out]; exact this)))
      have hbc : ∀ j, j < M → w1.cell? ⟨gb, j, none⟩ = some (.int .i64 ((begN P ns).getD j 0 : Nat)) := fun j hj => by
        have hjl : j < (begN P ns).length := by rw [HBL.out]; exact hj
        have := (ints_at hT.begin_ (j := j) (by rw [natsI_len, hxb2]; exact hjl)).1
        rw [this, hxb2]
        simp [natsI, List.getD, List.getElem?_eq_getElem hjl]
      obtain ⟨gE, cE, rfl, _, hgE, _⟩ := strs_pos hT.names H0.out.2
      have hnm := hT.names
      have x0 := hT.cell0
      have x1 := hT.cell1
      have x2 := hT.cell2
      have htp := hT.lt
      rw [← HNN.out] at x0 hnm
      rw [natsI_len, hxb2, HBL.out] at x2
      have hrw : ∀ k, k < n → ∃ gD cD gr cr, v1 = .slice (some ⟨gD, 0, none⟩) n cD ∧ gD < w1.heap.size ∧ w1.cell? ⟨gD, k, none⟩ = some (.slice (some ⟨gr, 0, none⟩) (rowN ns k).length cr) ∧ gr < w1.heap.size ∧
          (∀ i (hi : i < (rowN ns k).length), w1.cell? ⟨gr, i, none⟩ = some (.int .i64 ((rowN ns k)[i] : Nat)) ∧ (rowN ns k)[i] < n) ∧ w.heap.size ≤ gD ∧ w.heap.size ≤ gr := fun k hk => by
        have := RowsX.rowM hrows (k := k) (by rw [← HNN.out]; exact hk)
        rw [← HNN.out] at this
        exact this
      have hrlt : ∀ k, k < n → AllLt n (rowN ns k) := fun k hk => by rw [HNN.out]; exact rowN_lt hrows (by rw [← HNN.out]; exact hk)
      have hrl : ∀ k, k < n → (rowN ns k).length ≤ 121 := fun k hk => by
        have hk2 : k < ns.length := by rw [← HNN.out]; exact hk
        rw [rowN_get (List.getElem?_eq_getElem hk2), linkL_len]
        obtain ⟨q1, q2⟩ := H0.out.1 _ (List.getElem_mem hk2)
        exact (sd_ok q1 q2).2.1
      have HB1 := Lib.hid hB1; have HBC := Lib.hid hbc; have HRW := Lib.hid hrw; have HRLT := Lib.hid hrlt; have HRL := Lib.hid hrl; have HNM := Lib.hid hnm; have HBEGLT := Lib.hid hbeglt
      have HOWN := Lib.hid (l1OwnM_any w1 gb M cb (begN P ns) HBL.out.symm (by omega) hbc)
      clear hpost hB1 HA hT hrows hxb hxb2 hmem hbc hrw hrlt hrl hnm hbeglt
      go_wp2_with fail
      refine (HE.out _).mono ?_
      rintro e w2 ⟨rfl, rfl⟩
      go_wp2_with fail
      refine HOWN.out.mono ?_
      rintro e w3 ⟨v, rfl, hv, hb3⟩
      obtain ⟨rv, cv, rfl⟩ := own_slice hv
      have HV := Lib.hid hv; have HB3 := Lib.hid hb3
      clear hv hb3 HOWN
      go_wp2_with fail
      go_loopw [1, 8] (fun tv nv wr => ∃ (r : Nat) (lst : List Nat), r ≤ t ∧ tv = .int .i64 r ∧ (∃ ra rc, nv = .slice ra lst.length rc) ∧ Hid (splF (rowN ns) r lst = RES ∧ lst.length ≤ 400 ∧ AllLt n lst ∧ NR wr w1.heap.size nv lst.length lst ∧ Below w1.heap.size w1 wr)) (fun tv _ _ => (intOf tv).toNat)
      case atStart => exact ⟨t, begN P ns, Nat.le_refl _, rfl, ⟨rv, cv, by rw [HBL.out]⟩, Lib.hid ⟨HRES.out.symm, by rw [HBL.out]; omega, HBEGLT.out, by rw [HBL.out]; exact HV.out, HB3.out⟩⟩
      case round =>
        obtain ⟨wm, hwm⟩ : ∃ wm, wm = wr := ⟨_, rfl⟩
        subst hwm
        obtain ⟨r, lst, hr, rfl, ⟨ra, rc, rfl⟩, HX⟩ := hrel
        obtain ⟨hsp, hl4, hall, hnr, hb⟩ := HX.out
        obtain ⟨T, hT⟩ : ∃ T, T = lst.length := ⟨_, rfl⟩
        rw [← hT] at hl4 hnr ⊢
        have hszm := hb.size
        by_cases hr0 : 0 < r
        · have hone : ¬ 400 < (flatS (rowN ns) lst).length → splF (rowN ns) (r - 1) (flatS (rowN ns) lst) = RES := fun h => by
            rw [← hsp]
            obtain ⟨q, rfl⟩ : ∃ q, r = q + 1 := ⟨r - 1, by omega⟩
            rw [splF, if_neg h]; rfl
          have hbig : 400 < (flatS (rowN ns) lst).length → RES = none := fun h => by
            rw [← hsp]
            obtain ⟨q, rfl⟩ : ∃ q, r = q + 1 := ⟨r - 1, by omega⟩
            rw [splF, if_pos h]
          have HONE := Lib.hid hone; have HBIG := Lib.hid hbig; have HALL := Lib.hid hall; have HNR := Lib.hid hnr; have HB := Lib.hid hb; have HT := Lib.hid hT
          clear HX hsp hall hnr hb hone hbig hT
          go_wp2_with fail
          go_loopw [9, 38] (fun xv kv wz => ∃ k : Nat, k ≤ T ∧ kv = .int .i64 k ∧ (∃ rb cb, xv = .slice rb (flatS (rowN ns) (lst.take k)).length cb) ∧ Hid ((flatS (rowN ns) (lst.take k)).length ≤ 400 ∧ NR wz wm.heap.size xv (flatS (rowN ns) (lst.take k)).length (flatS (rowN ns) (lst.take k)) ∧ Below wm.heap.size wm wz)) (fun _ kv _ => T - (intOf kv).toNat)
          case atStart => exact ⟨0, by omega, rfl, ⟨none, 0, rfl⟩, Lib.hid ⟨by simp [flatS], World.ownsRow_nil _ _ _ _, Below.refl _ _⟩⟩
          case round =>
            obtain ⟨k, hk, rfl, ⟨rb, cb2, rfl⟩, HX⟩ := hrel
            obtain ⟨ha4, hnx, hbz⟩ := HX.out
            by_cases hkT : k < T
            · have hkl : k < lst.length := by rw [← HT.out]; exact hkT
              obtain ⟨gn, cn, hen, ynk, hgn, _⟩ := HNR.out.at_ HT.out hkT
              cases hen
              have hxn := getD_lt HALL.out hkl
              have hft := flatS_take (rowN ns) hkl
              have hfle := flatS_le (rowN ns) lst (k + 1)
              rw [show lst[k] = lst.getD k 0 by simp [List.getD, List.getElem?_eq_getElem hkl]] at hft
              have yk := (hbz.cell (p := ⟨gn, k, none⟩) hgn).trans ynk
              obtain ⟨x, hx⟩ : ∃ x, x = lst.getD k 0 := ⟨_, rfl⟩
              rw [← hx] at yk hxn hft
              have hbW : Below w1.heap.size w1 wr := HB.out.trans (hbz.mono hszm)
              obtain ⟨gD, cD, gr, cr, hv1, hgD, hcD, hgr, hrc, _, _⟩ := HRW.out x hxn
              subst hv1
              have y1 := (hbW.cell (p := ⟨tp, 1, none⟩) htp).trans x1
              have yD := (hbW.cell (p := ⟨gD, x, none⟩) hgD).trans hcD
              have hL9 := HRL.out x hxn
              obtain ⟨row, hrow⟩ : ∃ row, row = rowN ns x := ⟨_, rfl⟩
              rw [← hrow] at yD hrc hft hL9
              have hrc2 : ∀ i (hi : i < row.length), wr.cell? ⟨gr, i, none⟩ = some (.int .i64 (row[i] : Nat)) := fun i hi => (hbW.cell (p := ⟨gr, i, none⟩) hgr).trans (hrc i hi).1
              obtain ⟨L, hL⟩ : ∃ L, L = row.length := ⟨_, rfl⟩
              rw [← hL] at yD hL9
              obtain ⟨acc, hacc⟩ : ∃ acc, acc = flatS (rowN ns) (lst.take k) := ⟨_, rfl⟩
              rw [← hacc] at ha4 hnx hft ⊢
              obtain ⟨A, hA⟩ : ∃ A, A = acc.length := ⟨_, rfl⟩
              rw [← hA] at ha4 hnx ⊢
              have hszz := hbz.size
              have HNX := Lib.hid hnx; have HBZ := Lib.hid hbz; have HFT := Lib.hid hft; have HFLE := Lib.hid hfle; have HRC2 := Lib.hid hrc2; have HL := Lib.hid hL; have HA := Lib.hid hA
              clear HX hnx hbz hft hfle hrc hrc2 hL hA hacc hrow hx ynk hbW hcD hkl
              go_wp2_with (at_builtin; refine wpList_app _ rfl _ _ 30 rfl wm.heap.size 3 i0 (.int .i64 0) 8 Try.underlying30 hi hz0 hz1 hz2 rfl _ A _ rfl HNX.out ⟨gr, 0, none⟩ L cr ((natsI row).map (.int .i64)) rfl (by rw [HL.out]; simp [natsI]) ?c1 ?c2 ?c3 ?c4 ?c5 ?_)
              case c1 =>
                intro i u hi'
                obtain ⟨hil, e⟩ := List.getElem?_eq_some_iff.1 hi'
                have hil' : i < row.length := by simpa [natsI] using hil
                have e2 : (⟨gr, 0, none⟩ : Addr).add i = ⟨gr, i, none⟩ := by
                  cases i with
                  | zero => rfl
                  | succ i => simp [Addr.add]
                rw [e2, HRC2.out i hil', ← e]
                simp [natsI]
              case c2 => intro u hu; obtain ⟨y, _, rfl⟩ := List.mem_map.1 hu; rfl
              case c3 => unfold maxLen; omega
              case c4 => omega
              case c5 => exact hszz
              intro v' w5 hown' hgrow hwh
              have hnr5 := NR.app hown'
              have hb5 : Below wm.heap.size wm w5 := HBZ.out.trans (below_grownG hszz hgrow (fun g e => (HNX.out.lt g e).1))
              obtain ⟨a3, c3, rfl⟩ := own_slice hown'
              have hlen5 : (flatS (rowN ns) (lst.take (k + 1))).length = A + L := by rw [HFT.out, List.length_append, HA.out, HL.out]
              have HNR5 := Lib.hid hnr5; have HB5 := Lib.hid hb5; have HLEN5 := Lib.hid hlen5
              clear hown' hgrow hwh hnr5 hb5 hlen5
              by_cases hbg : 400 < A + L
              · have HRN := Lib.hid (HBIG.out (by have := HFLE.out; rw [HLEN5.out] at this; omega))
                go_wp2_with fail
                go_ret2
                rw [HRN.out]
                exact ⟨_, rfl, World.ownsRow_nil _ _ _ _, (HB1.out.trans (HB.out.mono HB1.out.size)).trans (HB5.out.mono (by have := HB1.out.size; omega))⟩
              · go_wp2_with fail
                go_roundw
                case rel => exact ⟨k + 1, by omega, by go_num, ⟨a3, c3, by rw [HLEN5.out]⟩, Lib.hid ⟨by rw [HLEN5.out]; omega, by rw [HLEN5.out, HFT.out]; exact HNR5.out, HB5.out⟩⟩
                case measure => simp [intOf] <;> omega
            · obtain rfl : k = T := by omega
              have hfull : lst.take k = lst := List.take_of_length_le (by rw [← HT.out]; exact Nat.le_refl _)
              rw [hfull] at ha4 hnx ⊢
              have hcont := HONE.out (by omega)
              have hlt2 := flat_lt HRLT.out HALL.out
              obtain ⟨lst2, hl2⟩ : ∃ lst2, lst2 = flatS (rowN ns) lst := ⟨_, rfl⟩
              rw [← hl2] at ha4 hnx hcont hlt2 ⊢
              have HNX := Lib.hid hnx; have HBZ := Lib.hid hbz; have HCONT := Lib.hid hcont; have HLT2 := Lib.hid hlt2
              clear HX hnx hbz hcont hlt2 hfull hl2
              go_wp2_with fail
              go_roundw
              case rel => exact ⟨r - 1, lst2, by omega, by go_num, ⟨_, _, rfl⟩, Lib.hid ⟨HCONT.out, ha4, HLT2.out, own_mono HNX.out hszm, HB.out.trans (HBZ.out.mono hszm)⟩⟩
              case measure => simp [intOf] <;> omega
        · have hre : RES = some lst := by rw [← hsp, show r = 0 by omega]; rfl
          have HRE := Lib.hid hre; have HALL := Lib.hid hall; have HNR := Lib.hid hnr; have HB := Lib.hid hb; have HT := Lib.hid hT
          clear HX hsp hall hnr hb hT hre
          go_wp2_with fail
          go_loopw [12, 61] (fun ov kv wz => ∃ k : Nat, k ≤ T ∧ kv = .int .i64 k ∧ Hid (Strs wz wm.heap.size ov (outN ns (lst.take k)) ∧ Below wm.heap.size wm wz)) (fun _ kv _ => T - (intOf kv).toNat)
          case atStart => exact ⟨0, by omega, rfl, Lib.hid ⟨World.ownsRow_nil _ _ _ _, Below.refl _ _⟩⟩
          case round =>
            obtain ⟨k, hk, rfl, HX⟩ := hrel
            obtain ⟨hrow, hbz⟩ := HX.out
            obtain ⟨ao, co, rfl⟩ := own_slice hrow
            by_cases hkT : k < T
            · have hkl : k < lst.length := by rw [← HT.out]; exact hkT
              obtain ⟨gn, cn, hen, ynk, hgn, _⟩ := HNR.out.at_ HT.out hkT
              cases hen
              have hxn := getD_lt HALL.out hkl
              have hsn := outN_snoc (ns := ns) hkl
              have hol : (outN ns (lst.take k)).length ≤ 400 := by unfold outN; simp; omega
              have yk := (hbz.cell (p := ⟨gn, k, none⟩) hgn).trans ynk
              have hbW : Below w1.heap.size w1 wr := HB.out.trans (hbz.mono hszm)
              have y0 := (hbW.cell (p := ⟨tp, 0, none⟩) htp).trans x0
              obtain ⟨x, hx⟩ : ∃ x, x = lst.getD k 0 := ⟨_, rfl⟩
              rw [← hx] at yk hxn hsn
              have yx := (hbW.cell (p := ⟨gE, x, none⟩) hgE).trans (strs_at HNM.out hxn).1
              obtain ⟨p, hp⟩ : ∃ p, p = ns.getD x [] := ⟨_, rfl⟩
              rw [← hp] at yx hsn
              have hszz := hbz.size
              have HROW := Lib.hid hrow; have HBZ := Lib.hid hbz; have HSN := Lib.hid hsn
              clear HX hrow hbz hsn hx hp ynk hbW hkl
              go_wp2_with (at_builtin; refine wpList_app _ rfl _ _ 22 rfl wm.heap.size 9 s0 (.string ⟨#[]⟩) 16 Try.underlying22 si sz0 sz1 sz2 rfl _ (outN ns (lst.take k)).length _ rfl (HROW.out.alloc _) _ 1 1 [.string (bs p)] rfl rfl ?c1 ?c2 ?c3 ?c4 ?c5 ?_)
              case c1 => intro i u hi'; cases i with | zero => (simp at hi'; subst hi'; simp [Addr.add]; (try exact cell_newN _ _ _ _ (by simp))) | succ i => simp at hi'
              case c2 => intro u hu; simp at hu; subst hu; rfl
              case c3 => unfold maxLen; omega
              case c4 => omega
              case c5 => simp; omega
              intro v' w5 hown' hgrow hwh
              have hb5 : Below wm.heap.size wm w5 := (HBZ.out.alloc hszz _).trans (below_grownG (by simp; omega) hgrow (fun g e => (HROW.out.lt g e).1))
              obtain ⟨a3, c3, rfl⟩ := own_slice hown'
              have HO := Lib.hid hown'; have HB5 := Lib.hid hb5
              clear hown' hgrow hwh hb5
              go_wp2_with fail
              go_roundw
              case rel =>
                refine ⟨k + 1, by omega, by go_num, Lib.hid ⟨?_, HB5.out⟩⟩
                rw [HSN.out]
                have h := HO.out
                unfold Strs
                rw [List.length_append]
                simpa using h
              case measure => simp [intOf] <;> omega
            · obtain rfl : k = T := by omega
              have hfull : lst.take k = lst := List.take_of_length_le (by rw [← HT.out]; exact Nat.le_refl _)
              have HROW := Lib.hid hrow; have HBZ := Lib.hid hbz; have HFULL := Lib.hid hfull
              clear HX hrow hbz hfull
              go_wp2_with fail
              go_ret2
              rw [HRE.out]
              refine ⟨_, rfl, by rw [show ((some lst).map (outN ns)).getD [] = outN ns (lst.take k) by rw [HFULL.out]; rfl]; exact own_mono HROW.out (by have := HB1.out.size; omega), (HB1.out.trans (HB.out.mono HB1.out.size)).trans (HBZ.out.mono (by have := HB1.out.size; omega))⟩
end Go.Proofs.Ytgmknehioadjhaa
