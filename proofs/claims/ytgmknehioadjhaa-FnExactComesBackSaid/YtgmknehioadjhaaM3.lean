/- The model's later. -/
import Derived.Test.YtgmknehioadjhaaM2
import Derived.Test.YtgmknehioadjhaaN3
namespace Go.Proofs.Ytgmknehioadjhaa
open Go.RowKit Go.BigFrame
set_option linter.unusedSimpArgs false
set_option linter.unusedVariables false
set_option maxRecDepth 4000

theorem below_grownG {W W' : World} {n : Nat} {ob : Option Nat} (hn : n ≤ W.heap.size) (hg : W.grownBy W' ob) (h : ∀ g, ob = some g → n ≤ g) : Below n W W' :=
  ⟨hg.os, hg.tape, hg.output, hg.size, fun g hg' => hg.block g (by omega) (fun e => by have := h g e.symm; omega)⟩

set_option maxHeartbeats 4000000 in
theorem later_any (W : World) (n₀ tp nd : Nat) (xb : List Nat) (v0 v1 v2 : Value) (P ns : List (List UInt8)) (t : Nat) (ht : t ≤ 80) (hT : TabM W n₀ tp ns nd xb v0 v1 v2) (hR : RichM W n₀ P ns nd xb v1) (hn : ns.length ≤ 200) (h0 : ns ≠ []) (hP0 : P ≠ []) (hPl : P.length ≤ 1000) (hok : NmOk ns) :
    Calls Try.prog 40 #[.pointer (some ⟨tp, 0, none⟩), .int .i64 (t : Nat)] W fun e w' => ∃ v, e = .returned v ∧ Ints w' W.heap.size v (cntsL P ns t) ∧ Below W.heap.size W w' := by
  obtain ⟨i0, hi, hz0, hz1, hz2⟩ := info_parts info_int5
  obtain ⟨hrows, rfl, hxb, hmem⟩ := hR
  have hbeg : xb = begN P ns := hxb
  have hlt := beg_lt hmem
  rw [← hbeg] at hlt
  obtain ⟨n, hnn⟩ : ∃ n, n = ns.length := ⟨_, rfl⟩
  obtain ⟨am, cm, rfl⟩ := own_slice hT.names
  have hxne : natsI xb ≠ [] := by
    intro e
    have := congrArg List.length e
    rw [natsI_len, hbeg] at this
    unfold begN at this
    simp at this
    exact hP0 this
  obtain ⟨gb, cb, rfl, hgB, hgb⟩ := ints_posI hT.begin_ hxne
  have hbc : ∀ k (hk : k < xb.length), W.cell? ⟨gb, k, none⟩ = some (.int .i64 (xb[k] : Nat)) := fun k hk => by
    have := (ints_at hT.begin_ (j := k) (by rw [natsI_len]; exact hk)).1
    rw [this]
    simp [natsI, List.getD, List.getElem?_eq_getElem hk]
  obtain ⟨M, hM⟩ : ∃ M, M = xb.length := ⟨_, rfl⟩
  have hM9 : M ≤ 1000 := by rw [hM, hbeg]; unfold begN; simpa using hPl
  have x0 := hT.cell0
  have x1 := hT.cell1
  have x2 := hT.cell2
  have htp := hT.lt
  rw [← hnn] at x0 hn hlt
  rw [natsI_len, ← hM] at x2
  have hn0 : 0 < n := by rw [hnn]; exact Nat.pos_of_ne_zero (fun e => h0 (List.eq_nil_of_length_eq_zero e))
  have hrw : ∀ k, k < n → ∃ gD cD gr cr, v1 = .slice (some ⟨gD, 0, none⟩) n cD ∧ gD < W.heap.size ∧ W.cell? ⟨gD, k, none⟩ = some (.slice (some ⟨gr, 0, none⟩) (rowN ns k).length cr) ∧ gr < W.heap.size ∧
      (∀ i (hi : i < (rowN ns k).length), W.cell? ⟨gr, i, none⟩ = some (.int .i64 ((rowN ns k)[i] : Nat)) ∧ (rowN ns k)[i] < n) ∧ n₀ ≤ gD ∧ n₀ ≤ gr := fun k hk => by
    have := RowsX.rowM hrows (k := k) (by rw [← hnn]; exact hk)
    rw [← hnn] at this
    exact this
  have hrl : ∀ k, k < n → (rowN ns k).length ≤ 121 := fun k hk => by
    have hk2 : k < ns.length := by rw [← hnn]; exact hk
    rw [rowN_get (List.getElem?_eq_getElem hk2), linkL_len]
    obtain ⟨h1, h2⟩ := hok _ (List.getElem_mem hk2)
    exact (sd_ok h1 h2).2.1
  have HRL := Lib.hid hrl
  have HRW := Lib.hid hrw; have HBC := Lib.hid hbc; have HLT := Lib.hid hlt; have HM := Lib.hid hM; have HNN := Lib.hid hnn; have HBEG := Lib.hid hbeg
  have HC0 : Hid (addRow (List.replicate n 0) xb 1 = cnt0 n (begN P ns)) := Lib.hid (by rw [hbeg]; rfl)
  clear hrw hbc hlt hM hrows hxb hbeg hmem hT hxne h0 hP0 hPl hrl hnn hok
  go_enter Try.func40, Try.ntmps40
  go_wp2_with (refine wpList_make_full _ rfl _ _ 30 rfl W.heap.size 3 i0 (.int .i64 0) 1 Try.underlying30 hi hz0 hz1 .i64 .i64 (n : Int) (n : Int) n rfl rfl rfl rfl (by rw [hz2]; omega) (by unfold maxLen; omega) (Nat.le_refl _) ?_; intro w1 hrow hgr; have hb1 := below_grownG (Nat.le_refl _) hgr (fun g e => by cases e); have y2 := (hb1.cell (p := ⟨tp, 2, none⟩) htp).trans x2; have HB1 := Lib.hid hb1; have HR1 := Lib.hid (ints_made hrow); clear hrow hgr hb1)
  go_loopw [24] (fun kv wr => ∃ k : Nat, k ≤ M ∧ kv = .int .i64 k ∧ Hid (Ints wr W.heap.size (.slice (some ⟨W.heap.size, 0, none⟩) n n) (addRow (List.replicate n 0) (xb.take k) 1) ∧ Below W.heap.size W wr)) (fun kv _ => M - (intOf kv).toNat)
  case atStart => exact ⟨0, by omega, rfl, Lib.hid ⟨HR1.out, HB1.out⟩⟩
  case round =>
    obtain ⟨k, hk, rfl, HX⟩ := hrel
    obtain ⟨hc, hb⟩ := HX.out
    by_cases hkm : k < M
    · have hkx : k < xb.length := by rw [← HM.out]; exact hkm
      have hq := HLT.out _ (List.getElem_mem hkx)
      have yk := (hb.cell (p := ⟨gb, k, none⟩) hgb).trans (HBC.out k hkx)
      have HAT : Hid (addRow (List.replicate n 0) (xb.take (k + 1)) 1 = bumpL (addRow (List.replicate n 0) (xb.take k) 1) xb[k] 1) := Lib.hid (addRow_take _ _ _ hkx)
      obtain ⟨q, hqe⟩ : ∃ q, q = xb[k] := ⟨_, rfl⟩
      rw [← hqe] at hq yk HAT
      obtain ⟨c, hce⟩ : ∃ c, c = addRow (List.replicate n 0) (xb.take k) 1 := ⟨_, rfl⟩
      rw [← hce] at hc HAT
      obtain ⟨yq, fq⟩ := ints_at hc hq
      obtain ⟨cv, hcv⟩ : ∃ cv, cv = c.getD q 0 := ⟨_, rfl⟩
      rw [← hcv] at yq
      have HC := Lib.hid hc; have HB := Lib.hid hb; have HCV := Lib.hid hcv
      clear HX hc hb hqe hce hcv hkx
      go_wp2_with fail
      go_roundw
      case rel =>
        refine ⟨k + 1, by omega, by go_num, Lib.hid ⟨?_, HB.out.setCell (Nat.le_refl _) _⟩⟩
        rw [HAT.out]
        unfold bumpL
        rw [← HCV.out]
        exact ints_put HC.out _ _
      case measure => simp [intOf] <;> omega
    · obtain rfl : k = M := by omega
      rw [show xb.take k = xb from List.take_of_length_le (by rw [← HM.out]; exact Nat.le_refl _), HC0.out] at hc
      have hcl : (cnt0 n (begN P ns)).length = n := cnt0_len _ _
      obtain ⟨c0, hc0⟩ : ∃ c0, c0 = cnt0 n (begN P ns) := ⟨_, rfl⟩
      rw [← hc0] at hc hcl
      have HC := Lib.hid hc; have HB := Lib.hid hb; have HC0E := Lib.hid hc0; have HCL := Lib.hid hcl
      have hsz := hb.size
      clear HX hc hb hc0 hcl
      go_wp2_with fail
      go_loopw [1, 5] (fun tv cv wr => ∃ r g : Nat, r ≤ t ∧ tv = .int .i64 r ∧ cv = .slice (some ⟨g, 0, none⟩) n n ∧ Hid (Ints wr W.heap.size (.slice (some ⟨g, 0, none⟩) n n) (laterC (rowN ns) c0 (t - r)) ∧ Below W.heap.size W wr)) (fun tv _ _ => (intOf tv).toNat)
      case atStart => exact ⟨t, W.heap.size, Nat.le_refl _, rfl, rfl, Lib.hid ⟨by rw [Nat.sub_self]; exact HC.out, HB.out⟩⟩
      case round =>
        obtain ⟨wm, hwm⟩ : ∃ wm, wm = wr := ⟨_, rfl⟩
        subst hwm
        obtain ⟨r, g, hr, rfl, rfl, HX⟩ := hrel
        obtain ⟨hc, hb⟩ := HX.out
        by_cases hr0 : 0 < r
        · have HST : Hid (laterC (rowN ns) c0 (t - (r - 1)) = stepC (rowN ns) (laterC (rowN ns) c0 (t - r))) := Lib.hid (by rw [show t - (r - 1) = (t - r) + 1 by omega]; rfl)
          have hcl : (laterC (rowN ns) c0 (t - r)).length = n := by rw [laterC_len, HCL.out]
          obtain ⟨c, hce⟩ : ∃ c, c = laterC (rowN ns) c0 (t - r) := ⟨_, rfl⟩
          rw [← hce] at hc HST hcl
          have hgl := (ints_len hc).2.1
          have hszr := hb.size
          have HC := Lib.hid hc; have HB := Lib.hid hb; have HCLC := Lib.hid hcl
          clear HX hc hb hce hcl
          go_wp2_with (refine wpList_make_full _ rfl _ _ 30 rfl wm.heap.size 3 i0 (.int .i64 0) 1 Try.underlying30 hi hz0 hz1 .i64 .i64 (n : Int) (n : Int) n rfl rfl rfl rfl (by rw [hz2]; omega) (by unfold maxLen; omega) (Nat.le_refl _) ?_; intro w2 hrow hgr; have HB2 := Lib.hid (below_grownG (Nat.le_refl _) hgr (fun g e => by cases e)); have HR2 := Lib.hid (ints_made hrow); clear hrow hgr)
          go_loopw [44] (fun kv wq => ∃ k : Nat, k ≤ n ∧ kv = .int .i64 k ∧ Hid (Ints wq wm.heap.size (.slice (some ⟨wm.heap.size, 0, none⟩) n n) (accK (rowN ns) c k) ∧ Below wm.heap.size wm wq)) (fun kv _ => n - (intOf kv).toNat)
          case atStart => exact ⟨0, by omega, rfl, Lib.hid ⟨by unfold accK; rw [HCLC.out]; exact HR2.out, HB2.out⟩⟩
          case round =>
            obtain ⟨wq, hwq⟩ : ∃ wq, wq = wr := ⟨_, rfl⟩
            subst hwq
            obtain ⟨k, hk, rfl, HX⟩ := hrel
            obtain ⟨ha, hbq⟩ := HX.out
            by_cases hkn : k < n
            · have hbW : Below W.heap.size W wq := HB.out.trans (hbq.mono HB.out.size)
              obtain ⟨gD, cD, gr, cr, hv1, hgD, hcD, hgr, hrc, _, _⟩ := HRW.out k hkn
              subst hv1
              have y1 := (hbW.cell (p := ⟨tp, 1, none⟩) htp).trans x1
              have yD := (hbW.cell (p := ⟨gD, k, none⟩) hgD).trans hcD
              obtain ⟨yc, _⟩ := ints_at HC.out hkn
              have yc2 := (hbq.cell (p := ⟨g, k, none⟩) hgl).trans yc
              have HAK : Hid (accK (rowN ns) c (k + 1) = addRow (accK (rowN ns) c k) (rowN ns k) (c.getD k 0)) := Lib.hid rfl
              obtain ⟨x, hx⟩ : ∃ x, x = c.getD k 0 := ⟨_, rfl⟩
              rw [← hx] at yc2 HAK
              obtain ⟨row, hrowe⟩ : ∃ row, row = rowN ns k := ⟨_, rfl⟩
              have hL9 := HRL.out k hkn
              rw [← hrowe] at yD hrc HAK hL9
              obtain ⟨L, hL⟩ : ∃ L, L = row.length := ⟨_, rfl⟩
              rw [← hL] at yD hL9
              have HRC := Lib.hid hrc; have HL := Lib.hid hL; have HA := Lib.hid ha; have HBQ := Lib.hid hbq; have HBW := Lib.hid hbW
              clear HX ha hbq hbW hcD hrc yc hx hrowe hL
              go_wp2_with fail
              go_loopw [57] (fun jv wz => ∃ j : Nat, j ≤ L ∧ jv = .int .i64 j ∧ Hid (Ints wz wm.heap.size (.slice (some ⟨wm.heap.size, 0, none⟩) n n) (addRow (accK (rowN ns) c k) (row.take j) x) ∧ Below wm.heap.size wm wz)) (fun jv _ => L - (intOf jv).toNat)
              case atStart => exact ⟨0, by omega, rfl, Lib.hid ⟨HA.out, HBQ.out⟩⟩
              case round =>
                obtain ⟨j, hj, rfl, HX⟩ := hrel
                obtain ⟨ha, hbz⟩ := HX.out
                by_cases hjl : j < L
                · have hjr : j < row.length := by rw [← HL.out]; exact hjl
                  obtain ⟨hcj, hqn⟩ := HRC.out j hjr
                  have yj := ((HB.out.trans (hbz.mono HB.out.size)).cell (p := ⟨gr, j, none⟩) hgr).trans hcj
                  have HAT : Hid (addRow (accK (rowN ns) c k) (row.take (j + 1)) x = bumpL (addRow (accK (rowN ns) c k) (row.take j) x) row[j] x) := Lib.hid (addRow_take _ _ _ hjr)
                  obtain ⟨q, hqe⟩ : ∃ q, q = row[j] := ⟨_, rfl⟩
                  rw [← hqe] at hqn yj HAT
                  obtain ⟨d, hde⟩ : ∃ d, d = addRow (accK (rowN ns) c k) (row.take j) x := ⟨_, rfl⟩
                  rw [← hde] at ha HAT
                  obtain ⟨yq, fq⟩ := ints_at ha hqn
                  obtain ⟨dv, hdv⟩ : ∃ dv, dv = d.getD q 0 := ⟨_, rfl⟩
                  rw [← hdv] at yq
                  have HA2 := Lib.hid ha; have HBZ := Lib.hid hbz; have HDV := Lib.hid hdv
                  clear HX ha hbz hcj hqe hde hdv hjr
                  go_wp2_with fail
                  go_roundw
                  case rel =>
                    refine ⟨j + 1, by omega, by go_num, Lib.hid ⟨?_, HBZ.out.setCell (Nat.le_refl _) _⟩⟩
                    rw [HAT.out]
                    unfold bumpL
                    rw [← HDV.out]
                    exact ints_put HA2.out _ _
                  case measure => simp [intOf] <;> omega
                · obtain rfl : j = L := by omega
                  rw [show row.take j = row from List.take_of_length_le (by rw [← HL.out]; exact Nat.le_refl _), ← HAK.out] at ha
                  have HA2 := Lib.hid ha; have HBZ := Lib.hid hbz
                  clear HX ha hbz
                  go_wp2_with fail
                  go_roundw
                  case rel => exact ⟨k + 1, by omega, by go_num, Lib.hid ⟨HA2.out, HBZ.out⟩⟩
                  case measure => simp [intOf] <;> omega
            · obtain rfl : k = n := by omega
              have hst : accK (rowN ns) c k = laterC (rowN ns) c0 (t - (r - 1)) := by rw [HST.out]; unfold stepC; rw [HCLC.out]
              rw [hst] at ha
              have HA := Lib.hid ha; have HBQ := Lib.hid hbq
              have hszq := hbq.size
              clear HX ha hbq hst
              go_wp2_with fail
              go_roundw
              case rel => exact ⟨r - 1, wm.heap.size, by omega, by go_num, rfl, Lib.hid ⟨own_mono HA.out HB.out.size, HB.out.trans (HBQ.out.mono HB.out.size)⟩⟩
              case measure => simp [intOf] <;> omega
        · obtain rfl : r = 0 := by omega
          rw [Nat.sub_zero] at hc
          have HV : Hid (laterC (rowN ns) c0 t = cntsL P ns t) := Lib.hid (by rw [HC0E.out]; unfold cntsL; rw [HNN.out])
          have HC := Lib.hid hc; have HB := Lib.hid hb
          clear HX hc hb
          go_wp2_with fail
          go_ret
          exact ⟨_, rfl, by rw [← HV.out]; exact HC.out, HB.out⟩
end Go.Proofs.Ytgmknehioadjhaa
