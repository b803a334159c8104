/- The program's decayed. -/
import Derived.Test.YtgmknehioadjhaaM6
import Derived.Test.YtgmknehioadjhaaMT
namespace Go.Proofs.Ytgmknehioadjhaa
open Go.RowKit Go.BigFrame Go.Maps
set_option linter.unusedSimpArgs false
set_option linter.unusedVariables false
set_option maxRecDepth 4000

theorem take_snocN {l : List Nat} {j : Nat} (hj : j < l.length) : l.take (j + 1) = l.take j ++ [l[j]] := List.take_succ_eq_append_getElem hj
set_option maxHeartbeats 8000000 in
theorem decayed_any (W : World) (n₀ fb top n gD0 cD0 T B : Nat) (nv : Value) (ns : List (List UInt8)) (lst : List Nat) (hn : n = ns.length) (hn9 : n ≤ 200) (hok : NmOk ns) (hv : W.cell? ⟨fb, 4, none⟩ = some (.slice (some ⟨gD0, 0, none⟩) n cD0)) (hfb : fb < W.heap.size)
    (hrows : RowsD W n₀ top (.slice (some ⟨gD0, 0, none⟩) n cD0) n ns) (hT : T = lst.length) (hT9 : T ≤ 400) (hall : AllLt n lst) (hc : NR W B nv T lst) :
    Calls Try.prog 54 #[.pointer (some ⟨fb, 0, none⟩), nv] W fun e w' => ∃ v, e = .returned v ∧ NR w' W.heap.size v (flatS (rowN ns) lst).length (flatS (rowN ns) lst) ∧ Below W.heap.size W w' := by
  obtain ⟨i0, hi, hz0, hz1, hz2⟩ := info_parts info_int5
  have hrw : ∀ k, k < n → ∃ gr cr, gD0 < W.heap.size ∧ W.cell? ⟨gD0, k, none⟩ = some (.slice (some ⟨gr, 0, none⟩) (rowN ns k).length cr) ∧ gr < W.heap.size ∧
      (∀ i (hi : i < (rowN ns k).length), W.cell? ⟨gr, i * 2, none⟩ = some (.int .i64 (k : Nat)) ∧ W.cell? ⟨gr, i * 2 + 1, none⟩ = some (.int .i64 ((rowN ns k)[i] : Nat))) ∧ (rowN ns k).length ≤ 121 := fun k hk => by
    obtain ⟨gD, cD, gr, cr, e1, e2, e3, e4, e5, _⟩ := RowsX.rowD hrows hk
    cases e1
    refine ⟨gr, cr, e2, e3, e4, fun i hi => ⟨(e5 i hi).1, (e5 i hi).2.1⟩, ?_⟩
    have hk2 : k < ns.length := by omega
    rw [rowN_get (List.getElem?_eq_getElem hk2), linkL_len]
    obtain ⟨h1, h2⟩ := hok _ (List.getElem_mem hk2)
    exact (sd_ok h1 h2).2.1
  obtain ⟨rn, cn, rfl⟩ := own_slice hc
  have HRW := Lib.hid hrw; have HC := Lib.hid hc; have HT := Lib.hid hT; have HALL := Lib.hid hall
  clear hrw hrows hc hok hn hT hall
  go_enter Try.func54, Try.ntmps54
  go_wp2_with (refine wpList_make_own _ rfl _ _ 30 rfl W.heap.size 3 i0 (.int .i64 0) 1 Try.underlying30 hi hz0 hz1 .i64 .i64 _ (2 * T) rfl rfl (by go_num) (by rw [hz2]; omega) (by unfold maxLen; omega) (Nat.le_refl _) ?_; intro w1 hown hgr; have HO := Lib.hid hown; have HB1 := Lib.hid (below_grown (Nat.le_refl _) hgr (fun g e => by cases e)); clear hown hgr)
  go_loopw [5, 16] (fun xv kv wr => ∃ k : Nat, k ≤ T ∧ kv = .int .i64 k ∧ (∃ rb cb, xv = .slice rb (flatS (rowN ns) (lst.take k)).length cb) ∧ Hid (NR wr W.heap.size xv (flatS (rowN ns) (lst.take k)).length (flatS (rowN ns) (lst.take k)) ∧ Below W.heap.size W wr)) (fun _ kv _ => T - (intOf kv).toNat)
  case atStart => exact ⟨0, by omega, rfl, ⟨_, _, rfl⟩, Lib.hid ⟨HO.out, HB1.out⟩⟩
  case round =>
    obtain ⟨k, hk, rfl, ⟨rb, cb, rfl⟩, HX⟩ := hrel
    obtain ⟨hx, hb⟩ := HX.out
    by_cases hkT : k < T
    · have hkl : k < lst.length := by rw [← HT.out]; exact hkT
      obtain ⟨gn, cn2, hen, ynk, hgn, _⟩ := HC.out.at_ HT.out hkT
      cases hen
      have hxn := getD_lt HALL.out hkl
      have hft := flatS_take (rowN ns) hkl
      rw [show lst[k] = lst.getD k 0 by simp [List.getD, List.getElem?_eq_getElem hkl]] at hft
      have yk := (hb.cell (p := ⟨gn, k, none⟩) hgn).trans ynk
      obtain ⟨x, hxe⟩ : ∃ x, x = lst.getD k 0 := ⟨_, rfl⟩
      rw [← hxe] at yk hxn hft
      obtain ⟨gr, cr, hgD, hcD, hgr, hrc, hL9⟩ := HRW.out x hxn
      have y4 := (hb.cell (p := ⟨fb, 4, none⟩) hfb).trans hv
      have yD := (hb.cell (p := ⟨gD0, x, none⟩) hgD).trans hcD
      obtain ⟨row, hrow⟩ : ∃ row, row = rowN ns x := ⟨_, rfl⟩
      rw [← hrow] at yD hrc hft hL9
      obtain ⟨L, hL⟩ : ∃ L, L = row.length := ⟨_, rfl⟩
      rw [← hL] at yD hL9
      have hacl : (flatS (rowN ns) (lst.take k)).length ≤ 100000 := by
        have h : ∀ (q : List Nat), AllLt n q → (flatS (rowN ns) q).length ≤ 121 * q.length := by
          intro q
          induction q with
          | nil => intro _; simp [flatS]
          | cons a q ih =>
            intro hq
            have h1 := ih (fun y hy => hq y (by simp [hy]))
            obtain ⟨_, _, _, _, _, _, h2⟩ := HRW.out a (hq a (by simp))
            have e : flatS (rowN ns) (a :: q) = rowN ns a ++ flatS (rowN ns) q := by unfold flatS; rw [List.flatMap_cons]
            rw [e, List.length_append, List.length_cons]; omega
        have h2 := h (lst.take k) (fun y hy => HALL.out y (List.mem_of_mem_take hy))
        have h3 : (lst.take k).length ≤ 400 := by simp; omega
        omega
      obtain ⟨acc, hacc⟩ : ∃ acc, acc = flatS (rowN ns) (lst.take k) := ⟨_, rfl⟩
      rw [← hacc] at hx hft hacl ⊢
      obtain ⟨A, hA⟩ : ∃ A, A = acc.length := ⟨_, rfl⟩
      rw [← hA] at hx hacl ⊢
      have HX2 := Lib.hid hx; have HB := Lib.hid hb; have HFT := Lib.hid hft; have HRC := Lib.hid hrc; have HL := Lib.hid hL; have HA := Lib.hid hA
      clear HX hx hb hft hrc hL hA hacc hrow hxe ynk hcD hkl
      go_wp2_with fail
      go_loopw [5, 28] (fun xv jv wz => ∃ j : Nat, j ≤ L ∧ jv = .int .i64 j ∧ (∃ rb cb, xv = .slice rb (A + j) cb) ∧ Hid (NR wz W.heap.size xv (A + j) (acc ++ row.take j) ∧ Below W.heap.size W wz)) (fun _ jv _ => L - (intOf jv).toNat)
      case atStart => exact ⟨0, by omega, rfl, ⟨rb, cb, rfl⟩, Lib.hid ⟨by simpa using HX2.out, HB.out⟩⟩
      case round =>
        obtain ⟨j, hj, rfl, ⟨rb2, cb2, rfl⟩, HX⟩ := hrel
        obtain ⟨hx, hbz⟩ := HX.out
        by_cases hjl : j < L
        · have hjr : j < row.length := by rw [← HL.out]; exact hjl
          obtain ⟨hc0, hc1⟩ := HRC.out j hjr
          have z0 := (hbz.cell (p := ⟨gr, j * 2, none⟩) hgr).trans hc0
          have z1 := (hbz.cell (p := ⟨gr, j * 2 + 1, none⟩) hgr).trans hc1
          have htk := take_snocN hjr
          obtain ⟨q, hqe⟩ : ∃ q, q = row[j] := ⟨_, rfl⟩
          rw [← hqe] at z1 htk
          have hszz := hbz.size
          obtain ⟨A2, hA2⟩ : ∃ A2, A2 = A + j := ⟨_, rfl⟩
          have hA29 : A2 ≤ 200000 := by omega
          rw [← hA2] at hx ⊢
          have HX3 := Lib.hid hx; have HBZ := Lib.hid hbz; have HTK := Lib.hid htk; have HA2 := Lib.hid hA2
          clear HX hx hbz hc0 hc1 hqe htk hjr hA2
          go_wp2_with (at_builtin; refine wpList_app _ rfl _ _ 30 rfl W.heap.size 3 i0 (.int .i64 0) 8 Try.underlying30 hi hz0 hz1 hz2 rfl _ A2 _ rfl ((HX3.out.alloc _).alloc _) _ 1 1 [.int .i64 (q : Nat)] rfl rfl ?c1 ?c2 ?c3 ?c4 ?c5 ?_)
          case c1 => intro i u hi'; cases i with | zero => (simp at hi'; subst hi'; simp [Addr.add]; (try exact cell_newN _ _ _ _ (by simp))) | succ i => simp at hi'
          case c2 => intro u hu; simp at hu; subst hu; rfl
          case c3 => unfold maxLen; omega
          case c4 => omega
          case c5 => simp; omega
          intro v' w5 hown' hgrow hwh
          have hnr5 : NR w5 W.heap.size v' (A2 + 1) (acc ++ row.take (j + 1)) := by
            rw [HTK.out, ← List.append_assoc]
            exact NR.app (r := [q]) (by simpa [natsI] using hown')
          have hb5 : Below W.heap.size W w5 := ((HBZ.out.alloc hszz _).alloc (by simp; omega) _).trans (below_grown (by simp; omega) hgrow (fun g e => (HX3.out.lt g e).1))
          obtain ⟨a3, c3, rfl⟩ := own_slice hown'
          have HNR5 := Lib.hid hnr5; have HB5 := Lib.hid hb5
          clear hown' hgrow hwh hnr5 hb5
          go_wp2_with fail
          go_roundw
          case rel => exact ⟨j + 1, by omega, by go_num, ⟨a3, c3, by rw [HA2.out]; rfl⟩, Lib.hid ⟨by rw [show A + (j + 1) = A2 + 1 by rw [HA2.out]; omega]; exact HNR5.out, HB5.out⟩⟩
          case measure => simp [intOf] <;> omega
        · obtain rfl : j = L := by omega
          have hfr : row.take j = row := List.take_of_length_le (by rw [← HL.out]; exact Nat.le_refl _)
          rw [hfr, ← HFT.out] at hx
          have hlen5 : (flatS (rowN ns) (lst.take (k + 1))).length = A + j := by rw [HFT.out, List.length_append, HA.out, HL.out]
          have HX3 := Lib.hid hx; have HBZ := Lib.hid hbz; have HLEN := Lib.hid hlen5
          clear HX hx hbz hfr hlen5
          go_wp2_with fail
          go_roundw
          case rel => exact ⟨k + 1, by omega, by go_num, ⟨rb2, cb2, by rw [HLEN.out]⟩, Lib.hid ⟨by rw [HLEN.out]; exact HX3.out, HBZ.out⟩⟩
          case measure => simp [intOf] <;> omega
    · obtain rfl : k = T := by omega
      have hfull : lst.take k = lst := List.take_of_length_le (by rw [← HT.out]; exact Nat.le_refl _)
      rw [hfull] at hx ⊢
      have HX2 := Lib.hid hx; have HB := Lib.hid hb
      clear HX hx hb hfull
      go_wp2_with fail
      go_ret
      exact ⟨_, rfl, HX2.out, HB.out⟩
end Go.Proofs.Ytgmknehioadjhaa
