/- CommonElements: the model's search (index), the program's closure and its deletion, the law. -/
import Derived.Test.YtgmknehioadjhaaN7
import Derived.Test.YtgmknehioadjhaaS2
import Derived.Lib.OwnBridge
namespace Go.Proofs.Ytgmknehioadjhaa
open Go.RowKit Go.BigFrame Go.Maps
set_option linter.unusedSimpArgs false
set_option linter.unusedVariables false
set_option maxRecDepth 4000

/-! ### pure -/
theorem runF_ok : ∀ (f k : Nat) (ns r : List (List UInt8)), runF f k ns = some r → NmOk ns → NmOk r
  | 0, _, _, _, h, _ => by cases h
  | f + 1, k, ns, r, h, hn => by
    rw [runF] at h
    split at h
    · rename_i hk
      split at h
      · cases h
      · rename_i hb
        split at h
        · cases h
        · obtain ⟨h1, h2⟩ := hn _ (List.getElem_mem hk)
          exact runF_ok f _ _ _ h (nmOk_take hn (sd_ok h1 h2).1 (bigP_no (by simpa using hb)))
    · cases h; exact hn
theorem runF_ge : ∀ (f k : Nat) (ns r : List (List UInt8)), runF f k ns = some r → ns.length ≤ r.length
  | 0, _, _, _, h => by cases h
  | f + 1, k, ns, r, h => by
    rw [runF] at h
    split at h
    · split at h
      · cases h
      · split at h
        · cases h
        · have := runF_ge f _ _ _ h
          exact Nat.le_trans (nmT_len _ _).1 this
    · cases h; exact Nat.le_refl _
theorem tabQ_ok {l : List UInt8} {r : List (List UInt8)} (h : tabQ l = some r) : NmOk r ∧ r ≠ [] := by
  unfold tabQ at h
  split at h
  · rename_i hb
    obtain ⟨_, h1, h2⟩ := elB_parts hb
    have hp := parts_ok h1
    refine ⟨runF_ok _ _ _ _ h (nmOk_take (fun p hp => by simp at hp) (fun x hx => (hp x hx).1) (fun x hx => by have := (hp x hx).2; omega)), ?_⟩
    have hge := runF_ge _ _ _ _ h
    have hpos : 0 < (partsL l).length := by rw [partsL_len]; omega
    have : 0 < (nmT [] (partsL l)).length := by
      cases hq : partsL l with
      | nil => rw [hq] at hpos; simp at hpos
      | cons a t =>
        have := (nmT_len t (addN [] a)).1
        have h3 : (addN [] a).length = 1 := by unfold addN posN posB; simp
        simp only [nmT]; omega
    intro e; rw [e] at hge; exact absurd hge (by simp only [List.length_nil]; omega)
  · cases h
def cmL (a b : List (List UInt8)) : List (List UInt8) := a.filter fun p => decide (p ∈ b)
theorem cm_on {a b : List (List UInt8)} {k : Nat} (hk : k < a.length) (h : a[k] ∈ b) : cmL (a.take (k + 1)) b = cmL (a.take k) b ++ [a[k]] := by
  unfold cmL
  rw [List.take_succ_eq_append_getElem hk, List.filter_append]
  simp [h]
theorem cm_off {a b : List (List UInt8)} {k : Nat} (hk : k < a.length) (h : a[k] ∉ b) : cmL (a.take (k + 1)) b = cmL (a.take k) b := by
  unfold cmL
  rw [List.take_succ_eq_append_getElem hk, List.filter_append]
  simp [h]
theorem cm_len (a b : List (List UInt8)) : (cmL a b).length ≤ a.length := List.length_filter_le _ _
def cmQ (u v : List UInt8) : Option (List (List UInt8)) :=
  match tabQ u, tabQ v with
  | some a, some b => some (cmL a b)
  | _, _ => none

/-! ### the model -/
set_option maxHeartbeats 1000000 in
theorem elIndex_any (W : World) (n₀ tp nd : Nat) (xb : List Nat) (v0 v1 v2 : Value) (ns : List (List UInt8)) (p : List UInt8) (hT : TabM W n₀ tp ns nd xb v0 v1 v2) (hn : ns.length ≤ 100000) (x : Int) (hx : x = if p ∈ ns then ((posN p ns : Nat) : Int) else -1) :
    Calls Try.prog 47 #[.pointer (some ⟨tp, 0, none⟩), .string (bs p)] W fun e W' => e = .returned (.int .i64 x) ∧ W = W' := by
  have hrow := strs_row.1 hT.names
  obtain ⟨av, cv, rfl⟩ := own_slice hrow
  have hc0 := hT.cell0
  obtain ⟨nb, hnb⟩ : ∃ nb, nb = ns.map bs := ⟨_, rfl⟩
  rw [← hnb] at hrow hc0
  have hnl : nb.length = ns.length := by rw [hnb]; simp
  have hx2 : x = if posB (bs p) nb < nb.length then ((posB (bs p) nb : Nat) : Int) else -1 := by
    rw [hx]
    by_cases hm : p ∈ ns
    · have := posN_mem.2 hm
      rw [if_pos hm, if_pos (by rw [hnl, hnb]; exact this), hnb]; rfl
    · have := fun h => hm (posN_mem.1 h)
      rw [if_neg hm, if_neg (by rw [hnl, hnb]; exact this)]
  obtain ⟨w, hw⟩ : ∃ w, w = bs p := ⟨_, rfl⟩
  rw [← hw] at hx2 ⊢
  obtain ⟨N, hN⟩ : ∃ N, N = nb.length := ⟨_, rfl⟩
  rw [← hnl, ← hN] at hn
  rw [← hN] at hc0
  have HN := Lib.hid hN; have HR := Lib.hid hrow; have HX := Lib.hid hx2
  clear hrow hT hx hx2 hnb hw hnl hN
  go_enter Try.func47, Try.ntmps47
  go_wp2_with fail
  go_loopw [5, 6, 12] (fun _ _ kv wr => ∃ k : Nat, kv = .int .i64 k ∧ k ≤ N ∧ Hid (W = wr ∧ ∀ j (hj : j < nb.length), j < k → nb[j] ≠ w)) (fun _ _ kv _ => N - (intOf kv).toNat)
  case atStart => exact ⟨0, rfl, Nat.zero_le _, rfl, fun j _ h => by omega⟩
  case round =>
    obtain ⟨k, rfl, hk, HY⟩ := hrel
    obtain rfl := HY.out.1
    have HX2 := Lib.hid HY.out.2
    clear HY
    by_cases hlt : k < N
    · have hltn : k < nb.length := by rw [← HN.out]; exact hlt
      obtain ⟨g, hg, hcell⟩ : ∃ g, av = some ⟨g, 0, none⟩ ∧ W.cell? ⟨g, k, none⟩ = some (.string nb[k]) := by
        rcases own_open HR.out with ⟨_, h0, _⟩ | ⟨g, cap, e, _, _, _, _, _, hc, _⟩
        · omega
        · have e1 : av = some ⟨g, 0, none⟩ := by
            simp only [Value.slice.injEq] at e; exact e.1
          exact ⟨g, e1, by have := hc k (by simpa using hltn); simpa using this⟩
      subst hg
      obtain ⟨y, hy⟩ : ∃ y, y = nb[k] := ⟨_, rfl⟩
      rw [← hy] at hcell
      by_cases he : y = w
      · have hpos : Hid (posB w nb = k) := posB_at w nb k hltn HX2.out (by rw [← hy]; exact he)
        subst he
        clear hy
        go_wp2_with fail
        go_ret
        exact ⟨by rw [HX.out, hpos.out, if_pos hltn]; rfl, rfl⟩
      · have hnew : Hid (∀ j (hj : j < nb.length), j < k + 1 → nb[j] ≠ w) := fun j hj h => by
          by_cases e : j = k
          · subst e; rw [← hy]; exact he
          · exact HX2.out j hj (by omega)
        have hbe : (y.toList == w.toList) = false := by
          rw [beq_eq_false_iff_ne]
          intro e
          rw [bytes_toListX, bytes_toListX] at e
          exact he (ByteArray.ext (Array.toList_inj.1 e))
        clear hy
        go_wp2_with fail
        go_roundw
        case rel => exact ⟨k + 1, by go_num, by omega, trivial, hnew.out⟩
        case measure => simp [intOf] <;> omega
    · have h1 := posB_none w nb (fun j hj => HX2.out j hj (by have := HN.out; omega))
      have HZ : Hid (x = -1) := Lib.hid (by rw [HX.out, h1, if_neg (by omega)])
      clear h1
      go_wp2_with fail
      go_ret
      exact ⟨by rw [HZ.out]; rfl, rfl⟩

set_option maxHeartbeats 2000000 in
theorem specCommonElements_q (s t : ByteArray) (w : World) (hs : s.size ≤ maxLen) (ht : t.size ≤ maxLen) :
    Calls Try.prog 32 #[.string s, .string t] w fun e w' => StrsQ (cmQ s.data.toList t.data.toList) w w' e := by
  obtain ⟨s0, si, sz0, sz1, sz2⟩ := info_parts info_str6
  have HA := Lib.hid (fun (W : World) => elAsked_any s W hs); have HC := Lib.hid (fun (W : World) => elAsked_any t W ht)
  unfold cmQ
  have hQa := fun (r : List (List UInt8)) (h : tabQ s.data.toList = some r) => tabQ_le h
  have hQb := fun (r : List (List UInt8)) (h : tabQ t.data.toList = some r) => tabQ_le h
  generalize tabQ s.data.toList = R1 at *
  generalize tabQ t.data.toList = R2 at *
  cases R1 with
  | none =>
    clear hQa hQb
    go_enter Try.func32, Try.ntmps32
    go_wp2_with fail
    refine (HA.out w).mono ?_
    rintro e w1 hpost
    have hB1 := hpost.2.2
    obtain rfl := hpost.1 rfl
    have HB1 := Lib.hid hB1
    clear hpost hB1 HA HC
    go_wp2_with fail
    go_ret2
    exact ⟨_, rfl, World.ownsRow_nil _ _ _ _, HB1.out⟩
  | some a =>
    have ha := hQa a rfl
    cases R2 with
    | none =>
      clear hQa hQb
      go_enter Try.func32, Try.ntmps32
      go_wp2_with fail
      refine (HA.out w).mono ?_
      rintro e w1 hpost
      have hB1 := hpost.2.2
      obtain ⟨tp, nd, xb, v0, v1, v2, rfl, hT, hRMhT⟩ := hpost.2.1 a rfl
      have HB1 := Lib.hid hB1
      clear hpost hB1 HA hT hRMhT
      go_wp2_with fail
      refine (HC.out w1).mono ?_
      rintro e w2 hpost
      have hB2 := hpost.2.2
      obtain rfl := hpost.1 rfl
      have HB2 := Lib.hid hB2
      clear hpost hB2 HC
      go_wp2_with fail
      go_ret2
      exact ⟨_, rfl, World.ownsRow_nil _ _ _ _, HB1.out.trans (HB2.out.mono HB1.out.size)⟩
    | some b =>
      have hb := hQb b rfl
      clear hQa hQb
      go_enter Try.func32, Try.ntmps32
      go_wp2_with fail
      refine (HA.out w).mono ?_
      rintro e w1 hpost
      have hB1 := hpost.2.2
      obtain ⟨tp, nd, xb, v0, v1, v2, rfl, hT, hRMhT⟩ := hpost.2.1 a rfl
      have HB1 := Lib.hid hB1; have HT1 := Lib.hid hT
      clear hpost hB1 HA hT hRMhT
      go_wp2_with fail
      refine (HC.out w1).mono ?_
      rintro e w2 hpost
      have hB2 := hpost.2.2
      obtain ⟨tq, nd2, xb2, u0, u1, u2, rfl, hT2, hRMhT2⟩ := hpost.2.1 b rfl
      have hT3 := HT1.out.below hB2
      obtain ⟨am, cm, rfl⟩ := own_slice hT3.names
      obtain ⟨M, hM⟩ : ∃ M, M = a.length := ⟨_, rfl⟩
      have x0 := hT3.cell0
      rw [← hM] at x0
      have HB2 := Lib.hid hB2; have HT2 := Lib.hid hT2; have HT3 := Lib.hid hT3; have HM := Lib.hid hM
      rw [← hM] at ha
      clear hpost hB2 HC hT2 hT3 HT1 hM hRMhT2
      go_wp2_with fail
      go_loopw [10, 12, 32] (fun ov _ kv wr => ∃ k : Nat, kv = .int .i64 k ∧ k ≤ M ∧ Hid (Strs wr w2.heap.size ov (cmL (a.take k) b) ∧ Below w2.heap.size w2 wr)) (fun _ _ kv _ => M - (intOf kv).toNat)
      case atStart => exact ⟨0, rfl, by omega, Lib.hid ⟨World.ownsRow_nil _ _ _ _, Below.refl _ _⟩⟩
      case round =>
        obtain ⟨k, rfl, hk, HX⟩ := hrel
        obtain ⟨hrow, hbw⟩ := HX.out
        obtain ⟨ao, co, rfl⟩ := own_slice hrow
        by_cases hlt : k < M
        · have hltn : k < a.length := by rw [← HM.out]; exact hlt
          obtain ⟨g, c', hv0, _, hg, hcs⟩ := strs_pos HT3.out.names (by intro e; rw [e] at hltn; simp at hltn)
          cases hv0
          have xk := (hbw.cell (p := ⟨g, k, none⟩) hg).trans (hcs k hltn)
          have hTr := HT2.out.below hbw
          have hon := cm_on (b := b) hltn
          have hoff := cm_off (b := b) hltn
          have hlen := Nat.le_trans (cm_len (a.take k) b) (List.length_take_le k a)
          obtain ⟨p, hp⟩ : ∃ p, p = a[k] := ⟨_, rfl⟩
          rw [← hp] at xk hon hoff
          by_cases hin : p ∈ b
          · have hcall := elIndex_any wr w1.heap.size tq nd2 xb2 u0 u1 u2 b p hTr (by omega) (posN p b : Nat) (by rw [if_pos hin])
            have HCALL := Lib.hid hcall; have HON := Lib.hid (hon hin); have HROW := Lib.hid hrow; have HBW := Lib.hid hbw
            have h0 : (0 : Int) ≤ (posN p b : Nat) := by omega
            generalize ((posN p b : Nat) : Int) = pv at *
            clear HX hrow hbw hTr hon hoff hp hin hcall hcs
            go_wp2_with fail
            refine HCALL.out.mono ?_
            rintro e w5 ⟨rfl, rfl⟩
            go_wp2_with (at_builtin; refine wpList_app _ rfl _ _ 22 rfl w2.heap.size 9 s0 (.string ⟨#[]⟩) 16 Try.underlying22 si sz0 sz1 sz2 rfl _ (cmL (a.take k) b).length _ rfl (HROW.out.alloc _) _ 1 1 [.string (bs p)] rfl rfl ?c1 ?c2 ?c3 ?c4 ?c5 ?_)
            case c1 => intro i u hi'; cases i with | zero => (simp at hi'; subst hi'; simp [Addr.add]) | succ i => simp at hi'
            case c2 => intro u hu; simp at hu; subst hu; rfl
            case c3 => unfold maxLen; omega
            case c4 => omega
            case c5 => have := HBW.out.size; simp; omega
            intro v' w10 hown' hgrow hwh
            have hb10 : Below w2.heap.size w2 w10 := HBW.out.trans (((below_alloc wr _).mono HBW.out.size).trans (below_grown (by have := HBW.out.size; simp; omega) hgrow (fun g e => (HROW.out.lt g e).1)))
            obtain ⟨a3, c3, rfl⟩ := own_slice hown'
            have HO := Lib.hid hown'; have HB10 := Lib.hid hb10
            clear hown' hgrow hwh hb10
            go_wp2_with fail
            go_roundw
            case rel =>
              refine ⟨k + 1, by go_num, by omega, Lib.hid ⟨?_, HB10.out⟩⟩
              rw [HON.out]
              have h := HO.out
              unfold Strs
              rw [List.length_append]
              simpa using h
            case measure => simp [intOf] <;> omega
          · have hcall := elIndex_any wr w1.heap.size tq nd2 xb2 u0 u1 u2 b p hTr (by omega) (-1) (by rw [if_neg hin])
            have HCALL := Lib.hid hcall; have HOFF := Lib.hid (hoff hin); have HROW := Lib.hid hrow; have HBW := Lib.hid hbw
            clear HX hrow hbw hTr hon hoff hp hin hcall hcs
            go_wp2_with fail
            refine HCALL.out.mono ?_
            rintro e w5 ⟨rfl, rfl⟩
            go_wp2_with fail
            go_roundw
            case rel => exact ⟨k + 1, by go_num, by omega, Lib.hid ⟨by rw [HOFF.out]; exact HROW.out, HBW.out⟩⟩
            case measure => simp [intOf] <;> omega
        · obtain rfl : k = M := by omega
          have hfull : a.take k = a := List.take_of_length_le (by rw [← HM.out]; exact Nat.le_refl _)
          have HROW := Lib.hid hrow; have HBW := Lib.hid hbw; have HFULL := Lib.hid hfull
          clear HX hrow hbw hfull
          go_wp2_with fail
          go_ret2
          refine ⟨_, rfl, by rw [show cmL a b = cmL (a.take k) b by rw [HFULL.out]]; exact own_mono HROW.out (by have := HB1.out.size; have := HB2.out.size; omega), (HB1.out.trans (HB2.out.mono HB1.out.size)).trans (HBW.out.mono (by have := HB1.out.size; have := HB2.out.size; omega))⟩
end Go.Proofs.Ytgmknehioadjhaa
