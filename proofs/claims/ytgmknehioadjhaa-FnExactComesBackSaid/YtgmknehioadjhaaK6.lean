/- The model's elFirsts. -/
import Derived.Test.YtgmknehioadjhaaK5
namespace Go.Proofs.Ytgmknehioadjhaa
open Go.RowKit Go.BigFrame Go.Shelf
set_option linter.unusedSimpArgs false
set_option linter.unusedVariables false
set_option maxRecDepth 4000

theorem cut_mono {m n : Nat} {p f : List UInt8} (h : Cut m p f) (hn : n ≤ m) : Cut n p f :=
  ⟨by obtain ⟨qs, h1, h2, h3, h4⟩ := h.pairs; exact ⟨qs, h1, h2, h3, by omega⟩, h.pre⟩
/-- Where the model's loop stands behind k rounds. -/
def FirstAt (l : List UInt8) (k : Nat) (c : Bool) (p : List UInt8) : Prop :=
  (c = false ∧ p = sayN k l ∧ (k = 0 ∨ p.length ≤ 80)) ∨ (c = true ∧ Cut (41 - k) p (sayN k l) ∧ p.length ≤ 80)
theorem firstAt_facts {l : List UInt8} (hl : sayB l = true) (h120 : l.length ≤ 120) {k : Nat} (hk : k ≤ 9) {c : Bool} {p : List UInt8} (h : FirstAt l k c p) :
    p ≠ [] ∧ p.headD 0 = (sayN k l).headD 0 ∧ p.length ≤ 120 ∧ p.all digB = true ∧ sayB p = true := by
  rcases h with ⟨_, rfl, hp⟩ | ⟨_, hc, hp⟩
  · have h1 := sayB_iff.1 (sayN_ok hl k)
    refine ⟨h1.1, rfl, ?_, h1.2.1, sayN_ok hl k⟩
    rcases hp with rfl | hp
    · exact h120
    · omega
  · have hc' : Cut ((40 - k) + 1) p (sayN k l) := cut_mono hc (by omega)
    obtain ⟨e1, e2⟩ := cut_head hc'
    obtain ⟨_, _, _, e3⟩ := cut_step hc' (sayN_ok hl k)
    exact ⟨e1, e2, by omega, (sayB_iff.1 e3).2.1, e3⟩
/-- One round of the model's loop. -/
def firstStep (c : Bool) (p : List UInt8) : Bool × List UInt8 :=
  let q := if c = true then (sayL p).take ((sayL p).length - 2) else sayL p
  if 80 < q.length then (true, q.take 80) else (c, q)
theorem firstAt_step {l : List UInt8} (hl : sayB l = true) (h120 : l.length ≤ 120) {k : Nat} (hk : k ≤ 9) {c : Bool} {p : List UInt8} (h : FirstAt l k c p) :
    FirstAt l (k + 1) (firstStep c p).1 (firstStep c p).2 ∧ 2 ≤ (sayL p).length := by
  have hf := firstAt_facts hl h120 hk h
  rcases h with ⟨rfl, rfl, hp⟩ | ⟨rfl, hc, hp⟩
  · have h2 : 2 ≤ (sayL (sayN k l)).length := by
      have hok := runs_ok (sayN_ok hl k)
      have hne := runs_ne (sayB_iff.1 (sayN_ok hl k)).1
      unfold sayL; rw [sayR_len2 hok]
      have := Nat.pos_of_ne_zero (fun e => hne (List.eq_nil_of_length_eq_zero e)); omega
    refine ⟨?_, h2⟩
    unfold firstStep
    simp only [Bool.false_eq_true, if_false]
    split
    · rename_i hlt
      refine .inr ⟨rfl, ?_, by rw [List.length_take]; omega⟩
      have := cut_first (sayN_ok hl k) (m := 40) (by omega)
      exact cut_mono (cut_take this (by omega)) (by omega)
    · rename_i hlt
      exact .inl ⟨rfl, rfl, .inr (Nat.le_of_not_lt hlt)⟩
  · have hc' : Cut ((40 - k) + 1) p (sayN k l) := cut_mono hc (by omega)
    obtain ⟨s1, s2, s3, s4⟩ := cut_step hc' (sayN_ok hl k)
    refine ⟨?_, s2⟩
    unfold firstStep
    simp only [if_true]
    split
    · rename_i hlt
      exact .inr ⟨rfl, cut_mono (cut_take s1 (by omega)) (by omega), by rw [List.length_take]; omega⟩
    · rename_i hlt
      exact .inr ⟨rfl, cut_mono s1 (by omega), Nat.le_of_not_lt hlt⟩
theorem list_take (t : ByteArray) (n : Nat) : (t.extract 0 n).data.toList = t.data.toList.take n := by rw [list_extract]; simp
theorem size_take (t : ByteArray) (n : Nat) (h : n ≤ t.size) : (t.extract 0 n).size = n := by
  rw [← size_list, list_take, List.length_take, size_list]; omega

set_option maxHeartbeats 2000000 in
theorem elFirsts_any (s : ByteArray) (w : World) (hsp : sayB s.data.toList = true) (hs : s.size ≤ 120) :
    Calls Try.prog 98 #[.string s] w fun e w' => ∃ v, e = .returned v ∧ Ints w' w.heap.size v (digsN (firstsL s.data.toList)) ∧ Below w.heap.size w w' := by
  obtain ⟨i0, hi, hz0, hz1, hz2⟩ := info_parts info_int5
  have h120 : s.data.toList.length ≤ 120 := by rw [size_list]; exact hs
  have HSP := Lib.hid hsp; clear hsp
  go_enter Try.func98, Try.ntmps98
  go_wp2_with fail
  go_loopw [0, 3, 4, 5] (fun tv v cv kv wr => ∃ (k : Nat) (t : ByteArray) (c : Bool), k ≤ 10 ∧ kv = .int .i64 k ∧ tv = .string t ∧ cv = .bool c ∧ Hid (k ≤ 9 → FirstAt s.data.toList k c t.data.toList) ∧ Hid (wr.ownsRow w.heap.size 3 1 v k (digsV ((firstsL s.data.toList).take k)) ∧ Below w.heap.size w wr)) (fun _ _ _ k _ => 11 - (intOf k).toNat)
  case atStart => exact ⟨0, s, false, by omega, rfl, rfl, rfl, fun _ => .inl ⟨rfl, rfl, .inl rfl⟩, World.ownsRow_nil _ _ _ _, Below.refl _ _⟩
  case round =>
    obtain ⟨k, t, c, hk, rfl, rfl, rfl, HF, HX⟩ := hrel
    by_cases hk9 : k ≤ 9
    · obtain ⟨f1, f2, f3, f4, f5⟩ := firstAt_facts HSP.out h120 hk9 (HF.out hk9)
      obtain ⟨hst, h2⟩ := firstAt_step HSP.out h120 hk9 (HF.out hk9)
      have ht1 : 0 < t.size := by rw [← size_list]; exact Nat.pos_of_ne_zero (fun e => f1 (List.eq_nil_of_length_eq_zero e))
      have ht2 : t.size ≤ 120 := by rw [← size_list]; exact f3
      have hhd := head_at (t := t) rfl ht1
      obtain ⟨hd1, hd2⟩ := dig_at t f4 0 ht1
      have hfs : (firstsL s.data.toList).take (k + 1) = (firstsL s.data.toList).take k ++ [t[0]] := by
        rw [List.take_succ_eq_append_getElem (by simp [firstsL]; omega)]
        congr 2
        rw [← hhd, f2]
        simp [firstsL]
      have hsnoc := Lib.hid (show digsV ((firstsL s.data.toList).take (k + 1)) = digsV ((firstsL s.data.toList).take k) ++ [.int .i64 ((t[0].toNat : Int) - 48)] by rw [hfs, digsV_snoc])
      have hws := Lib.hid (fun (W : World) => woSay_any t W ht1 (by omega) f4)
      have HST := Lib.hid hst
      have hsl : (sayL t.data.toList).length ≤ 240 := by have := say_len_le f5; rw [size_list] at this; omega
      obtain ⟨q, hq⟩ : ∃ q, q = bs (sayL t.data.toList) := ⟨_, rfl⟩
      have hq1 : 2 ≤ q.size := by rw [hq, bs_size]; exact h2
      have hq2 : q.size ≤ 240 := by rw [hq, bs_size]; exact hsl
      have HQ := Lib.hid hq
      have HQL : Hid (q.data.toList = sayL t.data.toList) := by rw [hq, bs_list]; exact rfl
      clear hq f1 f2 f3 f4 f5 hst h2 hhd hfs hsl
      obtain ⟨m, hm⟩ : ∃ m, q.size = m + 2 := ⟨q.size - 2, by omega⟩
      have hlen : (sayL t.data.toList).length = m + 2 := by rw [← HQL.out, size_list]; exact hm
      have HLEN := Lib.hid hlen; clear hlen
      cases c with
      | false =>
        by_cases hgt : 80 < m + 2
        · have HNX : Hid (FirstAt s.data.toList (k + 1) true (q.extract 0 80).data.toList) := by
            have := HST.out; unfold firstStep at this; simp only [Bool.false_eq_true, if_false] at this
            rw [if_pos (by rw [HLEN.out]; exact hgt)] at this; rw [list_take, HQL.out]; exact this
          clear HST
          go_wp2_with (at_builtin; refine wpList_append_own _ rfl _ _ 30 rfl w.heap.size 3 i0 (.int .i64 0) 1 8 Try.underlying30 hi hz0 hz1 hz2 rfl (by decide) _ _ _ rfl (HX.out.1.alloc _) ⟨wr.heap.size, 0, none⟩ 1 1 [.int .i64 ((t[0].toNat : Int) - 48)] rfl rfl (cell_one_new _ _ _) (by simp [Value.oneCell']) (by unfold maxLen; omega) (by omega) (by have := HX.out.2.size; simp; omega) ?_; intro v' w1 hown' hgrow _)
          have hb1 := (HX.out.2.alloc HX.out.2.size _).grown hgrow (by have := HX.out.2.size; simp; omega) (fun g hg => (HX.out.1.lt g hg).1)
          have HO := Lib.hid hown'; have HB1 := Lib.hid hb1; clear hown' hgrow hb1
          go_wp2_with fail
          refine (hws.out w1).mono ?_
          rintro e w2 ⟨rfl, hb2⟩
          rw [← HQ.out]
          have HO2 := Lib.hid (own_below HO.out hb2); have HB2 := Lib.hid (HB1.out.trans (hb2.mono HB1.out.size)); clear hb2
          go_wp2_with fail
          go_roundw
          case rel => exact ⟨k + 1, _, _, by omega, by go_num, rfl, rfl, fun _ => HNX.out, by rw [hsnoc.out]; exact HO2.out, HB2.out⟩
          case measure => simp [intOf] <;> omega
        · have HNX : Hid (FirstAt s.data.toList (k + 1) false q.data.toList) := by
            have := HST.out; unfold firstStep at this; simp only [Bool.false_eq_true, if_false] at this
            rw [if_neg (by rw [HLEN.out]; exact hgt)] at this; rw [HQL.out]; exact this
          clear HST
          go_wp2_with (at_builtin; refine wpList_append_own _ rfl _ _ 30 rfl w.heap.size 3 i0 (.int .i64 0) 1 8 Try.underlying30 hi hz0 hz1 hz2 rfl (by decide) _ _ _ rfl (HX.out.1.alloc _) ⟨wr.heap.size, 0, none⟩ 1 1 [.int .i64 ((t[0].toNat : Int) - 48)] rfl rfl (cell_one_new _ _ _) (by simp [Value.oneCell']) (by unfold maxLen; omega) (by omega) (by have := HX.out.2.size; simp; omega) ?_; intro v' w1 hown' hgrow _)
          have hb1 := (HX.out.2.alloc HX.out.2.size _).grown hgrow (by have := HX.out.2.size; simp; omega) (fun g hg => (HX.out.1.lt g hg).1)
          have HO := Lib.hid hown'; have HB1 := Lib.hid hb1; clear hown' hgrow hb1
          go_wp2_with fail
          refine (hws.out w1).mono ?_
          rintro e w2 ⟨rfl, hb2⟩
          rw [← HQ.out]
          have HO2 := Lib.hid (own_below HO.out hb2); have HB2 := Lib.hid (HB1.out.trans (hb2.mono HB1.out.size)); clear hb2
          go_wp2_with fail
          go_roundw
          case rel => exact ⟨k + 1, _, _, by omega, by go_num, rfl, rfl, fun _ => HNX.out, by rw [hsnoc.out]; exact HO2.out, HB2.out⟩
          case measure => simp [intOf] <;> omega
      | true =>
        have hr1 := size_take q m (by omega)
        obtain ⟨r, hr⟩ : ∃ r, r = q.extract 0 m := ⟨_, rfl⟩
        have HRL : Hid (r.data.toList = (sayL t.data.toList).take ((sayL t.data.toList).length - 2)) := by rw [hr, list_take, HQL.out, HLEN.out]; exact rfl
        rw [← hr] at hr1
        have hre : q.extract 0 m = r := hr.symm
        clear hr
        by_cases hgt : 80 < m
        · have HNX : Hid (FirstAt s.data.toList (k + 1) true (r.extract 0 80).data.toList) := by
            have := HST.out; unfold firstStep at this; simp only [if_true] at this
            rw [← HRL.out, if_pos (by rw [size_list, hr1]; exact hgt)] at this; rw [list_take]; exact this
          clear HST
          go_wp2_with (at_builtin; refine wpList_append_own _ rfl _ _ 30 rfl w.heap.size 3 i0 (.int .i64 0) 1 8 Try.underlying30 hi hz0 hz1 hz2 rfl (by decide) _ _ _ rfl (HX.out.1.alloc _) ⟨wr.heap.size, 0, none⟩ 1 1 [.int .i64 ((t[0].toNat : Int) - 48)] rfl rfl (cell_one_new _ _ _) (by simp [Value.oneCell']) (by unfold maxLen; omega) (by omega) (by have := HX.out.2.size; simp; omega) ?_; intro v' w1 hown' hgrow _)
          have hb1 := (HX.out.2.alloc HX.out.2.size _).grown hgrow (by have := HX.out.2.size; simp; omega) (fun g hg => (HX.out.1.lt g hg).1)
          have HO := Lib.hid hown'; have HB1 := Lib.hid hb1; clear hown' hgrow hb1
          go_wp2_with fail
          refine (hws.out w1).mono ?_
          rintro e w2 ⟨rfl, hb2⟩
          rw [← HQ.out]
          have HO2 := Lib.hid (own_below HO.out hb2); have HB2 := Lib.hid (HB1.out.trans (hb2.mono HB1.out.size)); clear hb2
          go_wp2_with fail
          go_roundw
          case rel => exact ⟨k + 1, _, _, by omega, by go_num, rfl, rfl, fun _ => HNX.out, by rw [hsnoc.out]; exact HO2.out, HB2.out⟩
          case measure => simp [intOf] <;> omega
        · have HNX : Hid (FirstAt s.data.toList (k + 1) true r.data.toList) := by
            have := HST.out; unfold firstStep at this; simp only [if_true] at this
            rw [← HRL.out, if_neg (by rw [size_list, hr1]; exact hgt)] at this; exact this
          clear HST
          go_wp2_with (at_builtin; refine wpList_append_own _ rfl _ _ 30 rfl w.heap.size 3 i0 (.int .i64 0) 1 8 Try.underlying30 hi hz0 hz1 hz2 rfl (by decide) _ _ _ rfl (HX.out.1.alloc _) ⟨wr.heap.size, 0, none⟩ 1 1 [.int .i64 ((t[0].toNat : Int) - 48)] rfl rfl (cell_one_new _ _ _) (by simp [Value.oneCell']) (by unfold maxLen; omega) (by omega) (by have := HX.out.2.size; simp; omega) ?_; intro v' w1 hown' hgrow _)
          have hb1 := (HX.out.2.alloc HX.out.2.size _).grown hgrow (by have := HX.out.2.size; simp; omega) (fun g hg => (HX.out.1.lt g hg).1)
          have HO := Lib.hid hown'; have HB1 := Lib.hid hb1; clear hown' hgrow hb1
          go_wp2_with fail
          refine (hws.out w1).mono ?_
          rintro e w2 ⟨rfl, hb2⟩
          rw [← HQ.out]
          have HO2 := Lib.hid (own_below HO.out hb2); have HB2 := Lib.hid (HB1.out.trans (hb2.mono HB1.out.size)); clear hb2
          go_wp2_with fail
          go_roundw
          case rel => exact ⟨k + 1, _, _, by omega, by go_num, rfl, rfl, fun _ => HNX.out, by rw [hsnoc.out]; exact HO2.out, HB2.out⟩
          case measure => simp [intOf] <;> omega
    · obtain rfl : k = 10 := by omega
      go_wp2_with fail
      go_ret
      refine ⟨_, rfl, ?_, HX.out.2⟩
      have := HX.out.1
      rw [List.take_of_length_le (by simp [firstsL])] at this
      unfold Ints
      rw [show (digsN (firstsL s.data.toList)).length = 10 by simp [digsN, firstsL]]
      exact this
end Go.Proofs.Ytgmknehioadjhaa
