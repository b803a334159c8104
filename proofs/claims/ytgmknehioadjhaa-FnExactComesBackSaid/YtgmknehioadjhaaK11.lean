/- Parts of a text: the model's elParts, the program's cutAtSplits. -/
import Derived.Test.YtgmknehioadjhaaK10
import Derived.Test.YtgmknehioadjhaaR3
import Derived.Test.YtgmknehioadjhaaE3
import Derived.Test.YtgmknehioadjhaaS
namespace Go.Proofs.Ytgmknehioadjhaa
open Go.RowKit Go.BigFrame
set_option linter.unusedSimpArgs false
set_option linter.unusedVariables false
set_option maxRecDepth 4000

theorem info_str6 : (Try.prog.info? 9).map (fun i => (i.zero, i.size, i.bytes)) = some (some (.string ⟨#[]⟩), 1, 16) := by kernel_rfl
theorem clone_any6 (s : ByteArray) (w : World) (hs : s.size ≤ 281474976710656) :
    Calls Try.prog 73 #[.string s] w fun e w' => e = .returned (.string s) ∧ Below w.heap.size w w' := by
  go_enter Try.func73, Try.ntmps73
  go_wp2_with fail
  refine (Try.stringslite_Clone s w hs).mono ?_
  rintro e w1 ⟨rfl, hb⟩
  have HB := Lib.hid hb; clear hb
  go_wp2_with fail
  go_ret
  exact ⟨rfl, HB.out⟩
theorem splits_sorted (l : List UInt8) (q : Nat) : (splitsTo l q).Pairwise (· < ·) := List.Pairwise.filter _ List.pairwise_lt_range
theorem splits_lt (l : List UInt8) (q : Nat) : ∀ p ∈ splitsTo l q, 1 ≤ p ∧ p < q := by
  intro p hp
  unfold splitsTo at hp
  simp at hp
  exact ⟨hp.2.1, hp.1⟩
/-- The parts of a text. -/
def partsL (l : List UInt8) : List (List UInt8) := cutsL l 0 (splitsL l ++ [l.length])
theorem partsL_len (l : List UInt8) : (partsL l).length = (splitsL l).length + 1 := by unfold partsL; rw [cutsL_len]; simp
def strsV (ls : List (List UInt8)) : List Value := ls.map (fun l => .string (bs l))
theorem strs_snoc {w : World} {B n : Nat} {v : Value} {ls : List (List UInt8)} {l : List UInt8} (h : w.ownsRow B 9 1 v (n + 1) (strsV ls ++ [.string (bs l)])) (hn : ls.length = n) : Strs w B v (ls ++ [l]) := by
  unfold Strs
  rw [List.length_append, hn]
  simpa [strsV] using h

set_option maxHeartbeats 1000000 in
theorem elParts_any (s : ByteArray) (w : World) (hsp : sayB s.data.toList = true) (hs : s.size ≤ 120) :
    Calls Try.prog 68 #[.string s] w fun e w' => ∃ v, e = .returned v ∧ Strs w' w.heap.size v (partsL s.data.toList) ∧ Below w.heap.size w w' := by
  obtain ⟨i0, hi, hz0, hz1, hz2⟩ := info_parts info_str6
  have HS := Lib.hid (fun (W : World) => elSplits_any s W hsp hs)
  obtain ⟨ps, hps⟩ : ∃ ps, ps = splitsL s.data.toList := ⟨_, rfl⟩
  have hsort : ps.Pairwise (· < ·) := by rw [hps]; exact splits_sorted _ _
  have hlt : ∀ p ∈ ps, 1 ≤ p ∧ p < s.size := by rw [hps]; intro p hp; have := splits_lt _ _ p hp; rw [size_list] at this; exact this
  have hpl : ps.length ≤ 120 := by rw [hps]; have := splitsTo_len s.data.toList s.data.toList.length; rw [size_list] at this; unfold splitsL; rw [size_list]; omega
  rw [← hps] at HS
  have HPS : Hid (partsL s.data.toList = cutsL s.data.toList 0 (ps ++ [s.size])) := by unfold partsL; rw [hps, size_list]; exact rfl
  have HSORT := Lib.hid hsort; have HLT := Lib.hid hlt
  clear hps hsort hlt hsp
  go_enter Try.func68, Try.ntmps68
  go_wp2_with fail
  refine (HS.out w).mono ?_
  rintro e w1 ⟨vs, rfl, hv, hb⟩
  have HB := Lib.hid hb
  obtain ⟨N, hN⟩ : ∃ N, N = ps.length := ⟨_, rfl⟩
  have hN2 : N ≤ 120 := by omega
  have HN := Lib.hid hN
  rcases ints_open hv with ⟨rfl, h0⟩ | ⟨g, cap, rfl, _, hg, hn, hcp, hca, _⟩
  · have hp0 : ps = [] := List.eq_nil_of_length_eq_zero (by have := congrArg List.length h0; rw [natsI_len] at this; simpa using this)
    have HP0 : Hid (partsL s.data.toList = [s.data.toList]) := by
      rw [HPS.out, hp0]
      show [(s.data.toList.drop 0).take (s.size - 0)] = _
      rw [List.drop_zero, List.take_of_length_le (by rw [size_list]; omega)]
    have hnew : Value.string s = .string (bs s.data.toList) := by rw [← bs_eq (t := s) rfl]
    have HNEW := Lib.hid hnew
    have hex : s.extract 0 s.size = s := by
      apply ByteArray.ext; apply Array.toList_inj.1; rw [list_extract, List.drop_zero, List.take_of_length_le (by rw [size_list]; omega)]
    clear hv hb hp0 hN h0 hpl hnew
    go_wp2_with fail
    refine wp_loop_rounds 1 ?_
    rw [rounds_succ]
    go_wp2_with (at_builtin; refine wpList_append_own _ rfl _ _ 22 rfl w1.heap.size 9 i0 (.string ⟨#[]⟩) 1 16 Try.underlying22 hi hz0 hz1 hz2 rfl (by decide) (.slice none 0 0) 0 [] rfl (World.ownsRow_nil _ _ _ _) ⟨w1.heap.size, 0, none⟩ 1 1 [.string s] rfl rfl (cell_one_new _ _ _) (by simp [Value.oneCell']) (by unfold maxLen; omega) (by omega) (by simp) ?_; intro v' w3 hown' hgrow _; have R1 := Lib.hid hown'; have R2 := Lib.hid ((below_alloc w1 _).grown hgrow (by simp) (fun g hg => by cases hg)); clear hown' hgrow)
    go_ret
    refine ⟨_, rfl, ?_, below_trans HB.out R2.out⟩
    rw [HP0.out]
    refine own_mono (B := w1.heap.size) ?_ HB.out.size
    have := R1.out
    rw [HNEW.out] at this
    simpa using this
  · have hlen : (natsI ps).length = N := by rw [natsI_len, hN]
    have HCA : Hid (∀ i (h : i < ps.length), w1.cell? ⟨g, i, none⟩ = some (.int .i64 (ps[i] : Nat))) := fun i h => by
      have := hca i (by rw [natsI_len]; exact h)
      simpa [natsI] using this
    rw [hlen] at hn ⊢
    clear hv hb hca hN hlen hpl
    go_wp2_with fail
    go_loopw [3, 4, 10] (fun v f i wr => ∃ (k q : Nat), k ≤ N ∧ i = .int .i64 k ∧ f = .int .i64 q ∧ q ≤ s.size ∧ Hid (q = (ps.take k).getLastD 0) ∧ Hid (Strs wr w1.heap.size v (cutsL s.data.toList 0 (ps.take k)) ∧ Below w1.heap.size w1 wr)) (fun _ _ i _ => N - (intOf i).toNat)
    case atStart => exact ⟨0, 0, Nat.zero_le _, rfl, rfl, Nat.zero_le _, rfl, World.ownsRow_nil _ _ _ _, Below.refl _ _⟩
    case round =>
      obtain ⟨k, q, hk, rfl, rfl, hq, HQ, HR⟩ := hrel
      have hbw : Below w.heap.size w wr := below_trans HB.out HR.out.2
      have hszw := hbw.size
      have HBW := Lib.hid hbw; clear hbw
      by_cases hlt : k < N
      · have hlt' : k < ps.length := by rw [← HN.out]; exact hlt
        have hc0 := (HR.out.2.cell (p := ⟨g, k, none⟩) hg).trans (HCA.out k hlt')
        have hqp : q ≤ ps[k] := by rw [HQ.out]; exact last_take_lt HSORT.out k hlt'
        have hpn : ps[k] < s.size := (HLT.out _ (List.getElem_mem _)).2
        have htk : ps.take (k + 1) = ps.take k ++ [ps[k]] := List.take_succ_eq_append_getElem hlt'
        have hst : cutsL s.data.toList 0 (ps.take (k + 1)) = cutsL s.data.toList 0 (ps.take k) ++ [(s.data.toList.drop q).take (ps[k] - q)] := by rw [htk, cutsL_snoc, ← HQ.out]
        have hlast : ps[k] = (ps.take (k + 1)).getLastD 0 := by rw [htk, List.getLastD_concat]
        have hcl : (cutsL s.data.toList 0 (ps.take k)).length = k := by rw [cutsL_len, List.length_take]; omega
        have HST := Lib.hid hst; have HLA := Lib.hid hlast; have HCL := Lib.hid hcl
        have hown := HR.out.1
        unfold Strs at hown
        rw [hcl] at hown
        have HOWN := Lib.hid hown
        clear htk hst hlast hcl hown
        generalize ps[k] = p at *
        have hnew : Value.string (s.extract q p) = .string (bs ((s.data.toList.drop q).take (p - q))) := by rw [bs_eq (list_extract s q p)]
        have HNEW := Lib.hid hnew; clear hnew
        have hpi : (q : Int) ≤ (p : Int) := by omega
        have hpi2 : (p : Int) ≤ (s.size : Int) := by omega
        go_wp2_with (at_builtin; refine wpList_append_own _ rfl _ _ 22 rfl w1.heap.size 9 i0 (.string ⟨#[]⟩) 1 16 Try.underlying22 hi hz0 hz1 hz2 rfl (by decide) _ _ _ rfl (HOWN.out.alloc _) ⟨wr.heap.size, 0, none⟩ 1 1 [.string (s.extract q p)] rfl rfl (cell_one_new _ _ _) (by simp [Value.oneCell']) (by unfold maxLen; omega) (by omega) (by have := HR.out.2.size; simp; omega) ?_; intro v' w3 hown' hgrow _; have R1 := Lib.hid hown'; have R2 := Lib.hid ((HR.out.2.alloc HR.out.2.size _).grown hgrow (by have := HR.out.2.size; simp; omega) (fun g hg => (HOWN.out.lt g hg).1)); clear hown' hgrow)
        go_roundw
        case rel => exact ⟨k + 1, p, by omega, by go_num, rfl, by omega, HLA.out, by rw [HST.out]; exact strs_snoc (by rw [← HNEW.out]; simpa [strsV] using R1.out) HCL.out, R2.out⟩
        case measure => simp [intOf] <;> omega
      · obtain rfl : k = N := by omega
        have hcl : (cutsL s.data.toList 0 ps).length = k := by rw [cutsL_len, HN.out]
        have htk : ps.take k = ps := List.take_of_length_le (by rw [← HN.out]; exact Nat.le_refl _)
        have hown := HR.out.1
        rw [htk] at hown
        unfold Strs at hown
        rw [hcl] at hown
        have hq2 : q = ps.getLastD 0 := by have := HQ.out; rw [htk] at this; exact this
        have HFIN : Hid (partsL s.data.toList = cutsL s.data.toList 0 ps ++ [(s.data.toList.drop q).take (s.size - q)]) := by rw [HPS.out, cutsL_snoc, ← hq2]; exact rfl
        have hnew : Value.string (s.extract q s.size) = .string (bs ((s.data.toList.drop q).take (s.size - q))) := by rw [bs_eq (list_extract s q s.size)]
        have HNEW := Lib.hid hnew; have HCL := Lib.hid hcl; have HOWN := Lib.hid hown
        clear hnew hq2 hown htk hcl
        go_wp2_with (at_builtin; refine wpList_append_own _ rfl _ _ 22 rfl w1.heap.size 9 i0 (.string ⟨#[]⟩) 1 16 Try.underlying22 hi hz0 hz1 hz2 rfl (by decide) _ _ _ rfl (HOWN.out.alloc _) ⟨wr.heap.size, 0, none⟩ 1 1 [.string (s.extract q s.size)] rfl rfl (cell_one_new _ _ _) (by simp [Value.oneCell']) (by unfold maxLen; omega) (by omega) (by have := HR.out.2.size; simp; omega) ?_; intro v' w3 hown' hgrow _; have R1 := Lib.hid hown'; have R2 := Lib.hid ((HR.out.2.alloc HR.out.2.size _).grown hgrow (by have := HR.out.2.size; simp; omega) (fun g hg => (HOWN.out.lt g hg).1)); clear hown' hgrow)
        go_ret
        refine ⟨_, rfl, ?_, below_trans HB.out R2.out⟩
        rw [HFIN.out]
        exact own_mono (strs_snoc (by rw [← HNEW.out]; simpa [strsV] using R1.out) HCL.out) HB.out.size

theorem ints_pos {w : World} {B N : Nat} {v : Value} {ps : List Nat} (h : Ints w B v (natsI ps)) (hN : N = ps.length) (h1 : 1 ≤ N) :
    ∃ g cap, v = .slice (some ⟨g, 0, none⟩) N cap ∧ g < w.heap.size ∧ cap ≤ 9223372036854775807 ∧ N ≤ cap ∧ ∀ i (hi : i < ps.length), w.cell? ⟨g, i, none⟩ = some (.int .i64 (ps[i] : Nat)) := by
  have h0 := h
  rcases ints_open h with ⟨_, h2⟩ | ⟨g, cap, rfl, _, hg, _, hcp, hca, _⟩
  · have hl0 : ps.length = 0 := by rw [← natsI_len, h2]; rfl
    omega
  · have hl : (natsI ps).length = N := by rw [natsI_len, hN]
    rw [hl]
    refine ⟨g, cap, rfl, hg, hcp, ?_, fun i hi => ?_⟩
    · rw [← hl]
      rcases h0.2 with ⟨e, _⟩ | ⟨g1, c1, _, e, _, _, hnc, _⟩
      · cases e
      · cases e; exact hnc
    · have := hca i (by rw [natsI_len]; exact hi)
      simpa [natsI] using this

set_option maxHeartbeats 1000000 in
theorem cutAtSplits_any (s : ByteArray) (w : World) (hsp : sayB s.data.toList = true) (hs : s.size ≤ 120) :
    Calls Try.prog 59 #[.string s] w fun e w' => ∃ v, e = .returned v ∧ Strs w' w.heap.size v (partsL s.data.toList) ∧ Below w.heap.size w w' := by
  obtain ⟨i0, hi, hz0, hz1, hz2⟩ := info_parts info_str6
  obtain ⟨j0, ji, jz0, jz1, jz2⟩ := info_parts info_int5
  have HS := Lib.hid (fun (W : World) => splitPlaces_any s W hsp hs)
  obtain ⟨ps, hps⟩ : ∃ ps, ps = splitsL s.data.toList ++ [s.size] := ⟨_, rfl⟩
  have hsort : ps.Pairwise (· < ·) := by
    rw [hps, List.pairwise_append]
    refine ⟨splits_sorted _ _, by simp, fun a ha b hb => ?_⟩
    simp at hb; subst hb
    have := (splits_lt _ _ a ha).2; rw [size_list] at this; exact this
  have hlt : ∀ p ∈ ps, p ≤ s.size := by
    rw [hps]; intro p hp
    rw [List.mem_append] at hp
    rcases hp with hp | hp
    · have := (splits_lt _ _ p hp).2; rw [size_list] at this; omega
    · simp at hp; omega
  have hpl : (splitsL s.data.toList).length ≤ 120 := by have := splitsTo_len s.data.toList s.data.toList.length; rw [size_list] at this; unfold splitsL; rw [size_list]; omega
  have HPS : Hid (partsL s.data.toList = cutsL s.data.toList 0 ps) := by unfold partsL; rw [hps, size_list]; exact rfl
  have hnl : natsI ps = natsI (splitsL s.data.toList) ++ [(s.size : Int)] := by rw [hps]; simp [natsI]
  obtain ⟨N, hN⟩ : ∃ N, N = ps.length := ⟨_, rfl⟩
  have hN1 : N = (splitsL s.data.toList).length + 1 := by rw [hN, hps]; simp
  have hnl2 : (natsI (splitsL s.data.toList)).length + 1 = N := by rw [natsI_len]; omega
  have HSORT := Lib.hid hsort; have HLT := Lib.hid hlt; have HNL := Lib.hid hnl; have HN := Lib.hid hN; have HNL2 := Lib.hid hnl2
  have hN2 : N ≤ 121 := by omega
  have hN3 : 1 ≤ N := by omega
  have hxl : (natsI (splitsL s.data.toList)).length ≤ 120 := by rw [natsI_len]; omega
  clear hps hsort hlt hsp hpl hnl hN hN1 hnl2
  generalize natsI (splitsL s.data.toList) = xs at *
  go_enter Try.func59, Try.ntmps59
  go_wp2_with fail
  refine (HS.out w).mono ?_
  rintro e w1 ⟨vs, rfl, hv, hb⟩
  have HB := Lib.hid hb; have HV := Lib.hid hv
  clear hv hb
  have hsz1 := HB.out.size
  go_wp2_with (first
    | (at_builtin; refine wpList_append_own _ rfl (.tmp 9) (.tmp 12) 30 rfl w.heap.size 3 j0 (.int .i64 0) 1 8 Try.underlying30 ji jz0 jz1 jz2 rfl (by decide) _ _ _ rfl (HV.out.alloc _) ⟨w1.heap.size, 0, none⟩ 1 1 [.int .i64 (s.size : Int)] rfl rfl (cell_one_new _ _ _) (by simp [Value.oneCell']) (by unfold maxLen; omega) (by omega) (by simp; omega) ?_; intro v' w2 hown' hgrow _; have R2 := Lib.hid ((HB.out.alloc HB.out.size _).grown hgrow (by have := HB.out.size; simp; omega) (fun g hg => (HV.out.lt g hg).1)); obtain ⟨g, cap, rfl, hg, hcp, hNc, hca⟩ := ints_pos (N := N) (show Ints w2 w.heap.size v' (natsI ps) by rw [HNL.out]; unfold Ints; simpa using hown') HN.out hN3; have HCA := Lib.hid hca; clear hown' hgrow hca)
    | (refine wpList_make_own _ rfl _ _ 22 rfl w2.heap.size 9 i0 (.string ⟨#[]⟩) 1 Try.underlying22 hi hz0 hz1 .i64 .i64 (N : Int) N rfl rfl rfl (by rw [hz2]; omega) (by unfold maxLen; omega) (Nat.le_refl _) ?_; intro w3 hown hgr; have HO := Lib.hid hown; have HB3 := Lib.hid ((Below.refl w2.heap.size w2).grown hgr (Nat.le_refl _) (fun k h => by cases h)); clear hown hgr))
  have HBW3 := Lib.hid (R2.out.trans (HB3.out.mono R2.out.size))
  go_loopw [4, 5, 19] (fun v f i wr => ∃ (k q : Nat), k ≤ N ∧ i = .int .i64 k ∧ f = .int .i64 q ∧ q ≤ s.size ∧ Hid (q = (ps.take k).getLastD 0) ∧ Hid (Strs wr w2.heap.size v (cutsL s.data.toList 0 (ps.take k)) ∧ Below w2.heap.size w2 wr)) (fun _ _ i _ => N - (intOf i).toNat)
  case atStart => exact ⟨0, 0, Nat.zero_le _, rfl, rfl, Nat.zero_le _, rfl, HO.out, HB3.out⟩
  case round =>
    obtain ⟨k, q, hk, rfl, rfl, hq, HQ, HR⟩ := hrel
    have hszw : w2.heap.size ≤ wr.heap.size := HR.out.2.size
    by_cases hlt : k < N
    · have hlt' : k < ps.length := by rw [← HN.out]; exact hlt
      have hc0 := (HR.out.2.cell (p := ⟨g, k, none⟩) hg).trans (HCA.out k hlt')
      have hqp : q ≤ ps[k] := by rw [HQ.out]; exact last_take_lt HSORT.out k hlt'
      have hpn : ps[k] ≤ s.size := HLT.out _ (List.getElem_mem _)
      have htk : ps.take (k + 1) = ps.take k ++ [ps[k]] := List.take_succ_eq_append_getElem hlt'
      have hst : cutsL s.data.toList 0 (ps.take (k + 1)) = cutsL s.data.toList 0 (ps.take k) ++ [(s.data.toList.drop q).take (ps[k] - q)] := by rw [htk, cutsL_snoc, ← HQ.out]
      have hlast : ps[k] = (ps.take (k + 1)).getLastD 0 := by rw [htk, List.getLastD_concat]
      have hcl : (cutsL s.data.toList 0 (ps.take k)).length = k := by rw [cutsL_len, List.length_take]; omega
      have HST := Lib.hid hst; have HLA := Lib.hid hlast; have HCL := Lib.hid hcl
      have hown := HR.out.1
      unfold Strs at hown
      rw [hcl] at hown
      have HOWN := Lib.hid hown
      clear htk hst hlast hcl hown
      generalize ps[k] = p at *
      have hnew : Value.string (s.extract q p) = .string (bs ((s.data.toList.drop q).take (p - q))) := by rw [bs_eq (list_extract s q p)]
      have hxs : (s.extract q p).size ≤ 120 := by rw [← size_list, list_extract, List.length_take]; omega
      have HNEW := Lib.hid hnew; clear hnew
      have hpi : (q : Int) ≤ (p : Int) := by omega
      have hpi2 : (p : Int) ≤ (s.size : Int) := by omega
      go_wp2_with fail
      refine (clone_any6 _ _ (by omega)).mono ?_
      rintro e w4 ⟨rfl, hb4⟩
      have HO4 := Lib.hid (own_below HOWN.out hb4); have HB4 := Lib.hid (HR.out.2.trans (hb4.mono HR.out.2.size))
      clear hb4
      go_wp2_with (at_builtin; refine wpList_append_own _ rfl _ _ 22 rfl w2.heap.size 9 i0 (.string ⟨#[]⟩) 1 16 Try.underlying22 hi hz0 hz1 hz2 rfl (by decide) _ _ _ rfl (HO4.out.alloc _) ⟨w4.heap.size, 0, none⟩ 1 1 [.string (s.extract q p)] rfl rfl (cell_one_new _ _ _) (by simp [Value.oneCell']) (by unfold maxLen; omega) (by omega) (by have := HB4.out.size; simp; omega) ?_; intro v' w5 hown' hgrow _; have R4 := Lib.hid hown'; have R5 := Lib.hid ((HB4.out.alloc HB4.out.size _).grown hgrow (by have := HB4.out.size; simp; omega) (fun g hg => (HO4.out.lt g hg).1)); clear hown' hgrow)
      go_roundw
      case rel => exact ⟨k + 1, p, by omega, by go_num, rfl, by omega, HLA.out, by rw [HST.out]; exact strs_snoc (by rw [← HNEW.out]; simpa [strsV] using R4.out) HCL.out, R5.out⟩
      case measure => simp [intOf] <;> omega
    · obtain rfl : k = N := by omega
      go_wp2_with fail
      go_ret
      refine ⟨_, rfl, ?_, R2.out.trans (HR.out.2.mono R2.out.size)⟩
      have := HR.out.1
      rw [List.take_of_length_le (by rw [← HN.out]; exact Nat.le_refl _), ← HPS.out] at this
      exact own_mono this R2.out.size
end Go.Proofs.Ytgmknehioadjhaa
