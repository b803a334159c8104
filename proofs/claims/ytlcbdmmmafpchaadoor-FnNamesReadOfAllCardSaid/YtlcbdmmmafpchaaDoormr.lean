/- Chapter 8: ReadName of the model. -/
import Derived.Test.YtlcbdmmmafpchaaDoormq
namespace Go.Proofs.YtlcbdmmmafpchaaDoor
open Go.RowKit Go.BigFrame
set_option linter.unusedSimpArgs false
set_option linter.unusedVariables false
set_option maxRecDepth 4000

theorem bs_eqL (a b : List UInt8) : ((bs a).toList == b) = decide (a = b) := by
  rw [Go.Lib.toList_data, bs_list]
  by_cases h : a = b
  · simp [h]
  · rw [decide_eq_false h]; simpa using h
theorem readW_at (ws : List (List UInt8)) (k : Nat) (hk : k < ws.length) : readW ws (ws.length - k) =
    if ws.getD k [] = thousandL then
      (if k + 1 < ws.length ∧ (if k + 1 < ws.length then hundF (joinS (ws.drop (k + 1))) else 0) = 0 then -1
       else if hundF (joinS (ws.take k)) < 1 ∨ (if k + 1 < ws.length then hundF (joinS (ws.drop (k + 1))) else 0) < 0 then -1
       else 1000 * hundF (joinS (ws.take k)) + (if k + 1 < ws.length then hundF (joinS (ws.drop (k + 1))) else 0))
    else readW ws (ws.length - (k + 1)) := by
  obtain ⟨f, hf⟩ : ∃ f, ws.length - k = f + 1 := ⟨ws.length - k - 1, by omega⟩
  rw [hf]
  conv => lhs; unfold readW
  simp only
  rw [show ws.length - (f + 1) = k by omega, show ws.length - (k + 1) = f by omega]
theorem joinS_drop_le (ls : List (List UInt8)) : ∀ k, (joinS (ls.drop k)).length ≤ (joinS ls).length := by
  intro k
  induction k with
  | zero => exact Nat.le_refl _
  | succ k ih =>
    refine Nat.le_trans ?_ ih
    by_cases h : k < ls.length
    · rw [List.drop_eq_getElem_cons h]
      cases hd : ls.drop (k + 1) with
      | nil => simp [joinS]
      | cons a t => rw [joinS_cons ls[k] (a :: t) (by simp)]; simp only [List.length_append]; omega
    · rw [List.drop_of_length_le (by omega), List.drop_of_length_le (by omega)]; exact Nat.le_refl _
theorem txtAt_take {w : World} {g c : Nat} {ls : List (List UInt8)} (hc : ls.length ≤ c) (h9 : c ≤ 9223372036854775807) (hg : g < w.heap.size) (h : ∀ i (hi : i < ls.length), w.cell? ⟨g, i, none⟩ = some (.string (bs ls[i]))) (k : Nat) (hk : k ≤ ls.length) : TxtAt w (.slice (some ⟨g, 0, none⟩) k c) (ls.take k) := by
  have e : (ls.take k).length = k := by rw [List.length_take]; omega
  refine ⟨_, c, by rw [e], by omega, h9, fun i hi => ⟨g, 0, rfl, hg, ?_⟩⟩
  rw [Nat.zero_add, h i (by omega)]; simp
theorem txtAt_drop {w : World} {g c : Nat} {ls : List (List UInt8)} (hc : ls.length ≤ c) (h9 : c ≤ 9223372036854775807) (hg : g < w.heap.size) (h : ∀ i (hi : i < ls.length), w.cell? ⟨g, i, none⟩ = some (.string (bs ls[i]))) (k : Nat) : TxtAt w (.slice (some ⟨g, k, none⟩) (ls.length - k) (c - k)) (ls.drop k) := by
  refine ⟨_, c - k, by rw [List.length_drop], by rw [List.length_drop]; omega, by omega, fun i hi => ⟨g, k, rfl, hg, ?_⟩⟩
  rw [List.length_drop] at hi
  rw [h (k + i) (by omega)]; simp

set_option maxHeartbeats 4000000 in
set_option maxRecDepth 100000 in
theorem naRead_any (s : List UInt8) (w : World) (hs : s.length ≤ 9223372036854775807) :
    Calls Tryd.prog 70 #[.string (bs s)] w fun e w' => e = .returned (.int .i64 (readZ s)) ∧ Below w.heap.size w w' := by
  have hbs : (bs s).size = s.length := bs_size _
  by_cases h120 : 120 < s.length
  · have e : readZ s = -1 := by unfold readZ; rw [if_pos h120]
    rw [e]
    have hz : ((s.length : Nat) : Int) > 120 := by omega
    have hz2 : 120 < ((s.length : Nat) : Int) := by omega
    clear e h120
    go_enter Tryd.func70, Tryd.ntmps70
    go_wp2_with fail
    go_ret
    exact ⟨rfl, below_refl _⟩
  · have hsp := fun (W : World) => l1Split_any s 32 W (by omega)
    obtain ⟨ws, hws⟩ : ∃ ws, ws = splitL 32 s := ⟨_, rfl⟩
    obtain ⟨M, hM⟩ : ∃ M, M = ws.length := ⟨_, rfl⟩
    have hM121 : M ≤ 121 := by
      rw [hM, hws, splitL_len]
      have := List.count_le_length (a := (32 : UInt8)) (l := s)
      omega
    have hj : (joinS ws).length ≤ 200 := by rw [hws, join_split]; omega
    obtain ⟨R, hR⟩ : ∃ R, R = readZ s := ⟨_, rfl⟩
    have hR0 : R = readW ws (M - 0) := by rw [hR, Nat.sub_zero, hM, hws]; unfold readZ; rw [if_neg h120]
    have hat := fun k hk => readW_at ws k hk
    rw [← hws, ← hM] at hsp
    rw [← hM] at hat
    rw [← hR]
    have HSP := Lib.hid hsp; have HR0 := Lib.hid hR0; have HAT := Lib.hid hat; have HM := Lib.hid hM; have HJ := Lib.hid hj
    have hz : ¬ ((s.length : Nat) : Int) > 120 := by omega
    have hz2 : ¬ 120 < ((s.length : Nat) : Int) := by omega
    have hne : 0 < M := by rw [hM, hws, splitL_len]; omega
    clear hsp hR0 hat hM hj hR hws h120 hs
    go_enter Tryd.func70, Tryd.ntmps70
    go_wp2_with fail
    refine (HSP.out _).mono ?_
    rintro e w1 ⟨q, d, rfl, hstr, hb⟩
    obtain ⟨g, c, hv, _, hg, hlc, hcm, hcell⟩ := strs_parts hstr (by intro e; have := HM.out; rw [e] at this; simp at this; omega)
    injection hv with hv1 hv2 hv3
    subst hv1; subst hv3
    clear hv2
    unfold maxLen at hcm
    have hlc2 : M ≤ d := by rw [HM.out]; exact hlc
    have HB := Lib.hid hb; have HC := Lib.hid hcell; have HLC := Lib.hid hlc
    clear hb hcell hstr hlc
    go_wp2_with fail
    go_loopw [4, 5, 6, 7, 15] (fun iv wv hv lv kv wr => ∃ (k : Nat), k ≤ M ∧ kv = .int .i64 (k : Int) ∧ Hid (R = readW ws (M - k) ∧ wr = w1)) (fun _ _ _ _ kv _ => M - (intOf kv).toNat)
    case atStart => exact ⟨0, Nat.zero_le _, rfl, HR0.out, rfl⟩
    case round =>
      obtain ⟨k, hk, rfl, HX⟩ := hrel
      obtain rfl := HX.out.2
      by_cases hlt : k < M
      · have hk' : k < ws.length := by rw [← HM.out]; exact hlt
        have hcw := HC.out k hk'
        have hst := HAT.out k hlt
        rw [← HX.out.1] at hst
        obtain ⟨x, hx⟩ : ∃ x, x = ws[k] := ⟨_, rfl⟩
        rw [show ws.getD k [] = x from by rw [hx]; simp [List.getD, hk']] at hst
        rw [← hx] at hcw
        have hq0 : ((bs x).toList == [116, 104, 111, 117, 115, 97, 110, 100]) = decide (x = thousandL) := bs_eqL x thousandL
        by_cases hxt : x = thousandL
        · rw [if_pos hxt] at hst
          rw [decide_eq_true hxt] at hq0
          have hT := fun (W : World) (hW : Below wr.heap.size wr W) => naHundreds_any W _ (ws.take k) (txtAt_below (txtAt_take HLC.out hcm hg HC.out k (by omega)) hW) (Nat.le_trans (joinS_take_le ws k (by omega)) HJ.out) (by rw [List.length_take, ← HM.out]; omega)
          have hD := fun (W : World) (hW : Below wr.heap.size wr W) => naHundreds_any W _ (ws.drop (k + 1)) (txtAt_below (txtAt_drop HLC.out hcm hg HC.out (k + 1)) hW) (Nat.le_trans (joinS_drop_le ws (k + 1)) HJ.out) (by rw [List.length_drop, ← HM.out]; omega)
          obtain ⟨H, hH⟩ : ∃ H, H = hundF (joinS (ws.take k)) := ⟨_, rfl⟩
          obtain ⟨L, hL⟩ : ∃ L, L = hundF (joinS (ws.drop (k + 1))) := ⟨_, rfl⟩
          have hHb := hundF_le (joinS (ws.take k))
          have hLb := hundF_le (joinS (ws.drop (k + 1)))
          rw [← hH] at hT hst hHb; rw [← hL] at hD hst hLb
          obtain ⟨k1, hk1⟩ : ∃ k1, k1 = k + 1 := ⟨_, rfl⟩
          rw [← hk1, ← HM.out] at hD
          rw [← hk1] at hst
          have hkz : (k : Int) + 1 = (k1 : Int) := by omega
          have hkd : k ≤ d := by omega
          obtain ⟨hH1, hH2⟩ := hHb
          obtain ⟨hL1, hL2⟩ := hLb
          have HT := Lib.hid hT; have HD := Lib.hid hD; have HK := Lib.hid hk1
          have hk0 : 0 < k1 := by omega
          by_cases hmore : k1 < M
          · rw [if_pos hmore] at hst
            have hmz : (k1 : Int) < (M : Int) := by omega
            have hkd1 : k1 ≤ d := by omega
            have hkd2 : ¬ d = k1 := by omega
            have hkM : k1 ≤ M := by omega
            by_cases hl0 : L = 0
            · rw [if_pos ⟨hmore, hl0⟩] at hst
              have HST := Lib.hid hst
              have hl0z : (L == 0) = true := by rw [hl0]; rfl
              clear hst hT hD hk1 hH hL hx hxt hl0
              go_wp2_with fail
              refine (HT.out _ (below_refl _)).mono ?_
              rintro e w2 ⟨rfl, hb⟩
              have HB2 := Lib.hid hb; clear hb
              go_wp2_with fail
              refine (HD.out _ HB2.out).mono ?_
              rintro e w3 ⟨rfl, hb⟩
              have HB3 := Lib.hid (below_trans HB2.out hb); clear hb
              go_wp2_with fail
              go_ret
              exact ⟨ret_int HST.out.symm, below_trans HB.out HB3.out⟩
            · rw [if_neg (fun e => hl0 e.2)] at hst
              have hl0z : (L == 0) = false := beq_false_of_ne hl0
              by_cases hh1 : H < 1
              · rw [if_pos (.inl hh1)] at hst
                have HST := Lib.hid hst
                clear hst hT hD hk1 hH hL hx hxt hl0
                go_wp2_with fail
                refine (HT.out _ (below_refl _)).mono ?_
                rintro e w2 ⟨rfl, hb⟩
                have HB2 := Lib.hid hb; clear hb
                go_wp2_with fail
                refine (HD.out _ HB2.out).mono ?_
                rintro e w3 ⟨rfl, hb⟩
                have HB3 := Lib.hid (below_trans HB2.out hb); clear hb
                go_wp2_with fail
                go_ret
                exact ⟨ret_int HST.out.symm, below_trans HB.out HB3.out⟩
              · by_cases hl1 : L < 0
                · rw [if_pos (.inr hl1)] at hst
                  have HST := Lib.hid hst
                  clear hst hT hD hk1 hH hL hx hxt hl0
                  go_wp2_with fail
                  refine (HT.out _ (below_refl _)).mono ?_
                  rintro e w2 ⟨rfl, hb⟩
                  have HB2 := Lib.hid hb; clear hb
                  go_wp2_with fail
                  refine (HD.out _ HB2.out).mono ?_
                  rintro e w3 ⟨rfl, hb⟩
                  have HB3 := Lib.hid (below_trans HB2.out hb); clear hb
                  go_wp2_with fail
                  go_ret
                  exact ⟨ret_int HST.out.symm, below_trans HB.out HB3.out⟩
                · rw [if_neg (fun e => by rcases e with e | e <;> omega)] at hst
                  have HST := Lib.hid hst
                  have hg1 : 0 ≤ H := by omega
                  have hg2 : 0 ≤ L := by omega
                  clear hst hT hD hk1 hH hL hx hxt hl0
                  go_wp2_with fail
                  refine (HT.out _ (below_refl _)).mono ?_
                  rintro e w2 ⟨rfl, hb⟩
                  have HB2 := Lib.hid hb; clear hb
                  go_wp2_with fail
                  refine (HD.out _ HB2.out).mono ?_
                  rintro e w3 ⟨rfl, hb⟩
                  have HB3 := Lib.hid (below_trans HB2.out hb); clear hb
                  go_wp2_with fail
                  go_ret
                  exact ⟨ret_int HST.out.symm, below_trans HB.out HB3.out⟩
          · rw [if_neg hmore, if_neg (fun e => hmore e.1)] at hst
            have hmz : ¬ (k1 : Int) < (M : Int) := by omega
            by_cases hh1 : H < 1
            · rw [if_pos (.inl hh1)] at hst
              have HST := Lib.hid hst
              clear hst hT hD hk1 hH hL hx hxt
              go_wp2_with fail
              refine (HT.out _ (below_refl _)).mono ?_
              rintro e w2 ⟨rfl, hb⟩
              have HB2 := Lib.hid hb; clear hb
              go_wp2_with fail
              go_ret
              exact ⟨ret_int HST.out.symm, below_trans HB.out HB2.out⟩
            · rw [if_neg (fun e => by rcases e with e | e <;> omega)] at hst
              have HST := Lib.hid (show R = 1000 * H by omega)
              have hg1 : 0 ≤ H := by omega
              clear hst hT hD hk1 hH hL hx hxt
              go_wp2_with fail
              refine (HT.out _ (below_refl _)).mono ?_
              rintro e w2 ⟨rfl, hb⟩
              have HB2 := Lib.hid hb; clear hb
              go_wp2_with fail
              go_ret
              exact ⟨ret_int (by have := HST.out; omega), below_trans HB.out HB2.out⟩
        · rw [if_neg hxt] at hst
          rw [decide_eq_false hxt] at hq0
          have HST := Lib.hid hst
          clear hst hx hxt
          go_wp2_with fail
          go_roundw
          case rel => exact ⟨k + 1, by omega, by go_num, HST.out, trivial⟩
          case measure => simp [intOf] <;> omega
      · obtain rfl : k = M := by omega
        have hrz : R = hundF (joinS ws) := by rw [HX.out.1, Nat.sub_self]; rfl
        have hA := naHundreds_any wr _ ws (by
          have := txtAt_take HLC.out hcm hg HC.out ws.length (Nat.le_refl _)
          rw [List.take_of_length_le (Nat.le_refl _)] at this
          exact this) HJ.out (by rw [← HM.out]; omega)
        rw [← hrz, ← HM.out] at hA
        have HA := Lib.hid hA
        clear hA hrz
        go_wp2_with fail
        refine HA.out.mono ?_
        rintro e w2 ⟨rfl, hb⟩
        have HB2 := Lib.hid (below_trans HB.out hb); clear hb
        go_wp2_with fail
        go_ret
        exact ⟨rfl, HB2.out⟩

def readI (s : List UInt8) : Int := optI' (readO s)
  where optI' : Option Nat → Int
    | some n => (n : Int)
    | none => 0

set_option maxHeartbeats 1000000 in
theorem specReadName_any (s : List UInt8) (hs : s.length ≤ 9223372036854775807) (w : World) :
    Calls Tryd.prog 28 #[.string (bs s)] w fun e w' => e = .returned (.tuple #[.int .i64 (readI s), .bool (readO s).isSome]) ∧ Below w.heap.size w w' := by
  have H := Lib.hid (naRead_any s w hs)
  by_cases h : 0 ≤ readZ s
  · obtain ⟨m, hm⟩ := Int.eq_ofNat_of_zero_le h
    have e : readO s = some m := by unfold readO; rw [if_pos h, hm]; rfl
    have e1 : readI s = (m : Int) := by unfold readI; rw [e]; rfl
    rw [e1, e]
    rw [hm] at H
    have hz : ¬ (m : Int) < 0 := by omega
    clear e e1 h hm
    go_enter Tryd.func28, Tryd.ntmps28
    go_wp2_with fail
    refine H.out.mono ?_
    rintro e w1 ⟨rfl, hb⟩
    have HB := Lib.hid hb; clear hb
    go_wp2_with fail
    go_ret2
    exact ⟨rfl, HB.out⟩
  · have e : readO s = none := by unfold readO; rw [if_neg h]
    have e1 : readI s = 0 := by unfold readI; rw [e]; rfl
    rw [e1, e]
    generalize readZ s = z at *
    have hz : z < 0 := by omega
    clear e e1 h
    go_enter Tryd.func28, Tryd.ntmps28
    go_wp2_with fail
    refine H.out.mono ?_
    rintro e w1 ⟨rfl, hb⟩
    have HB := Lib.hid hb; clear hb
    go_wp2_with fail
    go_ret2
    exact ⟨rfl, HB.out⟩
end Go.Proofs.YtlcbdmmmafpchaaDoor
