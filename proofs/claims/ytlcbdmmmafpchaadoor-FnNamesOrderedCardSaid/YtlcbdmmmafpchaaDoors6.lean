/- The library's stable sort: symMergeCmpFunc where one part is a single element. -/
import Derived.Test.YtlcbdmmmafpchaaDoors5
namespace Go.Proofs.YtlcbdmmmafpchaaDoor
open Go.RowKit Go.BigFrame
set_option linter.unusedSimpArgs false
set_option linter.unusedVariables false
set_option maxRecDepth 4000

theorem insT_up (P S R : List Int) (x : Int) (t j j1 : Nat) (ht : t < S.length) (hj : j = P.length + t) (hj1 : j1 = P.length + t + 1) : swpL (P ++ insT S x t ++ R) j j1 = P ++ insT S x (t + 1) ++ R := by
  have e : P ++ insT S x t ++ R = (P ++ S.take t) ++ x :: ([] ++ S[t] :: (S.drop (t + 1) ++ R)) := by
    unfold insT; rw [show S.drop t = S[t] :: S.drop (t + 1) from List.drop_eq_getElem_cons ht]; simp only [List.append_assoc, List.cons_append, List.nil_append]
  rw [e, swpL_parts _ _ _ _ _ _ _ (by rw [List.length_append, List.length_take]; omega) (by rw [List.length_append, List.length_take]; simp; omega)]
  unfold insT; rw [List.take_succ_eq_append_getElem ht]; simp only [List.append_assoc, List.cons_append, List.nil_append]
theorem getD_in (P S R : List Int) (j t : Nat) (ht : t < S.length) (hj : j = P.length + t) : (P ++ S ++ R).getD j 0 = S[t] := by
  rw [List.append_assoc, List.getD_eq_getElem?_getD, List.getElem?_append_right (by omega), show j - P.length = t by omega, List.getElem?_append_left ht, List.getElem?_eq_getElem ht]; rfl

/-- What symMerge is asked. -/
structure SymIn (b n c : Nat) (D : Int → Prop) (lt : Int → Int → Bool) (P L M Q : List Int) (a m e : Nat) : Prop where
  ha : a = P.length
  hm : m = P.length + L.length
  he : e = P.length + L.length + M.length
  hn : n = P.length + L.length + M.length + Q.length
  hL : 0 < L.length
  hM : 0 < M.length
  sL : Srt lt L
  sM : Srt lt M
  less : ∀ x ∈ L, ∀ y ∈ M, x < y
  dL : ∀ x ∈ L, D x
  dM : ∀ x ∈ M, D x
  n4 : n ≤ 4000
  cap : n ≤ c
  max : c ≤ maxLen

set_option maxHeartbeats 8000000 in
set_option maxRecDepth 100000 in
theorem symOneL_any (g : Nat) (lb : Array Value) (D : Int → Prop) (lt : Int → Int → Bool) (cv : Int → Int → Int) (o : Ord1 lt) (w : World) (b n c : Nat) (P L M Q : List Int) (a m e : Nat) (hI : SymIn b n c D lt P L M Q a m e)
    (h1 : L.length = 1) (h : RowB w b (P ++ L ++ M ++ Q)) (HC : CmpAt g lb b D lt cv w) :
    Calls Tryd.prog 117 #[.slice (some ⟨b, 0, none⟩) n c, .int .i64 (a : Int), .int .i64 (m : Int), .int .i64 (e : Int), .func (.func g) #[] lb] w fun z w' => z = .returned (.tuple #[]) ∧ (∃ S, Mrg lt L M S ∧ RowB w' b (P ++ S ++ Q)) ∧ Only b w w' := by
  have hcm := hI.max
  unfold maxLen at hcm
  have hcap := hI.cap; have hn4 := hI.n4
  obtain ⟨x, rfl⟩ : ∃ x, L = [x] := List.length_eq_one_iff.1 h1
  have heg := HC.eg
  have HI := Lib.hid hI; have HCM := Lib.hid HC
  have hma : m = a + 1 := by have := hI.ha; have := hI.hm; simp at this; omega
  have hmz : (m : Int) - (a : Int) = 1 := by omega
  have hme : m + M.length = e := by have := hI.he; have := hI.hm; omega
  have hme' : m ≤ e := by omega
  have hen : e ≤ n := by have := hI.he; have := hI.hn; omega
  have hrow : P ++ [x] ++ M ++ Q = P ++ insT M x 0 ++ Q := by simp [insT]
  have H0 : Hid (RowB w b (P ++ insT M x 0 ++ Q)) := by rw [← hrow]; exact h
  have HMA := Lib.hid hma; have HME := Lib.hid hme
  have hma' : a < m := by omega
  have hlen : ∀ t, (P ++ insT M x t ++ Q).length = n := by
    intro t
    have := hI.hn
    rw [List.length_append, List.length_append, insT_len]; simp at this; omega
  have HLEN := Lib.hid hlen
  clear hI HC h h1 hrow hma hme hlen
  go_enter Tryd.func117, Tryd.ntmps117
  go_wp2_with fail
  go_loopw [10, 11] (fun iv jv wr => ∃ (i j : Nat), iv = .int .i64 (i : Int) ∧ jv = .int .i64 (j : Int) ∧ m ≤ i ∧ i ≤ j ∧ j ≤ e ∧ Hid (RowB wr b (P ++ insT M x 0 ++ Q) ∧ Only b w wr ∧ (i = m ∨ ∃ h : i - 1 - m < M.length, lt M[i - 1 - m] x = true) ∧ (j = e ∨ ∃ h : j - m < M.length, lt x M[j - m] = true))) (fun iv jv _ => (intOf jv).toNat - (intOf iv).toNat)
  case atStart => exact ⟨m, e, rfl, rfl, Nat.le_refl _, hme', Nat.le_refl _, H0.out, only_refl _ _, .inl rfl, .inl rfl⟩
  case round =>
    obtain ⟨i, j, rfl, rfl, hmi, hij, hje, HR⟩ := hrel
    by_cases hlt : i < j
    · obtain ⟨h, hh⟩ : ∃ h, h = (i + j) / 2 := ⟨_, rfl⟩
      have hh1 : i ≤ h := by omega
      have hh2 : h < j := by omega
      have hhz : ((i : Int) + (j : Int)) / 2 = (h : Int) := by omega
      have hhM : h - m < M.length := by have := HME.out; omega
      have hhn : h < n := by omega
      have han : a < n := by omega
      have hpa := HI.out.ha
      have hma := HMA.out
      have hc1 := HR.out.1.cell h (by rw [HLEN.out]; exact hhn)
      have hc2 := HR.out.1.cell a (by rw [HLEN.out]; exact han)
      rw [show P ++ insT M x 0 ++ Q = (P ++ [x]) ++ M ++ Q by simp [insT], getD_in (P ++ [x]) M Q h (h - m) hhM (by simp; omega)] at hc1
      rw [insT_here P M Q x 0 a (by omega) (by omega)] at hc2
      have hyM := List.getElem_mem hhM
      have hDx := HI.out.dL x (by simp)
      have hDy := HI.out.dM _ hyM
      have hxy := HI.out.less x (by simp) _ hyM
      have hsays := HCM.out.says _ _ hDy hDx hxy
      have hcall := fun q => HCM.out.call (wr.drewN q) (only_t HR.out.2.1 (only_drewN _ _ _)) _ _ hDy hDx
      have HUP : Hid (lt M[h - m] x = true → ∃ h' : h + 1 - 1 - m < M.length, lt M[h + 1 - 1 - m] x = true) := fun e => ⟨by omega, by simpa using e⟩
      have HDN : Hid (lt M[h - m] x = false → ∃ h' : h - m < M.length, lt x M[h - m] = true) := fun e => ⟨hhM, by
        rcases o.tot M[h - m] x (by omega) with f | f
        · rw [e] at f; cases f
        · exact f⟩
      have HRR : Hid (RowB wr b (P ++ insT M x 0 ++ Q) ∧ Only b w wr) := ⟨HR.out.1, HR.out.2.1⟩
      have HRI := Lib.hid HR.out.2.2
      obtain ⟨y, hy⟩ : ∃ y, y = M[h - m] := ⟨_, rfl⟩
      rw [← hy] at hc1 hsays hcall HUP HDN
      generalize cv y x = z at *
      have HCALL := Lib.hid hcall
      have hcmz : c ≤ 9223372036854775807 := by omega
      clear hcall hyM hDx hDy hxy hy hpa hma HR hh hhM
      cases hl : lt y x with
      | true =>
        have hz : z < 0 := hsays.2 hl
        have HB := Lib.hid (HUP.out hl)
        clear hsays HUP HDN hl
        go_wp2_with fail
        go_quiet (first | (go_at_fn g; exact Calls.quiet_of (HCALL.out _)))
        go_wp2_with fail
        go_roundw
        case rel => exact ⟨h + 1, j, by go_num, rfl, by omega, by omega, hje, rowB_drewN HRR.out.1, only_t HRR.out.2 (only_drewN _ _ _), .inr HB.out, HRI.out.2⟩
        case measure => simp [intOf] <;> omega
      | false =>
        have hz : ¬ z < 0 := fun e => by have := hsays.1 e; rw [hl] at this; cases this
        have HB := Lib.hid (HDN.out hl)
        clear hsays HUP HDN hl
        go_wp2_with fail
        go_quiet (first | (go_at_fn g; exact Calls.quiet_of (HCALL.out _)))
        go_wp2_with fail
        go_roundw
        case rel => exact ⟨i, h, by go_num, by go_num, hmi, hh1, by omega, rowB_drewN HRR.out.1, only_t HRR.out.2 (only_drewN _ _ _), HRI.out.1, .inr HB.out⟩
        case measure => simp [intOf] <;> omega
    · obtain rfl : i = j := by omega
      obtain ⟨t, ht⟩ : ∃ t, i = m + t := ⟨i - m, by omega⟩
      have htM : t ≤ M.length := by have := HME.out; omega
      have hmg := mrg_one_left (x := x) HI.out.sM o t htM (by
        rcases HR.out.2.2.1 with f | ⟨f1, f2⟩
        · exact .inl (by omega)
        · refine .inr ⟨by omega, ?_⟩
          have e1 : t - 1 = i - 1 - m := by omega
          rw [getElem_congr_idx e1]; exact f2) (by
        rcases HR.out.2.2.2 with f | ⟨f1, f2⟩
        · exact .inl (by have := HME.out; omega)
        · refine .inr ⟨by omega, ?_⟩
          have e1 : t = i - m := by omega
          rw [getElem_congr_idx e1]; exact f2)
      have HMG : Hid (Mrg lt [x] M (insT M x t)) := hmg
      have HRR : Hid (RowB wr b (P ++ insT M x 0 ++ Q) ∧ Only b w wr) := ⟨HR.out.1, HR.out.2.1⟩
      obtain ⟨i1, hi1⟩ : ∃ i1, i = i1 + 1 := ⟨i - 1, by omega⟩
      have hiz : (i : Int) - 1 = (i1 : Int) := by omega
      have hi1n : i1 < n := by omega
      have hai1 : a ≤ i1 := by omega
      have HIT : Hid (i1 = a + t ∧ t ≤ M.length) := ⟨by have := HMA.out; omega, htM⟩
      obtain ⟨wo, hwo⟩ : ∃ wo : World, wo = wr := ⟨_, rfl⟩
      have han : a ≤ 4000 := by omega
      clear hmg HR ht htM hi1 hwo hlt
      go_wp2_with fail
      go_loopw [13] (fun kv wr => ∃ (k u : Nat), kv = .int .i64 (k : Int) ∧ a ≤ k ∧ k ≤ i1 ∧ Hid (k = a + u ∧ u ≤ t ∧ RowB wr b (P ++ insT M x u ++ Q) ∧ Only b w wr)) (fun kv _ => i1 - (intOf kv).toNat)
      case atStart => exact ⟨a, 0, rfl, Nat.le_refl _, hai1, rfl, Nat.zero_le _, HRR.out.1, HRR.out.2⟩
      case round =>
        obtain ⟨k, u, rfl, hak, hki, HK⟩ := hrel
        by_cases hlt : k < i1
        · obtain ⟨k1, hk1⟩ : ∃ k1, k1 = k + 1 := ⟨_, rfl⟩
          have hkz : (k : Int) + 1 = (k1 : Int) := by omega
          have hut : u < t := by have := HIT.out.1; have := HK.out.1; omega
          have huM : u < M.length := by have := HIT.out.2; omega
          have hkn : k < n := by omega
          have hk1n : k1 < n := by omega
          have hne : k ≠ k1 := by omega
          have hne' : k1 ≠ k := by omega
          have hpa := HI.out.ha
          have hku := HK.out.1
          have hc1 := HK.out.2.2.1.cell k (by rw [HLEN.out]; exact hkn)
          have hc2 := HK.out.2.2.1.cell k1 (by rw [HLEN.out]; exact hk1n)
          have hf1 := HK.out.2.2.1.free k (by rw [HLEN.out]; exact hkn)
          have hf2 := HK.out.2.2.1.free k1 (by rw [HLEN.out]; exact hk1n)
          have hsw := rowB_swap HK.out.2.2.1 k k1 (by rw [HLEN.out]; exact hkn) (by rw [HLEN.out]; exact hk1n)
          rw [insT_up P M Q x u k k1 huM (by omega) (by omega)] at hsw
          generalize (P ++ insT M x u ++ Q).getD k 0 = v1 at *
          generalize (P ++ insT M x u ++ Q).getD k1 0 = v2 at *
          have HSW := Lib.hid hsw
          have HKU : Hid (k1 = a + (u + 1) ∧ u + 1 ≤ t ∧ Only b w wr) := ⟨by omega, hut, HK.out.2.2.2⟩
          have hk1i : k1 ≤ i1 := by omega
          have hak1 : a ≤ k1 := by omega
          clear hsw hpa hku hut huM HK hk1
          go_wp2_with fail
          go_region
          go_wp2_with fail
          go_roundw
          case rel => exact ⟨k1, u + 1, by go_num, hak1, hk1i, HKU.out.1, HKU.out.2.1, rowB_drew HSW.out, only_t HKU.out.2.2 (only_t (only_t (only_set b k _ _) (only_set b k1 _ _)) (only_drew _ _))⟩
          case measure => simp [intOf] <;> omega
        · have HF : Hid (RowB wr b (P ++ insT M x t ++ Q) ∧ Only b w wr) := by
            have e1 : u = t := by have := HK.out.1; have := HIT.out.1; have := HK.out.2.1; omega
            have := HK.out.2.2
            rw [e1] at this; exact this
          clear HK
          go_wp2_with fail
          refine bodyPost_ret (results_none rfl _ _ _) rfl ?_
          exact ⟨rfl, ⟨_, HMG.out, HF.out.1⟩, HF.out.2⟩
end Go.Proofs.YtlcbdmmmafpchaaDoor
