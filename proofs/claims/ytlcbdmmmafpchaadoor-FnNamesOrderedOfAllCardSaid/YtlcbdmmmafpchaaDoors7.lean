/- The library's stable sort: symMergeCmpFunc where the right part is a single element. -/
import Derived.Test.YtlcbdmmmafpchaaDoors6
namespace Go.Proofs.YtlcbdmmmafpchaaDoor
open Go.RowKit Go.BigFrame
set_option linter.unusedSimpArgs false
set_option linter.unusedVariables false
set_option maxRecDepth 4000

set_option maxHeartbeats 8000000 in
set_option maxRecDepth 100000 in
theorem symOneR_any (g : Nat) (lb : Array Value) (D : Int → Prop) (lt : Int → Int → Bool) (cv : Int → Int → Int) (o : Ord1 lt) (w : World) (b n c : Nat) (P L M Q : List Int) (a m e : Nat) (hI : SymIn b n c D lt P L M Q a m e)
    (h1 : M.length = 1) (h2 : L.length ≠ 1) (h : RowB w b (P ++ L ++ M ++ Q)) (HC : CmpAt g lb b D lt cv w) :
    Calls Tryd.prog 117 #[.slice (some ⟨b, 0, none⟩) n c, .int .i64 (a : Int), .int .i64 (m : Int), .int .i64 (e : Int), .func (.func g) #[] lb] w fun z w' => z = .returned (.tuple #[]) ∧ (∃ S, Mrg lt L M S ∧ RowB w' b (P ++ S ++ Q)) ∧ Only b w w' := by
  have hcm := hI.max
  unfold maxLen at hcm
  have hcap := hI.cap; have hn4 := hI.n4
  obtain ⟨y, rfl⟩ : ∃ y, M = [y] := List.length_eq_one_iff.1 h1
  have heg := HC.eg
  have HI := Lib.hid hI; have HCM := Lib.hid HC
  have hem : e = m + 1 := by have := hI.he; have := hI.hm; simp at *; omega
  have hez : (e : Int) - (m : Int) = 1 := by omega
  have hma : a + L.length = m := by have := hI.ha; have := hI.hm; omega
  obtain ⟨d, hd⟩ : ∃ d, d = m - a := ⟨_, rfl⟩
  have hdz : (m : Int) - (a : Int) = (d : Int) := by omega
  have hd1 : ¬ d = 1 := by omega
  have hd1z : ((d : Int) == 1) = false := by simp; omega
  have ham : a ≤ m := by omega
  have hen : e ≤ n := by have := hI.he; have := hI.hn; omega
  have hmn : m < n := by omega
  have hrow : P ++ L ++ [y] ++ Q = P ++ insT L y L.length ++ Q := by rw [insT_all]; simp
  have H0 : Hid (RowB w b (P ++ insT L y L.length ++ Q)) := by rw [← hrow]; exact h
  have HMA := Lib.hid hma
  have hlen : ∀ t, (P ++ insT L y t ++ Q).length = n := by
    intro t
    have := hI.hn
    rw [List.length_append, List.length_append, insT_len]; simp at this; omega
  have HLEN := Lib.hid hlen
  have HROW := Lib.hid hrow
  clear hI HC h h1 h2 hrow hma hem hlen hd
  go_enter Tryd.func117, Tryd.ntmps117
  go_wp2_with fail
  go_loopw [14, 15] (fun iv jv wr => ∃ (i j : Nat), iv = .int .i64 (i : Int) ∧ jv = .int .i64 (j : Int) ∧ a ≤ i ∧ i ≤ j ∧ j ≤ m ∧ Hid (RowB wr b (P ++ insT L y L.length ++ Q) ∧ Only b w wr ∧ (i = a ∨ ∃ h : i - 1 - a < L.length, lt L[i - 1 - a] y = true) ∧ (j = m ∨ ∃ h : j - a < L.length, lt y L[j - a] = true))) (fun iv jv _ => (intOf jv).toNat - (intOf iv).toNat)
  case atStart => exact ⟨a, m, rfl, rfl, Nat.le_refl _, ham, Nat.le_refl _, H0.out, only_refl _ _, .inl rfl, .inl rfl⟩
  case round =>
    obtain ⟨i, j, rfl, rfl, hmi, hij, hje, HR⟩ := hrel
    by_cases hlt : i < j
    · obtain ⟨h, hh⟩ : ∃ h, h = (i + j) / 2 := ⟨_, rfl⟩
      have hh1 : i ≤ h := by omega
      have hh2 : h < j := by omega
      have hhz : ((i : Int) + (j : Int)) / 2 = (h : Int) := by omega
      have hhL : h - a < L.length := by have := HMA.out; omega
      have hhn : h < n := by omega
      have hpa := HI.out.ha
      have hma := HMA.out
      have hc1 := HR.out.1.cell h (by rw [HLEN.out]; exact hhn)
      have hc2 := HR.out.1.cell m (by rw [HLEN.out]; exact hmn)
      rw [← HROW.out, List.append_assoc (P ++ L), getD_in P L ([y] ++ Q) h (h - a) hhL (by omega)] at hc1
      rw [insT_here P L Q y L.length m (Nat.le_refl _) (by omega)] at hc2
      have hxL := List.getElem_mem hhL
      have hDy := HI.out.dM y (by simp)
      have hDx := HI.out.dL _ hxL
      have hxy := HI.out.less _ hxL y (by simp)
      have hsays := HCM.out.says _ _ hDy hDx hxy
      have hcall := fun q => HCM.out.call (wr.drewN q) (only_t HR.out.2.1 (only_drewN _ _ _)) _ _ hDy hDx
      have HDN : Hid (lt y L[h - a] = true → ∃ h' : h - a < L.length, lt y L[h - a] = true) := fun e => ⟨hhL, e⟩
      have HUP : Hid (lt y L[h - a] = false → ∃ h' : h + 1 - 1 - a < L.length, lt L[h + 1 - 1 - a] y = true) := fun e => ⟨by omega, by
        rcases o.tot y L[h - a] (by omega) with f | f
        · rw [e] at f; cases f
        · simpa using f⟩
      have HRR : Hid (RowB wr b (P ++ insT L y L.length ++ Q) ∧ Only b w wr) := ⟨HR.out.1, HR.out.2.1⟩
      have HRI := Lib.hid HR.out.2.2
      obtain ⟨x, hx⟩ : ∃ x, x = L[h - a] := ⟨_, rfl⟩
      rw [← hx] at hc1 hsays hcall HUP HDN
      generalize cv y x = z at *
      have HCALL := Lib.hid hcall
      have hcmz : c ≤ 9223372036854775807 := by omega
      clear hcall hxL hDx hDy hxy hx hpa hma HR hh hhL
      cases hl : lt y x with
      | true =>
        have hz : z < 0 := hsays.2 hl
        have hzn : (!decide (z < 0)) = false := by rw [decide_eq_true hz]; rfl
        have HB := Lib.hid (HDN.out hl)
        clear hsays HUP HDN hl
        go_wp2_with fail
        go_quiet (first | (go_at_fn g; exact Calls.quiet_of (HCALL.out _)))
        go_wp2_with fail
        go_roundw
        case rel => exact ⟨i, h, by go_num, by go_num, hmi, hh1, by omega, rowB_drewN HRR.out.1, only_t HRR.out.2 (only_drewN _ _ _), HRI.out.1, .inr HB.out⟩
        case measure => simp [intOf] <;> omega
      | false =>
        have hz : ¬ z < 0 := fun e => by have := hsays.1 e; rw [hl] at this; cases this
        have hzn : (!decide (z < 0)) = true := by rw [decide_eq_false hz]; rfl
        have HB := Lib.hid (HUP.out hl)
        clear hsays HUP HDN hl
        go_wp2_with fail
        go_quiet (first | (go_at_fn g; exact Calls.quiet_of (HCALL.out _)))
        go_wp2_with fail
        go_roundw
        case rel => exact ⟨h + 1, j, by go_num, rfl, by omega, by omega, hje, rowB_drewN HRR.out.1, only_t HRR.out.2 (only_drewN _ _ _), .inr HB.out, HRI.out.2⟩
        case measure => simp [intOf] <;> omega
    · obtain rfl : i = j := by omega
      obtain ⟨t, ht⟩ : ∃ t, i = a + t := ⟨i - a, by omega⟩
      have htL : t ≤ L.length := by have := HMA.out; omega
      have hmg := mrg_one_right (x := y) HI.out.sL o t htL (by
        rcases HR.out.2.2.1 with f | ⟨f1, f2⟩
        · exact .inl (by omega)
        · refine .inr ⟨by omega, ?_⟩
          have e1 : t - 1 = i - 1 - a := by omega
          rw [getElem_congr_idx e1]; exact f2) (by
        rcases HR.out.2.2.2 with f | ⟨f1, f2⟩
        · exact .inl (by have := HMA.out; omega)
        · refine .inr ⟨by omega, ?_⟩
          have e1 : t = i - a := by omega
          rw [getElem_congr_idx e1]; exact f2)
      have HMG : Hid (Mrg lt L [y] (insT L y t)) := hmg
      have HRR : Hid (RowB wr b (P ++ insT L y L.length ++ Q) ∧ Only b w wr) := ⟨HR.out.1, HR.out.2.1⟩
      have HIT : Hid (i = a + t ∧ t ≤ L.length) := ⟨ht, htL⟩
      obtain ⟨wo, hwo⟩ : ∃ wo : World, wo = wr := ⟨_, rfl⟩
      clear hmg HR ht htL hwo hlt
      go_wp2_with fail
      go_loopw [17] (fun kv wr => ∃ (k u : Nat), kv = .int .i64 (k : Int) ∧ i ≤ k ∧ k ≤ m ∧ Hid (k = a + u ∧ u ≤ L.length ∧ RowB wr b (P ++ insT L y u ++ Q) ∧ Only b w wr)) (fun kv _ => (intOf kv).toNat)
      case atStart => exact ⟨m, L.length, rfl, hje, Nat.le_refl _, HMA.out.symm, Nat.le_refl _, HRR.out.1, HRR.out.2⟩
      case round =>
        obtain ⟨k, u, rfl, hik, hkm, HK⟩ := hrel
        by_cases hlt : i < k
        · obtain ⟨k1, hk1⟩ : ∃ k1, k = k1 + 1 := ⟨k - 1, by omega⟩
          have hkz : (k : Int) - 1 = (k1 : Int) := by omega
          obtain ⟨v, hv⟩ : ∃ v, u = v + 1 := ⟨u - 1, by have := HIT.out.1; have := HK.out.1; omega⟩
          have hvL : v < L.length := by have := HK.out.2.1; omega
          have hkn : k < n := by omega
          have hk1n : k1 < n := by omega
          have hne : k ≠ k1 := by omega
          have hne' : k1 ≠ k := by omega
          have hpa := HI.out.ha
          have hku := HK.out.1
          have hc1 := HK.out.2.2.1.cell k (by rw [HLEN.out]; exact hkn)
          have hc2 := HK.out.2.2.1.cell k1 (by rw [HLEN.out]; exact hk1n)
          have hf1 := HK.out.2.2.1.free k (by rw [HLEN.out]; exact hkn)
          have hf2 := HK.out.2.2.1.free k1 (by rw [HLEN.out]; exact hk1n)
          have hsw := rowB_swap HK.out.2.2.1 k k1 (by rw [HLEN.out]; exact hkn) (by rw [HLEN.out]; exact hk1n)
          rw [hv] at hc1 hc2 hsw
          rw [insT_step P L Q y v k1 k hvL (by omega) (by omega)] at hsw
          generalize (P ++ insT L y (v + 1) ++ Q).getD k 0 = v1 at *
          generalize (P ++ insT L y (v + 1) ++ Q).getD k1 0 = v2 at *
          have HSW := Lib.hid hsw
          have HKU : Hid (k1 = a + v ∧ v ≤ L.length ∧ Only b w wr) := ⟨by omega, by omega, HK.out.2.2.2⟩
          have hk1i : i ≤ k1 := by omega
          have hk1m : k1 ≤ m := by omega
          have hkik : (k : Int) > (i : Int) := by omega
          clear hsw hpa hku hvL HK hk1 hv
          go_wp2_with fail
          go_region
          go_wp2_with fail
          go_roundw
          case rel => exact ⟨k1, v, by go_num, hk1i, hk1m, HKU.out.1, HKU.out.2.1, rowB_drew HSW.out, only_t HKU.out.2.2 (only_t (only_t (only_set b k _ _) (only_set b k1 _ _)) (only_drew _ _))⟩
          case measure => simp [intOf] <;> omega
        · have HF : Hid (RowB wr b (P ++ insT L y t ++ Q) ∧ Only b w wr) := by
            have e1 : u = t := by have := HK.out.1; have := HIT.out.1; omega
            have := HK.out.2.2
            rw [e1] at this; exact this
          have hkik : ¬ (k : Int) > (i : Int) := by omega
          clear HK
          go_wp2_with fail
          refine bodyPost_ret (results_none rfl _ _ _) rfl ?_
          exact ⟨rfl, ⟨_, HMG.out, by rw [← List.append_assoc]; exact HF.out.1⟩, HF.out.2⟩
end Go.Proofs.YtlcbdmmmafpchaaDoor
