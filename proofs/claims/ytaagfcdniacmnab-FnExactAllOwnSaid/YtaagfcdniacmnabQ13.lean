/- AllOwn: the model's taSorted. -/
import Derived.Test.YtaagfcdniacmnabQ12
import Derived.Sort.Walk0
namespace Go.Proofs.Ytaagfcdniacmnab
open Go.RowKit Go.BigFrame
set_option linter.unusedSimpArgs false
set_option linter.unusedVariables false
set_option maxRecDepth 4000

theorem cmp_bs (x y : List UInt8) : Op.bytesLess (bs x).toList (bs y).toList = decide (x < y) := by
  rw [bytes_toListT, bytes_toListT, bytesLess_eq]
  exact decide_eq_decide.2 (by simp [bs])
set_option maxHeartbeats 2000000 in
theorem taSorted_any (w : World) (B N : Nat) (v : Value) (ls : List (List UInt8)) (hN : N = ls.length) (hl : N ≤ 1000000) (ho : w.ownsRow B 9 1 v N (strVs ls)) :
    Calls Try.prog 44 #[v] w fun e w' => ∃ v', e = .returned v' ∧ w'.ownsRow w.heap.size 9 1 v' N (strVs (ls.mergeSort fun x y => decide (x ≤ y))) ∧ Below w.heap.size w w' := by
  obtain ⟨i0, hi, hz0, hz1, hz2⟩ := info_parts info_str
  obtain ⟨a, cp, rfl⟩ := own_slice ho
  have HO := Lib.hid ho; have HN := Lib.hid hN
  clear ho hN
  go_enter Try.func44, Try.ntmps44
  go_wp2_with fail
  go_loopw [3, 10] (fun o iv wr => ∃ (i c : Nat) (q : Option Addr) (O : List (List UInt8)), i ≤ N ∧ iv = .int .i64 (i : Int) ∧ o = .slice q i c ∧ (i = 0 → q = none ∧ c = 0) ∧ Hid (O.length = i ∧ O.Pairwise (· ≤ ·) ∧ O.Perm (ls.take i) ∧ wr.ownsRow w.heap.size 9 1 (.slice q i c) i (strVs O) ∧ Below w.heap.size w wr)) (fun _ iv _ => N - (intOf iv).toNat)
  case atStart => exact ⟨0, 0, none, [], by omega, rfl, rfl, fun _ => ⟨rfl, rfl⟩, rfl, List.Pairwise.nil, by simp, World.ownsRow_nil _ _ _ _, below_refl _⟩
  case round =>
    obtain ⟨i, c, q, O, hiN, rfl, rfl, hq0, HX⟩ := hrel
    have HQ0 := Lib.hid hq0; clear hq0
    by_cases hlt : i < N
    · have hil : i < ls.length := by rw [← HN.out]; exact hlt
      rcases own_open HO.out with ⟨_, h0, _⟩ | ⟨g, cap, e, _, hg, hc1, hc2, _, _, _⟩
      · omega
      simp only [Value.slice.injEq] at e
      obtain ⟨rfl, _, rfl⟩ := e
      have hcs : wr.cell? ⟨g, i, none⟩ = some (.string (bs ls[i])) := (HX.out.2.2.2.2.cell (p := ⟨g, i, none⟩) hg).trans (strs_cells HO.out HN.out i hil)
      obtain ⟨s, hs⟩ : ∃ s, s = ls[i] := ⟨_, rfl⟩
      rw [← hs] at hcs
      have HS := Lib.hid hs; clear hs
      unfold maxLen at hc2
      go_wp2_with fail
      have hqO : 0 < i → ∃ g2, q = some ⟨g2, 0, none⟩ ∧ i ≤ c ∧ c ≤ 9223372036854775807 ∧ (∀ j (hj : j < O.length), wr.cell? ⟨g2, j, none⟩ = some (.string (bs O[j]))) := fun h => by
        rcases own_open HX.out.2.2.2.1 with ⟨_, h0, _⟩ | ⟨g2, c2, e, _, _, h3, h4, _, _, _⟩
        · omega
        · have ho2 := HX.out.2.2.2.1
          simp only [Value.slice.injEq] at e
          obtain ⟨rfl, _, rfl⟩ := e
          unfold maxLen at h4
          exact ⟨g2, rfl, h3, by omega, fun j hj => strs_cells ho2 HX.out.1.symm j hj⟩
      have HQO := Lib.hid hqO; clear hqO
      go_loop [6] (fun kv => ∃ k : Nat, kv = .int .i64 (k : Int) ∧ k ≤ i ∧ Hid (∀ j (hj : j < O.length), k ≤ j → s < O[j])) (fun kv => (intOf kv).toNat)
      case atStart => exact ⟨i, rfl, Nat.le_refl _, fun j hj hk => by have := HX.out.1; omega⟩
      case round =>
        obtain ⟨k, rfl, hki, HK⟩ := hrel
        by_cases hk0 : k = 0
        · subst hk0
          by_cases hi0' : i = 0
          · subst hi0'
            obtain ⟨rfl, rfl⟩ := HQ0.out rfl
            have hO0 : O = [] := List.eq_nil_of_length_eq_zero HX.out.1
            have HO0 := Lib.hid hO0; clear hO0
            go_wp2_with (first
              | (refine wpList_app0 _ rfl (.tmp 29) (.tmp 32) 32 rfl 9 i0 Try.underlying32 hi (some ⟨wr.heap.size, 0, none⟩) 0 0 rfl rfl (Nat.le_refl _) ?_)
              | (refine wpList_app _ rfl (.tmp 33) (.tmp 35) 32 rfl wr.heap.size 9 i0 (.string ⟨#[]⟩) 16 Try.underlying32 hi hz0 hz1 hz2 rfl _ 0 [] rfl (own_below (own_lit wr wr.heap.size 9 [] (Nat.le_refl _) (by simp [maxLen])) (below_alloc _ _)) ⟨wr.heap.size + 1, 0, none⟩ 1 1 [.string (bs s)] rfl rfl (by intro j u hu; cases j with | zero => (simp at hu; subst hu; simp [go_sem, Addr.add]) | succ j => simp at hu) (by intro y hy; simp at hy; subst hy; rfl) (by unfold maxLen; omega) (by omega) (by simp; omega) ?_; intro v5 w5 hown5 hgr5 hwh5; have hb5 : Below wr.heap.size wr w5 := (below_trans (below_alloc wr _) (below_alloc _ _)).grown hgr5 (by simp; omega) (fun r e => by cases e; exact Nat.le_refl _); rw [Nat.zero_add, List.nil_append] at hown5; obtain ⟨g5, d5, rfl⟩ := ownsRow_succ hown5; have hd5 : 1 ≤ d5 := (by rcases own_open hown5 with ⟨e, _⟩ | ⟨_, _, e, _, _, h6, _⟩ <;> first | (cases e; done) | (simp at e; omega)))
              | (refine wpList_app0 _ rfl (.tmp 37) (.tmp 40) 32 rfl 9 i0 Try.underlying32 hi (some ⟨g5, 0, none⟩) 1 d5 rfl rfl hd5 ?_))
            have HO5 := Lib.hid hown5; have HB5 := Lib.hid hb5
            clear hown5 hgr5 hwh5 hb5
            go_roundw
            case rel =>
              refine ⟨1, d5, some ⟨g5, 0, none⟩, [s], by omega, by go_num, rfl, fun h => by omega, rfl, List.pairwise_singleton _ _, ?_, own_mono HO5.out HX.out.2.2.2.2.size, below_trans HX.out.2.2.2.2 HB5.out⟩
              rw [List.take_succ_eq_append_getElem hil, ← HS.out]; simp
            case measure => simp [intOf] <;> omega
          · obtain ⟨g2, rfl, hic, hcm, hc2'⟩ := HQO.out (by omega)
            have HC2 := Lib.hid hc2'; clear hc2'
            have hb0 : (0 : Int) ≤ (0 : Int) := by omega
            have hbc : (0 : Int) ≤ (c : Int) := by omega
            have hbi : (0 : Int) ≤ (i : Int) := by omega
            have hadd : (⟨g2, 0, none⟩ : Addr).add (0) = ⟨g2, 0, none⟩ := by rw [add_plainT, Nat.zero_add]
            have hsub : ((i : Int) - (0 : Int)).toNat = i - (0) := by omega
            have hg2 : g2 < wr.heap.size := World.block_lt_of_cell? wr _ (HC2.out 0 (by have := HX.out.1; omega))
            have hnA : ∀ (kk : Nat) (W : World), Below wr.heap.size wr W → ∀ j u, (strVs (O.take kk))[j]? = some u → W.cell? ((⟨g2, 0, none⟩ : Addr).add j) = some u := by
              intro kk W hbW j u hj
              rw [add_plainT, Nat.zero_add]
              obtain ⟨hjl, e⟩ := List.getElem?_eq_some_iff.1 hj
              have hjl' : j < O.length := by simp [strVs] at hjl; omega
              rw [hbW.cell (p := ⟨g2, j, none⟩) hg2, HC2.out j hjl', ← e]
              simp [strVs]
            have hnB : ∀ (kk : Nat) (W : World), Below wr.heap.size wr W → ∀ j u, (strVs (O.drop kk))[j]? = some u → W.cell? ((⟨g2, kk, none⟩ : Addr).add j) = some u := by
              intro kk W hbW j u hj
              rw [add_plainT]
              obtain ⟨hjl, e⟩ := List.getElem?_eq_some_iff.1 hj
              have hjl' : kk + j < O.length := by simp [strVs] at hjl; omega
              rw [hbW.cell (p := ⟨g2, kk + j, none⟩) hg2, HC2.out (kk + j) hjl', ← e]
              simp [strVs]
            have hins := ins_ok O s (0) (by have := HX.out.1; omega) HX.out.2.1 HK.out (.inl rfl)
            have hlA : ∀ kk, kk ≤ i → (strVs (O.take kk)).length = kk := fun kk h => by simp [strVs]; have := HX.out.1; omega
            have hlB : ∀ kk, kk ≤ i → (strVs (O.drop kk)).length = i - kk := fun kk h => by simp [strVs]; have := HX.out.1; omega
            have hcat : ∀ kk, strVs (O.take kk) ++ [.string (bs s)] ++ strVs (O.drop kk) = strVs (O.take kk ++ s :: O.drop kk) := fun kk => by simp [strVs]
            have HNA := Lib.hid hnA; have HNB := Lib.hid hnB; have HINS := Lib.hid hins; have HLA := Lib.hid hlA; have HLB := Lib.hid hlB; have HCAT := Lib.hid hcat
            clear hnA hnB hins hlA hlB hcat
            go_wp2_with (first
              | (refine wpList_app _ rfl (.tmp 29) (.tmp 32) 32 rfl wr.heap.size 9 i0 (.string ⟨#[]⟩) 16 Try.underlying32 hi hz0 hz1 hz2 rfl _ 0 [] rfl (own_lit wr wr.heap.size 9 [] (Nat.le_refl _) (by simp [maxLen])) ⟨g2, 0, none⟩ (0) c (strVs (O.take (0))) rfl (HLA.out _ (by omega)) (HNA.out (0) _ (below_alloc _ _)) (strs_one _) (by unfold maxLen; omega) (by omega) (by simp) ?_; intro v4 w4 hown4 hgr4 hwh4; have hb4 : Below wr.heap.size wr w4 := (below_alloc wr _).grown hgr4 (by simp) (fun r e => by cases e; exact Nat.le_refl _); rw [Nat.zero_add, List.nil_append] at hown4; obtain ⟨q4, d4, rfl⟩ := own_slice hown4)
              | (refine wpList_app _ rfl (.tmp 33) (.tmp 35) 32 rfl wr.heap.size 9 i0 (.string ⟨#[]⟩) 16 Try.underlying32 hi hz0 hz1 hz2 rfl _ (0) _ rfl (own_below hown4 (below_alloc _ _)) ⟨w4.heap.size, 0, none⟩ 1 1 [.string (bs s)] rfl rfl (by intro j u hu; cases j with | zero => (simp at hu; subst hu; simp [go_sem, Addr.add]) | succ j => simp at hu) (by intro y hy; simp at hy; subst hy; rfl) (by unfold maxLen; omega) (by omega) (by have := hb4.size; simp; omega) ?_; intro v5 w5 hown5 hgr5 hwh5; have hb5 : Below wr.heap.size wr w5 := (below_trans hb4 (below_alloc w4 _)).grown hgr5 (by have := hb4.size; simp; omega) (fun r e => (hown4.lt r e).1); obtain ⟨q5, d5, rfl⟩ := own_slice hown5)
              | (refine wpList_app _ rfl (.tmp 37) (.tmp 40) 32 rfl wr.heap.size 9 i0 (.string ⟨#[]⟩) 16 Try.underlying32 hi hz0 hz1 hz2 rfl _ (0 + 1) _ rfl hown5 ⟨g2, 0, none⟩ (i - (0)) (c - (0)) (strVs (O.drop (0))) rfl (HLB.out _ (by omega)) (HNB.out (0) _ hb5) (strs_one _) (by unfold maxLen; omega) (by omega) (by have := hb5.size; omega) ?_; intro v6 w6 hown6 hgr6 hwh6; have hb6 : Below wr.heap.size wr w6 := hb5.grown hgr6 (by have := hb5.size; omega) (fun r e => (hown5.lt r e).1); rw [show 0 + 1 + (i - (0)) = i + 1 from by omega, HCAT.out] at hown6; obtain ⟨g6, d6, rfl⟩ := ownsRow_succ hown6))
            have HO6 := Lib.hid hown6; have HB6 := Lib.hid hb6
            clear hown4 hgr4 hwh4 hb4 hown5 hgr5 hwh5 hb5 hown6 hgr6 hwh6 hb6
            go_roundw
            case rel =>
              refine ⟨i + 1, d6, some ⟨g6, 0, none⟩, _, by omega, by go_num, rfl, fun h => by omega, ?_, HINS.out.1, ?_, own_mono HO6.out HX.out.2.2.2.2.size, below_trans HX.out.2.2.2.2 HB6.out⟩
              · have := HINS.out.2.length_eq; rw [this]; simp; exact HX.out.1
              · rw [List.take_succ_eq_append_getElem hil, ← HS.out]
                exact HINS.out.2.trans (HX.out.2.2.1.append_right _)
            case measure => simp [intOf] <;> omega
        · obtain ⟨k', rfl⟩ : ∃ k', k = k' + 1 := ⟨k - 1, by omega⟩
          obtain ⟨g2, rfl, hic, hcm, hc2'⟩ := HQO.out (by omega)
          have hkO : k' < O.length := by have := HX.out.1; omega
          have hcy := hc2' k' hkO
          obtain ⟨y, hy⟩ : ∃ y, y = O[k'] := ⟨_, rfl⟩
          rw [← hy] at hcy
          have hcmp := cmp_bs s y
          have hp1 : (0 : Int) < (k' : Int) + 1 := by omega
          have hp0 : (0 : Int) ≤ (k' : Int) := by omega
          have HC2 := Lib.hid hc2'; have HY := Lib.hid hy; clear hc2' hy
          by_cases hlt2 : s < y
          · have hcmp2 : Op.bytesLess (bs s).toList (bs y).toList = true := by rw [hcmp]; exact decide_eq_true hlt2
            have hnew : Hid (∀ j (hj : j < O.length), k' ≤ j → s < O[j]) := fun j hj hkj => by
              by_cases e : j = k'
              · subst e; rw [← HY.out]; exact hlt2
              · exact HK.out j hj (by omega)
            clear hcmp hlt2
            go_wp2_with fail
            go_round
            case rel => exact ⟨k', by go_num, by omega, hnew.out⟩
            case measure => simp [intOf] <;> omega
          · have hcmp2 : Op.bytesLess (bs s).toList (bs y).toList = false := by rw [hcmp]; exact decide_eq_false hlt2
            have hne : k' + 1 = 0 ∨ ∃ h : k' + 1 - 1 < O.length, ¬ s < O[k' + 1 - 1] := .inr ⟨by rw [Nat.add_sub_cancel]; exact hkO, by simp only [Nat.add_sub_cancel]; rw [← HY.out]; exact hlt2⟩
            have HNE := Lib.hid hne
            clear hcmp hlt2 hne
            by_cases hck : c = k' + 1
            · subst hck
              obtain rfl : i = k' + 1 := by omega
              have hb0 : (0 : Int) ≤ ((k' : Int) + 1) := by omega
              have hbc : ((k' : Int) + 1) ≤ ((k' + 1 : Nat) : Int) := by omega
              have hbi : ((k' : Int) + 1) ≤ ((k' + 1 : Nat) : Int) := by omega
              have hadd : (⟨g2, 0, none⟩ : Addr).add (k' + 1) = ⟨g2, k' + 1, none⟩ := by rw [add_plainT, Nat.zero_add]
              have hsub : (((k' + 1 : Nat) : Int) - ((k' : Int) + 1)).toNat = 0 := by omega
              have hg2 : g2 < wr.heap.size := World.block_lt_of_cell? wr _ (HC2.out 0 (by have := HX.out.1; omega))
              have hnA : ∀ (kk : Nat) (W : World), Below wr.heap.size wr W → ∀ j u, (strVs (O.take kk))[j]? = some u → W.cell? ((⟨g2, 0, none⟩ : Addr).add j) = some u := by
                intro kk W hbW j u hj
                rw [add_plainT, Nat.zero_add]
                obtain ⟨hjl, e⟩ := List.getElem?_eq_some_iff.1 hj
                have hjl' : j < O.length := by simp [strVs] at hjl; omega
                rw [hbW.cell (p := ⟨g2, j, none⟩) hg2, HC2.out j hjl', ← e]
                simp [strVs]
              have hnB : ∀ (kk : Nat) (W : World), Below wr.heap.size wr W → ∀ j u, (strVs (O.drop kk))[j]? = some u → W.cell? ((⟨g2, kk, none⟩ : Addr).add j) = some u := by
                intro kk W hbW j u hj
                rw [add_plainT]
                obtain ⟨hjl, e⟩ := List.getElem?_eq_some_iff.1 hj
                have hjl' : kk + j < O.length := by simp [strVs] at hjl; omega
                rw [hbW.cell (p := ⟨g2, kk + j, none⟩) hg2, HC2.out (kk + j) hjl', ← e]
                simp [strVs]
              have hins := ins_ok O s (k' + 1) (by have := HX.out.1; omega) HX.out.2.1 HK.out HNE.out
              have hlA : ∀ kk, kk ≤ k' + 1 → (strVs (O.take kk)).length = kk := fun kk h => by simp [strVs]; have := HX.out.1; omega
              have hlB : ∀ kk, kk ≤ k' + 1 → (strVs (O.drop kk)).length = k' + 1 - kk := fun kk h => by simp [strVs]; have := HX.out.1; omega
              have hcat : ∀ kk, strVs (O.take kk) ++ [.string (bs s)] ++ strVs (O.drop kk) = strVs (O.take kk ++ s :: O.drop kk) := fun kk => by simp [strVs]
              have HNA := Lib.hid hnA; have HNB := Lib.hid hnB; have HINS := Lib.hid hins; have HLA := Lib.hid hlA; have HLB := Lib.hid hlB; have HCAT := Lib.hid hcat
              clear hnA hnB hins hlA hlB hcat
              go_wp2_with (first
                | (refine wpList_app _ rfl (.tmp 29) (.tmp 32) 32 rfl wr.heap.size 9 i0 (.string ⟨#[]⟩) 16 Try.underlying32 hi hz0 hz1 hz2 rfl _ 0 [] rfl (own_lit wr wr.heap.size 9 [] (Nat.le_refl _) (by simp [maxLen])) ⟨g2, 0, none⟩ (k' + 1) (k' + 1) (strVs (O.take (k' + 1))) rfl (HLA.out _ (by omega)) (HNA.out (k' + 1) _ (below_alloc _ _)) (strs_one _) (by unfold maxLen; omega) (by omega) (by simp) ?_; intro v4 w4 hown4 hgr4 hwh4; have hb4 : Below wr.heap.size wr w4 := (below_alloc wr _).grown hgr4 (by simp) (fun r e => by cases e; exact Nat.le_refl _); rw [Nat.zero_add, List.nil_append] at hown4; obtain ⟨q4, d4, rfl⟩ := own_slice hown4)
                | (refine wpList_app _ rfl (.tmp 33) (.tmp 35) 32 rfl wr.heap.size 9 i0 (.string ⟨#[]⟩) 16 Try.underlying32 hi hz0 hz1 hz2 rfl _ (k' + 1) _ rfl (own_below hown4 (below_alloc _ _)) ⟨w4.heap.size, 0, none⟩ 1 1 [.string (bs s)] rfl rfl (by intro j u hu; cases j with | zero => (simp at hu; subst hu; simp [go_sem, Addr.add]) | succ j => simp at hu) (by intro y hy; simp at hy; subst hy; rfl) (by unfold maxLen; omega) (by omega) (by have := hb4.size; simp; omega) ?_; intro v5 w5 hown5 hgr5 hwh5; have hb5 : Below wr.heap.size wr w5 := (below_trans hb4 (below_alloc w4 _)).grown hgr5 (by have := hb4.size; simp; omega) (fun r e => (hown4.lt r e).1); obtain ⟨q5, d5, rfl⟩ := own_slice hown5)
                | (refine wpList_app _ rfl (.tmp 37) (.tmp 40) 32 rfl wr.heap.size 9 i0 (.string ⟨#[]⟩) 16 Try.underlying32 hi hz0 hz1 hz2 rfl _ (k' + 1 + 1) _ rfl hown5 ⟨g2, 0, none⟩ 0 0 (strVs (O.drop (k' + 1))) rfl (by rw [HLB.out _ (by omega)]; omega) (fun j u hj => by have h0 := HLB.out (k' + 1) (by omega); rw [Nat.sub_self] at h0; rw [List.eq_nil_of_length_eq_zero h0] at hj; simp at hj) (strs_one _) (by unfold maxLen; omega) (by omega) (by have := hb5.size; omega) ?_; intro v6 w6 hown6 hgr6 hwh6; have hb6 : Below wr.heap.size wr w6 := hb5.grown hgr6 (by have := hb5.size; omega) (fun r e => (hown5.lt r e).1); rw [Nat.add_zero, HCAT.out] at hown6; obtain ⟨g6, d6, rfl⟩ := ownsRow_succ hown6))
              have HO6 := Lib.hid hown6; have HB6 := Lib.hid hb6
              clear hown4 hgr4 hwh4 hb4 hown5 hgr5 hwh5 hb5 hown6 hgr6 hwh6 hb6
              go_roundw
              case rel =>
                refine ⟨k' + 1 + 1, d6, some ⟨g6, 0, none⟩, _, by omega, by go_num, rfl, fun h => by omega, ?_, HINS.out.1, ?_, own_mono HO6.out HX.out.2.2.2.2.size, below_trans HX.out.2.2.2.2 HB6.out⟩
                · have := HINS.out.2.length_eq; rw [this]; simp; exact HX.out.1
                · rw [List.take_succ_eq_append_getElem hil, ← HS.out]
                  exact HINS.out.2.trans (HX.out.2.2.1.append_right _)
              case measure => simp [intOf] <;> omega
            · obtain ⟨e, rfl⟩ : ∃ e, c = k' + 1 + (e + 1) := ⟨c - (k' + 1) - 1, by omega⟩
              clear hck
              have hb0 : (0 : Int) ≤ ((k' : Int) + 1) := by omega
              have hbc : ((k' : Int) + 1) ≤ ((k' + 1 + (e + 1) : Nat) : Int) := by omega
              have hbi : ((k' : Int) + 1) ≤ (i : Int) := by omega
              have hadd : (⟨g2, 0, none⟩ : Addr).add (k' + 1) = ⟨g2, k' + 1, none⟩ := by rw [add_plainT, Nat.zero_add]
              have hsub : ((i : Int) - ((k' : Int) + 1)).toNat = i - (k' + 1) := by omega
              have hg2 : g2 < wr.heap.size := World.block_lt_of_cell? wr _ (HC2.out 0 (by have := HX.out.1; omega))
              have hnA : ∀ (kk : Nat) (W : World), Below wr.heap.size wr W → ∀ j u, (strVs (O.take kk))[j]? = some u → W.cell? ((⟨g2, 0, none⟩ : Addr).add j) = some u := by
                intro kk W hbW j u hj
                rw [add_plainT, Nat.zero_add]
                obtain ⟨hjl, e⟩ := List.getElem?_eq_some_iff.1 hj
                have hjl' : j < O.length := by simp [strVs] at hjl; omega
                rw [hbW.cell (p := ⟨g2, j, none⟩) hg2, HC2.out j hjl', ← e]
                simp [strVs]
              have hnB : ∀ (kk : Nat) (W : World), Below wr.heap.size wr W → ∀ j u, (strVs (O.drop kk))[j]? = some u → W.cell? ((⟨g2, kk, none⟩ : Addr).add j) = some u := by
                intro kk W hbW j u hj
                rw [add_plainT]
                obtain ⟨hjl, e⟩ := List.getElem?_eq_some_iff.1 hj
                have hjl' : kk + j < O.length := by simp [strVs] at hjl; omega
                rw [hbW.cell (p := ⟨g2, kk + j, none⟩) hg2, HC2.out (kk + j) hjl', ← e]
                simp [strVs]
              have hins := ins_ok O s (k' + 1) (by have := HX.out.1; omega) HX.out.2.1 HK.out HNE.out
              have hlA : ∀ kk, kk ≤ i → (strVs (O.take kk)).length = kk := fun kk h => by simp [strVs]; have := HX.out.1; omega
              have hlB : ∀ kk, kk ≤ i → (strVs (O.drop kk)).length = i - kk := fun kk h => by simp [strVs]; have := HX.out.1; omega
              have hcat : ∀ kk, strVs (O.take kk) ++ [.string (bs s)] ++ strVs (O.drop kk) = strVs (O.take kk ++ s :: O.drop kk) := fun kk => by simp [strVs]
              have HNA := Lib.hid hnA; have HNB := Lib.hid hnB; have HINS := Lib.hid hins; have HLA := Lib.hid hlA; have HLB := Lib.hid hlB; have HCAT := Lib.hid hcat
              clear hnA hnB hins hlA hlB hcat
              go_wp2_with (first
                | (refine wpList_app _ rfl (.tmp 29) (.tmp 32) 32 rfl wr.heap.size 9 i0 (.string ⟨#[]⟩) 16 Try.underlying32 hi hz0 hz1 hz2 rfl _ 0 [] rfl (own_lit wr wr.heap.size 9 [] (Nat.le_refl _) (by simp [maxLen])) ⟨g2, 0, none⟩ (k' + 1) (k' + 1 + (e + 1)) (strVs (O.take (k' + 1))) rfl (HLA.out _ (by omega)) (HNA.out (k' + 1) _ (below_alloc _ _)) (strs_one _) (by unfold maxLen; omega) (by omega) (by simp) ?_; intro v4 w4 hown4 hgr4 hwh4; have hb4 : Below wr.heap.size wr w4 := (below_alloc wr _).grown hgr4 (by simp) (fun r e => by cases e; exact Nat.le_refl _); rw [Nat.zero_add, List.nil_append] at hown4; obtain ⟨q4, d4, rfl⟩ := own_slice hown4)
                | (refine wpList_app _ rfl (.tmp 33) (.tmp 35) 32 rfl wr.heap.size 9 i0 (.string ⟨#[]⟩) 16 Try.underlying32 hi hz0 hz1 hz2 rfl _ (k' + 1) _ rfl (own_below hown4 (below_alloc _ _)) ⟨w4.heap.size, 0, none⟩ 1 1 [.string (bs s)] rfl rfl (by intro j u hu; cases j with | zero => (simp at hu; subst hu; simp [go_sem, Addr.add]) | succ j => simp at hu) (by intro y hy; simp at hy; subst hy; rfl) (by unfold maxLen; omega) (by omega) (by have := hb4.size; simp; omega) ?_; intro v5 w5 hown5 hgr5 hwh5; have hb5 : Below wr.heap.size wr w5 := (below_trans hb4 (below_alloc w4 _)).grown hgr5 (by have := hb4.size; simp; omega) (fun r e => (hown4.lt r e).1); obtain ⟨q5, d5, rfl⟩ := own_slice hown5)
                | (refine wpList_app _ rfl (.tmp 37) (.tmp 40) 32 rfl wr.heap.size 9 i0 (.string ⟨#[]⟩) 16 Try.underlying32 hi hz0 hz1 hz2 rfl _ (k' + 1 + 1) _ rfl hown5 ⟨g2, k' + 1, none⟩ (i - (k' + 1)) (e + 1) (strVs (O.drop (k' + 1))) rfl (HLB.out _ (by omega)) (HNB.out (k' + 1) _ hb5) (strs_one _) (by unfold maxLen; omega) (by omega) (by have := hb5.size; omega) ?_; intro v6 w6 hown6 hgr6 hwh6; have hb6 : Below wr.heap.size wr w6 := hb5.grown hgr6 (by have := hb5.size; omega) (fun r e => (hown5.lt r e).1); rw [show k' + 1 + 1 + (i - (k' + 1)) = i + 1 from by omega, HCAT.out] at hown6; obtain ⟨g6, d6, rfl⟩ := ownsRow_succ hown6))
              have HO6 := Lib.hid hown6; have HB6 := Lib.hid hb6
              clear hown4 hgr4 hwh4 hb4 hown5 hgr5 hwh5 hb5 hown6 hgr6 hwh6 hb6
              go_roundw
              case rel =>
                refine ⟨i + 1, d6, some ⟨g6, 0, none⟩, _, by omega, by go_num, rfl, fun h => by omega, ?_, HINS.out.1, ?_, own_mono HO6.out HX.out.2.2.2.2.size, below_trans HX.out.2.2.2.2 HB6.out⟩
                · have := HINS.out.2.length_eq; rw [this]; simp; exact HX.out.1
                · rw [List.take_succ_eq_append_getElem hil, ← HS.out]
                  exact HINS.out.2.trans (HX.out.2.2.1.append_right _)
              case measure => simp [intOf] <;> omega
    · obtain rfl : i = N := by omega
      go_wp2_with fail
      go_ret
      refine ⟨_, rfl, ?_, HX.out.2.2.2.2⟩
      have hp := HX.out.2.2.1
      rw [List.take_of_length_le (by rw [← HN.out]; exact Nat.le_refl _)] at hp
      rw [← sorted_is hp HX.out.2.1]
      exact HX.out.2.2.2.1
end Go.Proofs.Ytaagfcdniacmnab
