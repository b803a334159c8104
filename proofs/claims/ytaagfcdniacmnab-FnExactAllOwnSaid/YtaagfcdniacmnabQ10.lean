/- The words that are their own inventories (pure): the model's pairs and the odometer's tallies give the same words in the same order. -/
import Derived.Test.YtaagfcdniacmnabQ1
import Derived.Test.YtaagfcdniacmnabQ4
namespace Go.Proofs.Ytaagfcdniacmnab
set_option linter.unusedSimpArgs false
set_option linter.unusedVariables false

/-- The texts that begin with b and tell the digits d + 1, .., d + m, each up to mo times. -/
def prs (mo : Nat) : Nat → Nat → List UInt8 → List (List UInt8)
  | 0, _, b => [b]
  | m + 1, d, b => prs mo m (d + 1) b ++ (List.range' 1 mo).flatMap fun n => prs mo m (d + 1) (b ++ numL n ++ numL (d + 1))
theorem prs_all (mo : Nat) : ∀ (m d left : Nat) (b : List UInt8), m * mo ≤ left → prs mo m d b = (allS mo m left).map (fun c => b ++ prF d c)
  | 0, d, left, b, _ => by simp [prs, allS, prF]
  | m + 1, d, left, b, h => by
    rw [Nat.succ_mul] at h
    rw [prs, allS, Nat.min_eq_left (by omega), List.range'_succ, List.flatMap_cons, List.map_append, List.map_map, List.map_flatMap, prs_all mo m (d + 1) left b (by omega), Nat.sub_zero]
    congr 1
    rw [List.flatMap_def, List.flatMap_def]
    congr 1
    apply List.map_congr_left
    intro n hn
    have hn' := List.mem_range'_1.1 hn
    rw [prs_all mo m (d + 1) (left - n) _ (by omega), List.map_map]
    apply List.map_congr_left
    intro c _
    simp only [Function.comp, prF]
    rw [if_neg (by omega)]
    simp [List.append_assoc]
theorem allS_filter (mo : Nat) : ∀ (m L S : Nat), S ≤ L → (allS mo m L).filter (fun c => decide (c.sum ≤ S)) = allS mo m S
  | 0, L, S, _ => by simp [allS, List.filter_cons]
  | m + 1, L, S, h => by
    rw [allS, List.filter_flatMap]
    obtain ⟨e, he⟩ : ∃ e, min mo L + 1 = (min mo S + 1) + e := ⟨min mo L - min mo S, by omega⟩
    rw [he, ← List.range'_append_1, List.flatMap_append]
    have h1 : ((List.range' 0 (min mo S + 1)).flatMap fun y => ((allS mo m (L - y)).map (y :: ·)).filter fun c => decide (c.sum ≤ S)) = allS mo (m + 1) S := by
      rw [allS, List.flatMap_def, List.flatMap_def]
      congr 1
      apply List.map_congr_left
      intro y hy
      have hy' := List.mem_range'_1.1 hy
      rw [List.filter_map, ← allS_filter mo m (L - y) (S - y) (by omega)]
      congr 1
      apply List.filter_congr
      intro c _
      simp only [Function.comp, List.sum_cons]
      apply decide_eq_decide.2
      omega
    have h2 : ((List.range' (0 + (min mo S + 1)) e).flatMap fun y => ((allS mo m (L - y)).map (y :: ·)).filter fun c => decide (c.sum ≤ S)) = [] := by
      rw [List.flatMap_eq_nil_iff]
      intro y hy
      have hy' := List.mem_range'_1.1 hy
      rw [List.filter_eq_nil_iff]
      intro c hc
      obtain ⟨t, _, rfl⟩ := List.mem_map.1 hc
      intro hh
      have := of_decide_eq_true hh
      simp only [List.sum_cons] at this
      omega
    rw [h1, h2, List.append_nil]
theorem allS_le (mo : Nat) : ∀ (m left : Nat), ∀ c ∈ allS mo m left, ∀ n ∈ c, n ≤ mo
  | 0, _, c, h, n, hn => by simp [allS] at h; subst h; simp at hn
  | m + 1, left, c, h, n, hn => by
    simp only [allS, List.mem_flatMap, List.mem_map] at h
    obtain ⟨y, hy, t, ht, rfl⟩ := h
    have hy' := List.mem_range'_1.1 hy
    rcases List.mem_cons.1 hn with rfl | hn
    · omega
    · exact allS_le mo m _ t ht n hn
theorem prF_zeros (c : List Nat) : ∀ (k d : Nat), prF d (c ++ List.replicate k 0) = prF d c
  | 0, d => by simp
  | k + 1, d => by
    rw [List.replicate_succ', ← List.append_assoc, prF_snoc, prF_zeros c k d]; simp
theorem prF_nil : ∀ (k d : Nat), prF d (List.replicate k 0) = []
  | 0, _ => rfl
  | k + 1, d => by rw [List.replicate_succ, prF, prF_nil k (d + 1)]; rfl
theorem prF_len : ∀ (c : List Nat) (d : Nat), (∀ n ∈ c, n ≤ 9) → d + c.length ≤ 9 → (prF d c).length ≤ 2 * c.length
  | [], _, _, _ => by simp [prF]
  | n :: r, d, hn, hd => by
    simp only [List.length_cons] at hd ⊢
    have h1 := prF_len r (d + 1) (fun x hx => hn x (List.mem_cons_of_mem _ hx)) (by omega)
    rw [prF, List.length_append]
    split
    · simp; omega
    · rw [numL_small n (hn n List.mem_cons_self), numL_small (d + 1) (by omega)]; simp; omega
theorem prF_dig : ∀ (c : List Nat) (d : Nat), (∀ n ∈ c, n ≤ 9) → d + c.length ≤ 9 → (prF d c).all digB = true
  | [], _, _, _ => by simp [prF]
  | n :: r, d, hn, hd => by
    simp only [List.length_cons] at hd
    have h1 := prF_dig r (d + 1) (fun x hx => hn x (List.mem_cons_of_mem _ hx)) (by omega)
    have hn9 := hn n List.mem_cons_self
    rw [prF, List.all_append, h1, Bool.and_true]
    split
    · rfl
    · rename_i h0
      rw [numL_small n hn9, numL_small (d + 1) (by omega)]
      have e1 : (UInt8.ofNat (48 + n)).toNat = 48 + n := by simp; omega
      have e2 : (UInt8.ofNat (48 + (d + 1))).toNat = 48 + (d + 1) := by simp; omega
      simp [digB, UInt8.le_iff_toNat_le, e1, e2]
      omega
theorem prF_pos : ∀ (c : List Nat) (d : Nat), (∃ n ∈ c, n ≠ 0) → (∀ n ∈ c, n ≤ 9) → d + c.length ≤ 9 → 0 < (prF d c).length
  | [], _, h, _, _ => by obtain ⟨n, hn, _⟩ := h; simp at hn
  | n :: r, d, h, hn, hd => by
    simp only [List.length_cons] at hd
    rw [prF, List.length_append]
    by_cases h0 : n = 0
    · have : ∃ x ∈ r, x ≠ 0 := by
        obtain ⟨x, hx, hx0⟩ := h
        rcases List.mem_cons.1 hx with rfl | hx
        · exact absurd h0 hx0
        · exact ⟨x, hx, hx0⟩
      have := prF_pos r (d + 1) this (fun x hx => hn x (List.mem_cons_of_mem _ hx)) (by omega)
      omega
    · rw [if_neg h0, numL_small n (hn n List.mem_cons_self)]; simp; omega
theorem tal_sum : ∀ (l : List UInt8), l.all digB = true → (tal l).sum = l.length
  | [], _ => by simp [tal, List.range_succ]
  | a :: l, h => by
    simp only [List.all_cons, Bool.and_eq_true] at h
    have ih := tal_sum l h.2
    have ha : 49 ≤ a.toNat ∧ a.toNat ≤ 57 := by have := h.1; simp [digB, UInt8.le_iff_toNat_le] at this; exact this
    obtain ⟨j, hj, rfl⟩ : ∃ j, j < 9 ∧ a = dg j := ⟨a.toNat - 49, by omega, (dg_of ha.1 ha.2).symm⟩
    simp only [tal, List.range_succ, List.range_zero, List.nil_append, List.cons_append, List.map_cons, List.map_nil, List.sum_cons, List.sum_nil, List.count_cons, List.length_cons] at ih ⊢
    have hd : ∀ i, i < 9 → (dg j == dg i) = decide (j = i) := fun i hi => by
      by_cases e : j = i
      · subst e; simp
      · rw [decide_eq_false e]; simp; exact fun e' => e (dg_inj hj hi e')
    rw [hd 0 (by omega), hd 1 (by omega), hd 2 (by omega), hd 3 (by omega), hd 4 (by omega), hd 5 (by omega), hd 6 (by omega), hd 7 (by omega), hd 8 (by omega)]
    simp only [decide_eq_true_eq]
    rcases (by omega : j = 0 ∨ j = 1 ∨ j = 2 ∨ j = 3 ∨ j = 4 ∨ j = 5 ∨ j = 6 ∨ j = 7 ∨ j = 8) with rfl | rfl | rfl | rfl | rfl | rfl | rfl | rfl | rfl <;> simp <;> omega
/-- A tally that tells what is in its own text. -/
def ownC (c : List Nat) : Bool := decide (pad c = tal (prF 0 c))
theorem ownC_sum (c : List Nat) (h9 : c.length ≤ 9) (hn : ∀ n ∈ c, n ≤ 9) (h : ownC c = true) : c.sum ≤ 2 * c.length := by
  have h1 := of_decide_eq_true h
  have h2 := tal_sum (prF 0 c) (prF_dig c 0 hn (by omega))
  have h3 := prF_len c 0 hn (by omega)
  rw [← h1, pad_sum] at h2
  omega
theorem own_txt (c : List Nat) (h9 : c.length ≤ 9) (hn : ∀ n ∈ c, n ≤ 9) (h0 : ∃ n ∈ c, n ≠ 0) : isOwnL (prF 0 c) = ownC c := by
  have hg : goodL (prF 0 c) = true := by
    unfold goodL
    have := prF_pos c 0 h0 hn (by omega)
    have := prF_len c 0 hn (by omega)
    rw [prF_dig c 0 hn (by omega)]
    simp; omega
  have ht : toldL (prF 0 c) = some (pad c) := by
    unfold toldL
    rw [if_pos hg]
    have := told_of_pr (pad c) 0 0 zeros9 (Nat.le_refl _) (by rw [pad_len c h9]) rfl (fun i _ hi => zeros9_get i hi) (fun n hx => by
      unfold pad at hx
      rcases List.mem_append.1 hx with hx | hx
      · exact hn n hx
      · rw [List.eq_of_mem_replicate hx]; omega)
    have e : prF 0 (pad c) = prF 0 c := prF_zeros c _ 0
    rw [e] at this
    simpa using this
  unfold isOwnL ownC
  apply decide_eq_decide.2
  rw [← own_iff hg, ht]
  simp
theorem aftP_pos (mo m : Nat) : ∀ (p : List Nat) (left : Nat), ∀ c ∈ aftP mo m p left, ∃ n ∈ c, n ≠ 0
  | [], _, c, h => by simp [aftP] at h
  | x :: p, left, c, h => by
    rw [aftP, List.mem_append] at h
    rcases h with h | h
    · obtain ⟨t, ht, rfl⟩ := List.mem_map.1 h
      obtain ⟨n, hn, h0⟩ := aftP_pos mo m p _ t ht
      exact ⟨n, List.mem_cons_of_mem _ hn, h0⟩
    · obtain ⟨y, hy, h2⟩ := List.mem_flatMap.1 h
      obtain ⟨t, _, rfl⟩ := List.mem_map.1 h2
      have := List.mem_range'_1.1 hy
      exact ⟨y, List.mem_cons_self, by omega⟩
/-- The two lists of words. -/
theorem ownWords (mo : Nat) (h1 : 1 ≤ mo) (h9 : mo ≤ 9) : (prs mo mo 0 []).filter isOwnL = ((aftP mo 0 (List.replicate mo 0) (2 * mo)).filter ownC).map (prF 0) := by
  rw [prs_all mo mo 0 (mo * mo + 2 * mo) [] (by omega)]
  simp only [List.nil_append]
  rw [List.filter_map]
  congr 1
  have hz : isOwnL (prF 0 (List.replicate mo 0)) = false := by
    rw [prF_nil]; rfl
  have e1 : (allS mo mo (mo * mo + 2 * mo)).filter (isOwnL ∘ prF 0) = ((allS mo mo (mo * mo + 2 * mo)).filter (fun c => decide (c.sum ≤ 2 * mo))).filter (isOwnL ∘ prF 0) := by
    rw [List.filter_filter]
    apply List.filter_congr
    intro c hc
    have hcl := allS_len mo mo _ c hc
    have hcn : ∀ n ∈ c, n ≤ 9 := fun n hn => Nat.le_trans (allS_le mo mo _ c hc n hn) h9
    cases ho : (isOwnL ∘ prF 0) c with
    | false => rfl
    | true =>
      by_cases h0 : ∃ n ∈ c, n ≠ 0
      · have := ownC_sum c (by omega) hcn (by rw [← own_txt c (by omega) hcn h0]; exact ho)
        rw [hcl] at this
        simp [this]
      · have : c = List.replicate mo 0 := by
          rw [← hcl]
          exact List.eq_replicate_iff.2 ⟨rfl, fun n hn => Classical.byContradiction fun e => h0 ⟨n, hn, e⟩⟩
        rw [this] at ho
        exact absurd ho (by show ¬ isOwnL (prF 0 (List.replicate mo 0)) = true; rw [hz]; simp)
  rw [e1, allS_filter mo mo _ (2 * mo) (by omega), allS_zero, List.filter_cons_of_neg (by show ¬ isOwnL (prF 0 (List.replicate mo 0)) = true; rw [hz]; simp)]
  apply List.filter_congr
  intro c hc
  have hca : c ∈ allS mo mo (2 * mo) := by rw [allS_zero]; exact List.mem_cons_of_mem _ hc
  have hcl := allS_len mo mo _ c hca
  have hcn : ∀ n ∈ c, n ≤ 9 := fun n hn => Nat.le_trans (allS_le mo mo _ c hca n hn) h9
  exact own_txt c (by omega) hcn (aftP_pos mo 0 _ _ c hc)
end Go.Proofs.Ytaagfcdniacmnab
