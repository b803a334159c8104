/- Texts that belong together: Q10, Q11, Q12, Q13, Q14, Q15, Q16, Q17, Q18, Q19. -/
import Derived.Test.YtkdoghopbefjfaaQ1
import Derived.Test.YtkdoghopbefjfaaQ4
import Derived.Test.YtkdoghopbefjfaaMV
import Derived.Test.YtkdoghopbefjfaaQ6
import Derived.Test.YtkdoghopbefjfaaS
import Derived.Test.YtkdoghopbefjfaaE3
import Derived.Sort.KeysCollected
import Derived.Sort.Walk0
import Derived.Deep.RegionHeld
import Derived.Lib.OwnBridge
/- The words that are their own inventories (pure): the model's pairs and the odometer's tallies give the same words in the same order. -/
namespace Go.Proofs.Ytkdoghopbefjfaa
set_option linter.unusedSimpArgs false
set_option linter.unusedVariables false

/-- The texts that begin with b and tell the digits d + 1, .., d + m, each up to mo times. -/
def prs (mo : Nat) : Nat → Nat → List UInt8 → List (List UInt8)
  | 0, _, b => [b]
  | m + 1, d, b => prs mo m (d + 1) b ++ (List.range' 1 mo).flatMap fun n => prs mo m (d + 1) (b ++ numL n ++ numL (d + 1))
theorem prs_all (mo : Nat) : ∀ (m d left : Nat) (b : List UInt8), m * mo ≤ left → prs mo m d b = (allS mo m left).map (fun c => b ++ prF d c)
  | 0, d, left, b, _ => by simp [prs, allS, prF]
  | m + 1, d, left, b, h => by
    rw [Nat.succ_mul] at h
    rw [prs, allS, Nat.min_eq_left (by omega), List.range'_succ, List.flatMap_cons, List.map_append, List.map_map, List.map_flatMap, prs_all mo m (d + 1) left b (by omega), Nat.sub_zero]
    congr 1
    rw [List.flatMap_def, List.flatMap_def]
    congr 1
    apply List.map_congr_left
    intro n hn
    have hn' := List.mem_range'_1.1 hn
    rw [prs_all mo m (d + 1) (left - n) _ (by omega), List.map_map]
    apply List.map_congr_left
    intro c _
    simp only [Function.comp, prF]
    rw [if_neg (by omega)]
    simp [List.append_assoc]
theorem allS_filter (mo : Nat) : ∀ (m L S : Nat), S ≤ L → (allS mo m L).filter (fun c => decide (c.sum ≤ S)) = allS mo m S
  | 0, L, S, _ => by simp [allS, List.filter_cons]
  | m + 1, L, S, h => by
    rw [allS, List.filter_flatMap]
    obtain ⟨e, he⟩ : ∃ e, min mo L + 1 = (min mo S + 1) + e := ⟨min mo L - min mo S, by omega⟩
    rw [he, ← List.range'_append_1, List.flatMap_append]
    have h1 : ((List.range' 0 (min mo S + 1)).flatMap fun y => ((allS mo m (L - y)).map (y :: ·)).filter fun c => decide (c.sum ≤ S)) = allS mo (m + 1) S := by
      rw [allS, List.flatMap_def, List.flatMap_def]
      congr 1
      apply List.map_congr_left
      intro y hy
      have hy' := List.mem_range'_1.1 hy
      rw [List.filter_map, ← allS_filter mo m (L - y) (S - y) (by omega)]
      congr 1
      apply List.filter_congr
      intro c _
      simp only [Function.comp, List.sum_cons]
      apply decide_eq_decide.2
      omega
    have h2 : ((List.range' (0 + (min mo S + 1)) e).flatMap fun y => ((allS mo m (L - y)).map (y :: ·)).filter fun c => decide (c.sum ≤ S)) = [] := by
      rw [List.flatMap_eq_nil_iff]
      intro y hy
      have hy' := List.mem_range'_1.1 hy
      rw [List.filter_eq_nil_iff]
      intro c hc
      obtain ⟨t, _, rfl⟩ := List.mem_map.1 hc
      intro hh
      have := of_decide_eq_true hh
      simp only [List.sum_cons] at this
      omega
    rw [h1, h2, List.append_nil]
theorem allS_le (mo : Nat) : ∀ (m left : Nat), ∀ c ∈ allS mo m left, ∀ n ∈ c, n ≤ mo
  | 0, _, c, h, n, hn => by simp [allS] at h; subst h; simp at hn
  | m + 1, left, c, h, n, hn => by
    simp only [allS, List.mem_flatMap, List.mem_map] at h
    obtain ⟨y, hy, t, ht, rfl⟩ := h
    have hy' := List.mem_range'_1.1 hy
    rcases List.mem_cons.1 hn with rfl | hn
    · omega
    · exact allS_le mo m _ t ht n hn
theorem prF_zeros (c : List Nat) : ∀ (k d : Nat), prF d (c ++ List.replicate k 0) = prF d c
  | 0, d => by simp
  | k + 1, d => by
    rw [List.replicate_succ', ← List.append_assoc, prF_snoc, prF_zeros c k d]; simp
theorem prF_nil : ∀ (k d : Nat), prF d (List.replicate k 0) = []
  | 0, _ => rfl
  | k + 1, d => by rw [List.replicate_succ, prF, prF_nil k (d + 1)]; rfl
theorem prF_len : ∀ (c : List Nat) (d : Nat), (∀ n ∈ c, n ≤ 9) → d + c.length ≤ 9 → (prF d c).length ≤ 2 * c.length
  | [], _, _, _ => by simp [prF]
  | n :: r, d, hn, hd => by
    simp only [List.length_cons] at hd ⊢
    have h1 := prF_len r (d + 1) (fun x hx => hn x (List.mem_cons_of_mem _ hx)) (by omega)
    rw [prF, List.length_append]
    split
    · simp; omega
    · rw [numL_small n (hn n List.mem_cons_self), numL_small (d + 1) (by omega)]; simp; omega
theorem prF_dig : ∀ (c : List Nat) (d : Nat), (∀ n ∈ c, n ≤ 9) → d + c.length ≤ 9 → (prF d c).all digB = true
  | [], _, _, _ => by simp [prF]
  | n :: r, d, hn, hd => by
    simp only [List.length_cons] at hd
    have h1 := prF_dig r (d + 1) (fun x hx => hn x (List.mem_cons_of_mem _ hx)) (by omega)
    have hn9 := hn n List.mem_cons_self
    rw [prF, List.all_append, h1, Bool.and_true]
    split
    · rfl
    · rename_i h0
      rw [numL_small n hn9, numL_small (d + 1) (by omega)]
      have e1 : (UInt8.ofNat (48 + n)).toNat = 48 + n := by simp; omega
      have e2 : (UInt8.ofNat (48 + (d + 1))).toNat = 48 + (d + 1) := by simp; omega
      simp [digB, UInt8.le_iff_toNat_le, e1, e2]
      omega
theorem prF_pos : ∀ (c : List Nat) (d : Nat), (∃ n ∈ c, n ≠ 0) → (∀ n ∈ c, n ≤ 9) → d + c.length ≤ 9 → 0 < (prF d c).length
  | [], _, h, _, _ => by obtain ⟨n, hn, _⟩ := h; simp at hn
  | n :: r, d, h, hn, hd => by
    simp only [List.length_cons] at hd
    rw [prF, List.length_append]
    by_cases h0 : n = 0
    · have : ∃ x ∈ r, x ≠ 0 := by
        obtain ⟨x, hx, hx0⟩ := h
        rcases List.mem_cons.1 hx with rfl | hx
        · exact absurd h0 hx0
        · exact ⟨x, hx, hx0⟩
      have := prF_pos r (d + 1) this (fun x hx => hn x (List.mem_cons_of_mem _ hx)) (by omega)
      omega
    · rw [if_neg h0, numL_small n (hn n List.mem_cons_self)]; simp; omega
theorem tal_sum : ∀ (l : List UInt8), l.all digB = true → (tal l).sum = l.length
  | [], _ => by simp [tal, List.range_succ]
  | a :: l, h => by
    simp only [List.all_cons, Bool.and_eq_true] at h
    have ih := tal_sum l h.2
    have ha : 49 ≤ a.toNat ∧ a.toNat ≤ 57 := by have := h.1; simp [digB, UInt8.le_iff_toNat_le] at this; exact this
    obtain ⟨j, hj, rfl⟩ : ∃ j, j < 9 ∧ a = dg j := ⟨a.toNat - 49, by omega, (dg_of ha.1 ha.2).symm⟩
    simp only [tal, List.range_succ, List.range_zero, List.nil_append, List.cons_append, List.map_cons, List.map_nil, List.sum_cons, List.sum_nil, List.count_cons, List.length_cons] at ih ⊢
    have hd : ∀ i, i < 9 → (dg j == dg i) = decide (j = i) := fun i hi => by
      by_cases e : j = i
      · subst e; simp
      · rw [decide_eq_false e]; simp; exact fun e' => e (dg_inj hj hi e')
    rw [hd 0 (by omega), hd 1 (by omega), hd 2 (by omega), hd 3 (by omega), hd 4 (by omega), hd 5 (by omega), hd 6 (by omega), hd 7 (by omega), hd 8 (by omega)]
    simp only [decide_eq_true_eq]
    rcases (by omega : j = 0 ∨ j = 1 ∨ j = 2 ∨ j = 3 ∨ j = 4 ∨ j = 5 ∨ j = 6 ∨ j = 7 ∨ j = 8) with rfl | rfl | rfl | rfl | rfl | rfl | rfl | rfl | rfl <;> simp <;> omega
/-- A tally that tells what is in its own text. -/
def ownC (c : List Nat) : Bool := decide (pad c = tal (prF 0 c))
theorem ownC_sum (c : List Nat) (h9 : c.length ≤ 9) (hn : ∀ n ∈ c, n ≤ 9) (h : ownC c = true) : c.sum ≤ 2 * c.length := by
  have h1 := of_decide_eq_true h
  have h2 := tal_sum (prF 0 c) (prF_dig c 0 hn (by omega))
  have h3 := prF_len c 0 hn (by omega)
  rw [← h1, pad_sum] at h2
  omega
theorem own_txt (c : List Nat) (h9 : c.length ≤ 9) (hn : ∀ n ∈ c, n ≤ 9) (h0 : ∃ n ∈ c, n ≠ 0) : isOwnL (prF 0 c) = ownC c := by
  have hg : goodL (prF 0 c) = true := by
    unfold goodL
    have := prF_pos c 0 h0 hn (by omega)
    have := prF_len c 0 hn (by omega)
    rw [prF_dig c 0 hn (by omega)]
    simp; omega
  have ht : toldL (prF 0 c) = some (pad c) := by
    unfold toldL
    rw [if_pos hg]
    have := told_of_pr (pad c) 0 0 zeros9 (Nat.le_refl _) (by rw [pad_len c h9]) rfl (fun i _ hi => zeros9_get i hi) (fun n hx => by
      unfold pad at hx
      rcases List.mem_append.1 hx with hx | hx
      · exact hn n hx
      · rw [List.eq_of_mem_replicate hx]; omega)
    have e : prF 0 (pad c) = prF 0 c := prF_zeros c _ 0
    rw [e] at this
    simpa using this
  unfold isOwnL ownC
  apply decide_eq_decide.2
  rw [← own_iff hg, ht]
  simp
theorem aftP_pos (mo m : Nat) : ∀ (p : List Nat) (left : Nat), ∀ c ∈ aftP mo m p left, ∃ n ∈ c, n ≠ 0
  | [], _, c, h => by simp [aftP] at h
  | x :: p, left, c, h => by
    rw [aftP, List.mem_append] at h
    rcases h with h | h
    · obtain ⟨t, ht, rfl⟩ := List.mem_map.1 h
      obtain ⟨n, hn, h0⟩ := aftP_pos mo m p _ t ht
      exact ⟨n, List.mem_cons_of_mem _ hn, h0⟩
    · obtain ⟨y, hy, h2⟩ := List.mem_flatMap.1 h
      obtain ⟨t, _, rfl⟩ := List.mem_map.1 h2
      have := List.mem_range'_1.1 hy
      exact ⟨y, List.mem_cons_self, by omega⟩
/-- The two lists of words. -/
theorem ownWords (mo : Nat) (h1 : 1 ≤ mo) (h9 : mo ≤ 9) : (prs mo mo 0 []).filter isOwnL = ((aftP mo 0 (List.replicate mo 0) (2 * mo)).filter ownC).map (prF 0) := by
  rw [prs_all mo mo 0 (mo * mo + 2 * mo) [] (by omega)]
  simp only [List.nil_append]
  rw [List.filter_map]
  congr 1
  have hz : isOwnL (prF 0 (List.replicate mo 0)) = false := by
    rw [prF_nil]; rfl
  have e1 : (allS mo mo (mo * mo + 2 * mo)).filter (isOwnL ∘ prF 0) = ((allS mo mo (mo * mo + 2 * mo)).filter (fun c => decide (c.sum ≤ 2 * mo))).filter (isOwnL ∘ prF 0) := by
    rw [List.filter_filter]
    apply List.filter_congr
    intro c hc
    have hcl := allS_len mo mo _ c hc
    have hcn : ∀ n ∈ c, n ≤ 9 := fun n hn => Nat.le_trans (allS_le mo mo _ c hc n hn) h9
    cases ho : (isOwnL ∘ prF 0) c with
    | false => rfl
    | true =>
      by_cases h0 : ∃ n ∈ c, n ≠ 0
      · have := ownC_sum c (by omega) hcn (by rw [← own_txt c (by omega) hcn h0]; exact ho)
        rw [hcl] at this
        simp [this]
      · have : c = List.replicate mo 0 := by
          rw [← hcl]
          exact List.eq_replicate_iff.2 ⟨rfl, fun n hn => Classical.byContradiction fun e => h0 ⟨n, hn, e⟩⟩
        rw [this] at ho
        exact absurd ho (by show ¬ isOwnL (prF 0 (List.replicate mo 0)) = true; rw [hz]; simp)
  rw [e1, allS_filter mo mo _ (2 * mo) (by omega), allS_zero, List.filter_cons_of_neg (by show ¬ isOwnL (prF 0 (List.replicate mo 0)) = true; rw [hz]; simp)]
  apply List.filter_congr
  intro c hc
  have hca : c ∈ allS mo mo (2 * mo) := by rw [allS_zero]; exact List.mem_cons_of_mem _ hc
  have hcl := allS_len mo mo _ c hca
  have hcn : ∀ n ∈ c, n ≤ 9 := fun n hn => Nat.le_trans (allS_le mo mo _ c hca n hn) h9
  exact own_txt c (by omega) hcn (aftP_pos mo 0 _ _ c hc)
end Go.Proofs.Ytkdoghopbefjfaa

/- Texts in order (pure): a text laid into its place among sorted ones; what is sorted is the sorted list. -/
namespace Go.Proofs.Ytkdoghopbefjfaa
set_option linter.unusedSimpArgs false
set_option linter.unusedVariables false

theorem sorted_is {R l : List (List UInt8)} (hp : R.Perm l) (hs : R.Pairwise (· ≤ ·)) : R = l.mergeSort fun x y => decide (x ≤ y) := by
  have tr : ∀ a b c : List UInt8, decide (a ≤ b) = true → decide (b ≤ c) = true → decide (a ≤ c) = true := fun a b c h1 h2 => by simp only [decide_eq_true_eq] at *; exact List.le_trans h1 h2
  have tot : ∀ a b : List UInt8, (decide (a ≤ b) || decide (b ≤ a)) = true := fun a b => by simp only [Bool.or_eq_true, decide_eq_true_eq]; exact List.le_total a b
  refine List.Perm.eq_of_pairwise (le := fun a b => a ≤ b) (fun a b _ _ h1 h2 => List.le_antisymm h1 h2) hs ?_ (hp.trans (List.mergeSort_perm l _).symm)
  exact (List.pairwise_mergeSort tr tot l).imp fun h => by simpa using h
theorem ins_ok (out : List (List UInt8)) (s : List UInt8) (k : Nat) (hk : k ≤ out.length) (hs : out.Pairwise (· ≤ ·)) (h1 : ∀ j (hj : j < out.length), k ≤ j → s < out[j])
    (h2 : k = 0 ∨ ∃ h : k - 1 < out.length, ¬ s < out[k - 1]) : (out.take k ++ s :: out.drop k).Pairwise (· ≤ ·) ∧ (out.take k ++ s :: out.drop k).Perm (out ++ [s]) := by
  have hs' := hs
  rw [← List.take_append_drop k out] at hs'
  obtain ⟨p1, p2, p3⟩ := List.pairwise_append.1 hs'
  constructor
  · refine List.pairwise_append.2 ⟨p1, List.pairwise_cons.2 ⟨fun b hb => ?_, p2⟩, fun a ha b hb => ?_⟩
    · obtain ⟨j, hj, e⟩ := List.getElem_of_mem hb
      rw [List.getElem_drop] at e
      rw [← e]
      exact List.le_of_lt (h1 (k + j) (by rw [List.length_drop] at hj; omega) (by omega))
    · rcases List.mem_cons.1 hb with rfl | hb
      · obtain ⟨i, hi, e⟩ := List.getElem_of_mem ha
        have hik : i < k := by rw [List.length_take] at hi; omega
        rw [List.getElem_take] at e
        rcases h2 with h2 | ⟨hlt, hn⟩
        · omega
        · have hle : out[i]'(by omega) ≤ out[k - 1] := by
            by_cases e' : i = k - 1
            · subst e'; exact List.le_refl _
            · exact List.pairwise_iff_getElem.1 hs i (k - 1) (by omega) hlt (by omega)
          rw [← e]
          exact List.le_trans hle (List.not_lt.1 hn)
      · exact p3 a ha b hb
  · have e : (out.take k ++ s :: out.drop k).Perm (s :: (out.take k ++ out.drop k)) := List.perm_middle
    rw [List.take_append_drop] at e
    exact e.trans (List.perm_append_singleton s out).symm
end Go.Proofs.Ytkdoghopbefjfaa

/- AllOwn: the model's taPairs (a recursion). -/
namespace Go.Proofs.Ytkdoghopbefjfaa
open Go.RowKit Go.BigFrame
set_option linter.unusedSimpArgs false
set_option linter.unusedVariables false
set_option maxRecDepth 4000

theorem prs_len (mo : Nat) : ∀ (m d : Nat) (b : List UInt8), (prs mo m d b).length = (mo + 1) ^ m
  | 0, _, _ => rfl
  | m + 1, d, b => by
    rw [prs, List.length_append, prs_len mo m (d + 1) b, List.length_flatMap]
    have : ((List.range' 1 mo).map fun n => (prs mo m (d + 1) (b ++ numL n ++ numL (d + 1))).length).sum = mo * (mo + 1) ^ m := by
      have h : ∀ l : List Nat, (l.map fun n => (prs mo m (d + 1) (b ++ numL n ++ numL (d + 1))).length).sum = l.length * (mo + 1) ^ m := by
        intro l
        induction l with
        | nil => simp
        | cons x l ih => rw [List.map_cons, List.sum_cons, ih, prs_len mo m (d + 1) _, List.length_cons, Nat.succ_mul, Nat.add_comm]
      rw [h, List.length_range']
    rw [this, Nat.pow_succ, Nat.mul_comm, Nat.mul_succ, Nat.mul_comm ((mo + 1) ^ m) mo, Nat.add_comm]
def prsK (mo m d : Nat) (b : List UInt8) (k : Nat) : List (List UInt8) := prs mo m (d + 1) b ++ (List.range' 1 k).flatMap fun n => prs mo m (d + 1) (b ++ numL n ++ numL (d + 1))
theorem prsK_succ (mo m d : Nat) (b : List UInt8) (k : Nat) : prsK mo m d b (k + 1) = prsK mo m d b k ++ prs mo m (d + 1) (b ++ numL (k + 1) ++ numL (d + 1)) := by
  unfold prsK
  rw [List.range'_concat, List.flatMap_append, List.append_assoc]
  congr 2
  simp [Nat.add_comm]
theorem prsK_len (mo m d : Nat) (b : List UInt8) : ∀ k, (prsK mo m d b k).length = (k + 1) * (mo + 1) ^ m
  | 0 => by simp [prsK, prs_len]
  | k + 1 => by rw [prsK_succ, List.length_append, prsK_len mo m d b k, prs_len, Nat.succ_mul (k + 1)]

set_option maxHeartbeats 2000000 in
theorem taPairs_step (mo m d : Nat) (b : List UInt8) (w : World) (h1 : 1 ≤ mo) (h6 : mo ≤ 6) (hd : d + (m + 1) = mo) (hb : b.length ≤ 2 * d)
    (hrec : ∀ b', b'.length ≤ 2 * (d + 1) → ∀ W, Calls Try.prog 73 #[.int .i64 ((d : Int) + 1 + 1), .int .i64 (mo : Int), .string (bs b')] W fun e w' => TextsOk (prs mo m (d + 1) b') W w' e) :
    Calls Try.prog 73 #[.int .i64 ((d : Int) + 1), .int .i64 (mo : Int), .string (bs b)] w fun e w' => TextsOk (prs mo (m + 1) d b) w w' e := by
  obtain ⟨i0, hi, hz0, hz1, hz2⟩ := info_parts info_str
  obtain ⟨M, hM⟩ : ∃ M, M = (mo + 1) ^ m := ⟨_, rfl⟩
  have hMb : M ≤ 1000000 := by
    have h2 : (mo + 1) ^ m ≤ 7 ^ m := Nat.pow_le_pow_left (by omega) m
    have h3 : 7 ^ m ≤ 7 ^ 6 := Nat.pow_le_pow_right (by omega) (by omega)
    have h4 : (7 : Nat) ^ 6 = 117649 := by decide
    omega
  have hM1 : 1 ≤ M := by rw [hM]; exact Nat.pow_pos (by omega)
  have hpl := fun b' => prs_len mo m (d + 1) b'
  have hkl := fun k => prsK_len mo m d b k
  rw [← hM] at hpl hkl
  have hks := fun k => prsK_succ mo m d b k
  have hbsz : (bs b).size ≤ 12 := by rw [bs_size]; omega
  have hn1 : ∀ (W : World) (n : Nat), n ≤ 9 → Calls Try.prog 96 #[.int .i64 (n : Int)] W fun e w' => e = .returned (.string (bs (numL n))) ∧ Below W.heap.size W w' := fun W n h => by
    have := l1Num_any n (n : Int) W (by omega) (by omega) (by omega)
    rw [Int.toNat_natCast] at this
    exact this
  have hn2 : ∀ (W : World), Calls Try.prog 96 #[.int .i64 ((d : Int) + 1)] W fun e w' => e = .returned (.string (bs (numL (d + 1)))) ∧ Below W.heap.size W w' := fun W => hn1 W (d + 1) (by omega)
  have hrec0 := hrec b (by omega)
  have hrecK := fun (k : Nat) (hk : k ≤ 8) W => hrec (b ++ numL (k + 1) ++ numL (d + 1)) (by rw [List.length_append, List.length_append, numL_small (k + 1) (by omega), numL_small (d + 1) (by omega)]; simp; omega) W
  have hsz : ∀ k : Nat, k ≤ 8 → (bs (numL (k + 1))).size = 1 := fun k hk => by rw [bs_size, numL_small (k + 1) (by omega)]; rfl
  have hpr : prs mo (m + 1) d b = prsK mo m d b mo := rfl
  rw [hpr]
  have HPL := Lib.hid hpl; have HKL := Lib.hid hkl; have HKS := Lib.hid hks; have HN1 := Lib.hid hn1; have HN2 := Lib.hid hn2; have HR0 := Lib.hid hrec0; have HRK := Lib.hid hrecK; have HSZ := Lib.hid hsz; have HM1 := Lib.hid hM1
  clear hpl hkl hks hn1 hn2 hrec hrec0 hrecK hsz hpr hM hM1
  go_enter Try.func73, Try.ntmps73
  go_wp2_with fail
  refine (HR0.out _).mono ?_
  rintro e w1 ⟨g0, c0, rfl, ho0, hb0⟩
  have hp0 : prs mo m (d + 1) b = prsK mo m d b 0 := by simp [prsK]
  rw [HPL.out b] at ho0 ⊢
  rw [hp0] at ho0
  have HO0 := Lib.hid ho0; have HB0 := Lib.hid hb0; clear ho0 hb0 hp0
  have hlt0 : ¬ ((d : Int) + 1 > (mo : Int)) := by omega
  go_wp2_with fail
  go_loopw [7, 8] (fun o iv wr => ∃ (k g c n : Nat), k ≤ mo ∧ iv = .int .i64 ((k : Int) + 1) ∧ o = .slice (some ⟨g, 0, none⟩) n c ∧ Hid (n = (k + 1) * M ∧ wr.ownsRow w.heap.size 9 1 (.slice (some ⟨g, 0, none⟩) n c) n (strVs (prsK mo m d b k)) ∧ Below w.heap.size w wr)) (fun _ iv _ => mo + 1 - (intOf iv).toNat)
  case atStart => exact ⟨0, g0, c0, M, by omega, by simp, rfl, by omega, HO0.out, HB0.out⟩
  case round =>
    obtain ⟨k, g, c, n, hk, rfl, rfl, HX⟩ := hrel
    have hnb : n ≤ 7000000 := by
      have h1 := HX.out.1
      have h2 := Nat.mul_le_mul (show k + 1 ≤ 7 by omega) hMb
      omega
    by_cases hlt : k < mo
    · have hn3 : ∀ W, Calls Try.prog 96 #[.int .i64 ((k : Int) + 1)] W fun e w' => e = .returned (.string (bs (numL (k + 1)))) ∧ Below W.heap.size W w' := fun W => HN1.out W (k + 1) (by omega)
      have hs1 := HSZ.out k (by omega)
      have hs2 := HSZ.out d (by omega)
      have hrk := HRK.out k (by omega)
      have hks := HKS.out k
      obtain ⟨rs, hrs⟩ : ∃ rs, rs = prs mo m (d + 1) (b ++ numL (k + 1) ++ numL (d + 1)) := ⟨_, rfl⟩
      have hrl : rs.length = M := by rw [hrs]; exact HPL.out _
      rw [← hrs] at hrk hks
      have HN3 := Lib.hid hn3; have HRK2 := Lib.hid hrk; have HKS2 := Lib.hid hks; have HRL := Lib.hid hrl
      clear hn3 hrk hks hrs hrl
      go_wp2_with fail
      refine (HN3.out _).mono ?_
      rintro e w2 ⟨rfl, hb2⟩
      have HB2 := Lib.hid hb2; clear hb2
      go_wp2_with fail
      refine (HN2.out _).mono ?_
      rintro e w3 ⟨rfl, hb3⟩
      have HB3 := Lib.hid (below_trans HB2.out hb3); clear hb3
      go_wp2_with fail
      rw [bs_append, bs_append]
      refine (HRK2.out w3).mono ?_
      rintro e w4 ⟨g4, c4, rfl, ho4, hb4⟩
      have hb04 : Below wr.heap.size wr w4 := below_trans HB3.out hb4
      have HBL : Hid (Below w.heap.size w w4) := below_trans HX.out.2.2 hb04
      have HO4 := Lib.hid ho4
      have HOX : Hid (w4.ownsRow w.heap.size 9 1 (.slice (some ⟨g, 0, none⟩) n c) n (strVs (prsK mo m d b k))) := own_below HX.out.2.1 hb04
      have HS4 := Lib.hid (strs_news ho4 rfl)
      rw [HRL.out]
      clear ho4 hb4 hb04
      go_wp2_with (at_builtin; refine wpList_app _ rfl _ _ 27 rfl w.heap.size 9 i0 (.string ⟨#[]⟩) 16 Try.underlying27 hi hz0 hz1 hz2 rfl _ n _ rfl HOX.out ⟨g4, 0, none⟩ M c4 (strVs rs) rfl (by rw [← HRL.out]; simp [strVs]) HS4.out (strs_one rs) ?c3 ?c4 ?c5 ?_)
      case c3 => unfold maxLen; omega
      case c4 => omega
      case c5 => exact HBL.out.size
      intro v' w5 hown' hgrow _
      rcases own_open hown' with ⟨_, h0, _⟩ | ⟨g5, c5, rfl, _⟩
      · have := HM1.out; omega
      have R1 := Lib.hid hown'
      have R2 := Lib.hid (HBL.out.grown hgrow HBL.out.size (fun z hz => (HOX.out.lt z hz).1))
      clear hown' hgrow
      go_wp2_with fail
      go_roundw
      case rel =>
        refine ⟨k + 1, g5, c5, n + M, by omega, by go_num, rfl, by rw [HX.out.1, Nat.succ_mul (k + 1)], ?_, R2.out⟩
        rw [HKS2.out]
        have := R1.out
        simpa [strVs] using this
      case measure => simp [intOf] <;> omega
    · obtain rfl : k = mo := by omega
      have hl := HKL.out k
      rw [← HX.out.1] at hl
      have HL := Lib.hid hl; clear hl
      go_wp2_with fail
      go_ret
      refine ⟨g, c, by rw [HL.out]; rfl, ?_, HX.out.2.2⟩
      rw [HL.out]
      exact HX.out.2.1
theorem taPairs_end (mo d : Nat) (b : List UInt8) (w : World) (hd : d = mo) (h6 : mo ≤ 6) :
    Calls Try.prog 73 #[.int .i64 ((d : Int) + 1), .int .i64 (mo : Int), .string (bs b)] w fun e w' => TextsOk (prs mo 0 d b) w w' e := by
  subst hd
  go_enter Try.func73, Try.ntmps73
  go_wp2_with fail
  go_ret
  refine ⟨w.heap.size, 1, by first | rfl | (simp; done), ?_, below_alloc _ _⟩
  exact own_lit w w.heap.size 9 [.string (bs b)] (Nat.le_refl _) (by simp [maxLen])
theorem taPairs_any (mo : Nat) (h1 : 1 ≤ mo) (h6 : mo ≤ 6) : ∀ (m d : Nat) (b : List UInt8) (w : World), d + m = mo → b.length ≤ 2 * d →
    Calls Try.prog 73 #[.int .i64 ((d : Int) + 1), .int .i64 (mo : Int), .string (bs b)] w fun e w' => TextsOk (prs mo m d b) w w' e
  | 0, d, b, w, hd, _ => taPairs_end mo d b w (by omega) h6
  | m + 1, d, b, w, hd, hb => taPairs_step mo m d b w h1 h6 hd hb (fun b' hb' W => by
      have := taPairs_any mo h1 h6 m (d + 1) b' W (by omega) hb'
      exact this)
end Go.Proofs.Ytkdoghopbefjfaa

/- AllOwn: the model's taSorted. -/
namespace Go.Proofs.Ytkdoghopbefjfaa
open Go.RowKit Go.BigFrame
set_option linter.unusedSimpArgs false
set_option linter.unusedVariables false
set_option maxRecDepth 4000

theorem cmp_bs (x y : List UInt8) : Op.bytesLess (bs x).toList (bs y).toList = decide (x < y) := by
  rw [bytes_toListT, bytes_toListT, bytesLess_eq]
  exact decide_eq_decide.2 (by simp [bs])
set_option maxHeartbeats 2000000 in
theorem taSorted_any (w : World) (B N : Nat) (v : Value) (ls : List (List UInt8)) (hN : N = ls.length) (hl : N ≤ 1000000) (ho : w.ownsRow B 9 1 v N (strVs ls)) :
    Calls Try.prog 74 #[v] w fun e w' => ∃ v', e = .returned v' ∧ w'.ownsRow w.heap.size 9 1 v' N (strVs (ls.mergeSort fun x y => decide (x ≤ y))) ∧ Below w.heap.size w w' := by
  obtain ⟨i0, hi, hz0, hz1, hz2⟩ := info_parts info_str
  obtain ⟨a, cp, rfl⟩ := own_slice ho
  have HO := Lib.hid ho; have HN := Lib.hid hN
  clear ho hN
  go_enter Try.func74, Try.ntmps74
  go_wp2_with fail
  go_loopw [3, 10] (fun o iv wr => ∃ (i c : Nat) (q : Option Addr) (O : List (List UInt8)), i ≤ N ∧ iv = .int .i64 (i : Int) ∧ o = .slice q i c ∧ (i = 0 → q = none ∧ c = 0) ∧ Hid (O.length = i ∧ O.Pairwise (· ≤ ·) ∧ O.Perm (ls.take i) ∧ wr.ownsRow w.heap.size 9 1 (.slice q i c) i (strVs O) ∧ Below w.heap.size w wr)) (fun _ iv _ => N - (intOf iv).toNat)
  case atStart => exact ⟨0, 0, none, [], by omega, rfl, rfl, fun _ => ⟨rfl, rfl⟩, rfl, List.Pairwise.nil, by simp, World.ownsRow_nil _ _ _ _, below_refl _⟩
  case round =>
    obtain ⟨i, c, q, O, hiN, rfl, rfl, hq0, HX⟩ := hrel
    have HQ0 := Lib.hid hq0; clear hq0
    by_cases hlt : i < N
    · have hil : i < ls.length := by rw [← HN.out]; exact hlt
      rcases own_open HO.out with ⟨_, h0, _⟩ | ⟨g, cap, e, _, hg, hc1, hc2, _, _, _⟩
      · omega
      simp only [Value.slice.injEq] at e
      obtain ⟨rfl, _, rfl⟩ := e
      have hcs : wr.cell? ⟨g, i, none⟩ = some (.string (bs ls[i])) := (HX.out.2.2.2.2.cell (p := ⟨g, i, none⟩) hg).trans (strs_cells HO.out HN.out i hil)
      obtain ⟨s, hs⟩ : ∃ s, s = ls[i] := ⟨_, rfl⟩
      rw [← hs] at hcs
      have HS := Lib.hid hs; clear hs
      unfold maxLen at hc2
      go_wp2_with fail
      have hqO : 0 < i → ∃ g2, q = some ⟨g2, 0, none⟩ ∧ i ≤ c ∧ c ≤ 9223372036854775807 ∧ (∀ j (hj : j < O.length), wr.cell? ⟨g2, j, none⟩ = some (.string (bs O[j]))) := fun h => by
        rcases own_open HX.out.2.2.2.1 with ⟨_, h0, _⟩ | ⟨g2, c2, e, _, _, h3, h4, _, _, _⟩
        · omega
        · have ho2 := HX.out.2.2.2.1
          simp only [Value.slice.injEq] at e
          obtain ⟨rfl, _, rfl⟩ := e
          unfold maxLen at h4
          exact ⟨g2, rfl, h3, by omega, fun j hj => strs_cells ho2 HX.out.1.symm j hj⟩
      have HQO := Lib.hid hqO; clear hqO
      go_loop [6] (fun kv => ∃ k : Nat, kv = .int .i64 (k : Int) ∧ k ≤ i ∧ Hid (∀ j (hj : j < O.length), k ≤ j → s < O[j])) (fun kv => (intOf kv).toNat)
      case atStart => exact ⟨i, rfl, Nat.le_refl _, fun j hj hk => by have := HX.out.1; omega⟩
      case round =>
        obtain ⟨k, rfl, hki, HK⟩ := hrel
        by_cases hk0 : k = 0
        · subst hk0
          by_cases hi0' : i = 0
          · subst hi0'
            obtain ⟨rfl, rfl⟩ := HQ0.out rfl
            have hO0 : O = [] := List.eq_nil_of_length_eq_zero HX.out.1
            have HO0 := Lib.hid hO0; clear hO0
            go_wp2_with (first
              | (refine wpList_app0 _ rfl (.tmp 29) (.tmp 32) 27 rfl 9 i0 Try.underlying27 hi (some ⟨wr.heap.size, 0, none⟩) 0 0 rfl rfl (Nat.le_refl _) ?_)
              | (refine wpList_app _ rfl (.tmp 33) (.tmp 35) 27 rfl wr.heap.size 9 i0 (.string ⟨#[]⟩) 16 Try.underlying27 hi hz0 hz1 hz2 rfl _ 0 [] rfl (own_below (own_lit wr wr.heap.size 9 [] (Nat.le_refl _) (by simp [maxLen])) (below_alloc _ _)) ⟨wr.heap.size + 1, 0, none⟩ 1 1 [.string (bs s)] rfl rfl (by intro j u hu; cases j with | zero => (simp at hu; subst hu; simp [go_sem, Addr.add]) | succ j => simp at hu) (by intro y hy; simp at hy; subst hy; rfl) (by unfold maxLen; omega) (by omega) (by simp; omega) ?_; intro v5 w5 hown5 hgr5 hwh5; have hb5 : Below wr.heap.size wr w5 := (below_trans (below_alloc wr _) (below_alloc _ _)).grown hgr5 (by simp; omega) (fun r e => by cases e; exact Nat.le_refl _); rw [Nat.zero_add, List.nil_append] at hown5; obtain ⟨g5, d5, rfl⟩ := ownsRow_succ hown5; have hd5 : 1 ≤ d5 := (by rcases own_open hown5 with ⟨e, _⟩ | ⟨_, _, e, _, _, h6, _⟩ <;> first | (cases e; done) | (simp at e; omega)))
              | (refine wpList_app0 _ rfl (.tmp 37) (.tmp 40) 27 rfl 9 i0 Try.underlying27 hi (some ⟨g5, 0, none⟩) 1 d5 rfl rfl hd5 ?_))
            have HO5 := Lib.hid hown5; have HB5 := Lib.hid hb5
            clear hown5 hgr5 hwh5 hb5
            go_roundw
            case rel =>
              refine ⟨1, d5, some ⟨g5, 0, none⟩, [s], by omega, by go_num, rfl, fun h => by omega, rfl, List.pairwise_singleton _ _, ?_, own_mono HO5.out HX.out.2.2.2.2.size, below_trans HX.out.2.2.2.2 HB5.out⟩
              rw [List.take_succ_eq_append_getElem hil, ← HS.out]; simp
            case measure => simp [intOf] <;> omega
          · obtain ⟨g2, rfl, hic, hcm, hc2'⟩ := HQO.out (by omega)
            have HC2 := Lib.hid hc2'; clear hc2'
            have hb0 : (0 : Int) ≤ (0 : Int) := by omega
            have hbc : (0 : Int) ≤ (c : Int) := by omega
            have hbi : (0 : Int) ≤ (i : Int) := by omega
            have hadd : (⟨g2, 0, none⟩ : Addr).add (0) = ⟨g2, 0, none⟩ := by rw [add_plainT, Nat.zero_add]
            have hsub : ((i : Int) - (0 : Int)).toNat = i - (0) := by omega
            have hg2 : g2 < wr.heap.size := World.block_lt_of_cell? wr _ (HC2.out 0 (by have := HX.out.1; omega))
            have hnA : ∀ (kk : Nat) (W : World), Below wr.heap.size wr W → ∀ j u, (strVs (O.take kk))[j]? = some u → W.cell? ((⟨g2, 0, none⟩ : Addr).add j) = some u := by
              intro kk W hbW j u hj
              rw [add_plainT, Nat.zero_add]
              obtain ⟨hjl, e⟩ := List.getElem?_eq_some_iff.1 hj
              have hjl' : j < O.length := by simp [strVs] at hjl; omega
              rw [hbW.cell (p := ⟨g2, j, none⟩) hg2, HC2.out j hjl', ← e]
              simp [strVs]
            have hnB : ∀ (kk : Nat) (W : World), Below wr.heap.size wr W → ∀ j u, (strVs (O.drop kk))[j]? = some u → W.cell? ((⟨g2, kk, none⟩ : Addr).add j) = some u := by
              intro kk W hbW j u hj
              rw [add_plainT]
              obtain ⟨hjl, e⟩ := List.getElem?_eq_some_iff.1 hj
              have hjl' : kk + j < O.length := by simp [strVs] at hjl; omega
              rw [hbW.cell (p := ⟨g2, kk + j, none⟩) hg2, HC2.out (kk + j) hjl', ← e]
              simp [strVs]
            have hins := ins_ok O s (0) (by have := HX.out.1; omega) HX.out.2.1 HK.out (.inl rfl)
            have hlA : ∀ kk, kk ≤ i → (strVs (O.take kk)).length = kk := fun kk h => by simp [strVs]; have := HX.out.1; omega
            have hlB : ∀ kk, kk ≤ i → (strVs (O.drop kk)).length = i - kk := fun kk h => by simp [strVs]; have := HX.out.1; omega
            have hcat : ∀ kk, strVs (O.take kk) ++ [.string (bs s)] ++ strVs (O.drop kk) = strVs (O.take kk ++ s :: O.drop kk) := fun kk => by simp [strVs]
            have HNA := Lib.hid hnA; have HNB := Lib.hid hnB; have HINS := Lib.hid hins; have HLA := Lib.hid hlA; have HLB := Lib.hid hlB; have HCAT := Lib.hid hcat
            clear hnA hnB hins hlA hlB hcat
            go_wp2_with (first
              | (refine wpList_app _ rfl (.tmp 29) (.tmp 32) 27 rfl wr.heap.size 9 i0 (.string ⟨#[]⟩) 16 Try.underlying27 hi hz0 hz1 hz2 rfl _ 0 [] rfl (own_lit wr wr.heap.size 9 [] (Nat.le_refl _) (by simp [maxLen])) ⟨g2, 0, none⟩ (0) c (strVs (O.take (0))) rfl (HLA.out _ (by omega)) (HNA.out (0) _ (below_alloc _ _)) (strs_one _) (by unfold maxLen; omega) (by omega) (by simp) ?_; intro v4 w4 hown4 hgr4 hwh4; have hb4 : Below wr.heap.size wr w4 := (below_alloc wr _).grown hgr4 (by simp) (fun r e => by cases e; exact Nat.le_refl _); rw [Nat.zero_add, List.nil_append] at hown4; obtain ⟨q4, d4, rfl⟩ := own_slice hown4)
              | (refine wpList_app _ rfl (.tmp 33) (.tmp 35) 27 rfl wr.heap.size 9 i0 (.string ⟨#[]⟩) 16 Try.underlying27 hi hz0 hz1 hz2 rfl _ (0) _ rfl (own_below hown4 (below_alloc _ _)) ⟨w4.heap.size, 0, none⟩ 1 1 [.string (bs s)] rfl rfl (by intro j u hu; cases j with | zero => (simp at hu; subst hu; simp [go_sem, Addr.add]) | succ j => simp at hu) (by intro y hy; simp at hy; subst hy; rfl) (by unfold maxLen; omega) (by omega) (by have := hb4.size; simp; omega) ?_; intro v5 w5 hown5 hgr5 hwh5; have hb5 : Below wr.heap.size wr w5 := (below_trans hb4 (below_alloc w4 _)).grown hgr5 (by have := hb4.size; simp; omega) (fun r e => (hown4.lt r e).1); obtain ⟨q5, d5, rfl⟩ := own_slice hown5)
              | (refine wpList_app _ rfl (.tmp 37) (.tmp 40) 27 rfl wr.heap.size 9 i0 (.string ⟨#[]⟩) 16 Try.underlying27 hi hz0 hz1 hz2 rfl _ (0 + 1) _ rfl hown5 ⟨g2, 0, none⟩ (i - (0)) (c - (0)) (strVs (O.drop (0))) rfl (HLB.out _ (by omega)) (HNB.out (0) _ hb5) (strs_one _) (by unfold maxLen; omega) (by omega) (by have := hb5.size; omega) ?_; intro v6 w6 hown6 hgr6 hwh6; have hb6 : Below wr.heap.size wr w6 := hb5.grown hgr6 (by have := hb5.size; omega) (fun r e => (hown5.lt r e).1); rw [show 0 + 1 + (i - (0)) = i + 1 from by omega, HCAT.out] at hown6; obtain ⟨g6, d6, rfl⟩ := ownsRow_succ hown6))
            have HO6 := Lib.hid hown6; have HB6 := Lib.hid hb6
            clear hown4 hgr4 hwh4 hb4 hown5 hgr5 hwh5 hb5 hown6 hgr6 hwh6 hb6
            go_roundw
            case rel =>
              refine ⟨i + 1, d6, some ⟨g6, 0, none⟩, _, by omega, by go_num, rfl, fun h => by omega, ?_, HINS.out.1, ?_, own_mono HO6.out HX.out.2.2.2.2.size, below_trans HX.out.2.2.2.2 HB6.out⟩
              · have := HINS.out.2.length_eq; rw [this]; simp; exact HX.out.1
              · rw [List.take_succ_eq_append_getElem hil, ← HS.out]
                exact HINS.out.2.trans (HX.out.2.2.1.append_right _)
            case measure => simp [intOf] <;> omega
        · obtain ⟨k', rfl⟩ : ∃ k', k = k' + 1 := ⟨k - 1, by omega⟩
          obtain ⟨g2, rfl, hic, hcm, hc2'⟩ := HQO.out (by omega)
          have hkO : k' < O.length := by have := HX.out.1; omega
          have hcy := hc2' k' hkO
          obtain ⟨y, hy⟩ : ∃ y, y = O[k'] := ⟨_, rfl⟩
          rw [← hy] at hcy
          have hcmp := cmp_bs s y
          have hp1 : (0 : Int) < (k' : Int) + 1 := by omega
          have hp0 : (0 : Int) ≤ (k' : Int) := by omega
          have HC2 := Lib.hid hc2'; have HY := Lib.hid hy; clear hc2' hy
          by_cases hlt2 : s < y
          · have hcmp2 : Op.bytesLess (bs s).toList (bs y).toList = true := by rw [hcmp]; exact decide_eq_true hlt2
            have hnew : Hid (∀ j (hj : j < O.length), k' ≤ j → s < O[j]) := fun j hj hkj => by
              by_cases e : j = k'
              · subst e; rw [← HY.out]; exact hlt2
              · exact HK.out j hj (by omega)
            clear hcmp hlt2
            go_wp2_with fail
            go_round
            case rel => exact ⟨k', by go_num, by omega, hnew.out⟩
            case measure => simp [intOf] <;> omega
          · have hcmp2 : Op.bytesLess (bs s).toList (bs y).toList = false := by rw [hcmp]; exact decide_eq_false hlt2
            have hne : k' + 1 = 0 ∨ ∃ h : k' + 1 - 1 < O.length, ¬ s < O[k' + 1 - 1] := .inr ⟨by rw [Nat.add_sub_cancel]; exact hkO, by simp only [Nat.add_sub_cancel]; rw [← HY.out]; exact hlt2⟩
            have HNE := Lib.hid hne
            clear hcmp hlt2 hne
            by_cases hck : c = k' + 1
            · subst hck
              obtain rfl : i = k' + 1 := by omega
              have hb0 : (0 : Int) ≤ ((k' : Int) + 1) := by omega
              have hbc : ((k' : Int) + 1) ≤ ((k' + 1 : Nat) : Int) := by omega
              have hbi : ((k' : Int) + 1) ≤ ((k' + 1 : Nat) : Int) := by omega
              have hadd : (⟨g2, 0, none⟩ : Addr).add (k' + 1) = ⟨g2, k' + 1, none⟩ := by rw [add_plainT, Nat.zero_add]
              have hsub : (((k' + 1 : Nat) : Int) - ((k' : Int) + 1)).toNat = 0 := by omega
              have hg2 : g2 < wr.heap.size := World.block_lt_of_cell? wr _ (HC2.out 0 (by have := HX.out.1; omega))
              have hnA : ∀ (kk : Nat) (W : World), Below wr.heap.size wr W → ∀ j u, (strVs (O.take kk))[j]? = some u → W.cell? ((⟨g2, 0, none⟩ : Addr).add j) = some u := by
                intro kk W hbW j u hj
                rw [add_plainT, Nat.zero_add]
                obtain ⟨hjl, e⟩ := List.getElem?_eq_some_iff.1 hj
                have hjl' : j < O.length := by simp [strVs] at hjl; omega
                rw [hbW.cell (p := ⟨g2, j, none⟩) hg2, HC2.out j hjl', ← e]
                simp [strVs]
              have hnB : ∀ (kk : Nat) (W : World), Below wr.heap.size wr W → ∀ j u, (strVs (O.drop kk))[j]? = some u → W.cell? ((⟨g2, kk, none⟩ : Addr).add j) = some u := by
                intro kk W hbW j u hj
                rw [add_plainT]
                obtain ⟨hjl, e⟩ := List.getElem?_eq_some_iff.1 hj
                have hjl' : kk + j < O.length := by simp [strVs] at hjl; omega
                rw [hbW.cell (p := ⟨g2, kk + j, none⟩) hg2, HC2.out (kk + j) hjl', ← e]
                simp [strVs]
              have hins := ins_ok O s (k' + 1) (by have := HX.out.1; omega) HX.out.2.1 HK.out HNE.out
              have hlA : ∀ kk, kk ≤ k' + 1 → (strVs (O.take kk)).length = kk := fun kk h => by simp [strVs]; have := HX.out.1; omega
              have hlB : ∀ kk, kk ≤ k' + 1 → (strVs (O.drop kk)).length = k' + 1 - kk := fun kk h => by simp [strVs]; have := HX.out.1; omega
              have hcat : ∀ kk, strVs (O.take kk) ++ [.string (bs s)] ++ strVs (O.drop kk) = strVs (O.take kk ++ s :: O.drop kk) := fun kk => by simp [strVs]
              have HNA := Lib.hid hnA; have HNB := Lib.hid hnB; have HINS := Lib.hid hins; have HLA := Lib.hid hlA; have HLB := Lib.hid hlB; have HCAT := Lib.hid hcat
              clear hnA hnB hins hlA hlB hcat
              go_wp2_with (first
                | (refine wpList_app _ rfl (.tmp 29) (.tmp 32) 27 rfl wr.heap.size 9 i0 (.string ⟨#[]⟩) 16 Try.underlying27 hi hz0 hz1 hz2 rfl _ 0 [] rfl (own_lit wr wr.heap.size 9 [] (Nat.le_refl _) (by simp [maxLen])) ⟨g2, 0, none⟩ (k' + 1) (k' + 1) (strVs (O.take (k' + 1))) rfl (HLA.out _ (by omega)) (HNA.out (k' + 1) _ (below_alloc _ _)) (strs_one _) (by unfold maxLen; omega) (by omega) (by simp) ?_; intro v4 w4 hown4 hgr4 hwh4; have hb4 : Below wr.heap.size wr w4 := (below_alloc wr _).grown hgr4 (by simp) (fun r e => by cases e; exact Nat.le_refl _); rw [Nat.zero_add, List.nil_append] at hown4; obtain ⟨q4, d4, rfl⟩ := own_slice hown4)
                | (refine wpList_app _ rfl (.tmp 33) (.tmp 35) 27 rfl wr.heap.size 9 i0 (.string ⟨#[]⟩) 16 Try.underlying27 hi hz0 hz1 hz2 rfl _ (k' + 1) _ rfl (own_below hown4 (below_alloc _ _)) ⟨w4.heap.size, 0, none⟩ 1 1 [.string (bs s)] rfl rfl (by intro j u hu; cases j with | zero => (simp at hu; subst hu; simp [go_sem, Addr.add]) | succ j => simp at hu) (by intro y hy; simp at hy; subst hy; rfl) (by unfold maxLen; omega) (by omega) (by have := hb4.size; simp; omega) ?_; intro v5 w5 hown5 hgr5 hwh5; have hb5 : Below wr.heap.size wr w5 := (below_trans hb4 (below_alloc w4 _)).grown hgr5 (by have := hb4.size; simp; omega) (fun r e => (hown4.lt r e).1); obtain ⟨q5, d5, rfl⟩ := own_slice hown5)
                | (refine wpList_app _ rfl (.tmp 37) (.tmp 40) 27 rfl wr.heap.size 9 i0 (.string ⟨#[]⟩) 16 Try.underlying27 hi hz0 hz1 hz2 rfl _ (k' + 1 + 1) _ rfl hown5 ⟨g2, 0, none⟩ 0 0 (strVs (O.drop (k' + 1))) rfl (by rw [HLB.out _ (by omega)]; omega) (fun j u hj => by have h0 := HLB.out (k' + 1) (by omega); rw [Nat.sub_self] at h0; rw [List.eq_nil_of_length_eq_zero h0] at hj; simp at hj) (strs_one _) (by unfold maxLen; omega) (by omega) (by have := hb5.size; omega) ?_; intro v6 w6 hown6 hgr6 hwh6; have hb6 : Below wr.heap.size wr w6 := hb5.grown hgr6 (by have := hb5.size; omega) (fun r e => (hown5.lt r e).1); rw [Nat.add_zero, HCAT.out] at hown6; obtain ⟨g6, d6, rfl⟩ := ownsRow_succ hown6))
              have HO6 := Lib.hid hown6; have HB6 := Lib.hid hb6
              clear hown4 hgr4 hwh4 hb4 hown5 hgr5 hwh5 hb5 hown6 hgr6 hwh6 hb6
              go_roundw
              case rel =>
                refine ⟨k' + 1 + 1, d6, some ⟨g6, 0, none⟩, _, by omega, by go_num, rfl, fun h => by omega, ?_, HINS.out.1, ?_, own_mono HO6.out HX.out.2.2.2.2.size, below_trans HX.out.2.2.2.2 HB6.out⟩
                · have := HINS.out.2.length_eq; rw [this]; simp; exact HX.out.1
                · rw [List.take_succ_eq_append_getElem hil, ← HS.out]
                  exact HINS.out.2.trans (HX.out.2.2.1.append_right _)
              case measure => simp [intOf] <;> omega
            · obtain ⟨e, rfl⟩ : ∃ e, c = k' + 1 + (e + 1) := ⟨c - (k' + 1) - 1, by omega⟩
              clear hck
              have hb0 : (0 : Int) ≤ ((k' : Int) + 1) := by omega
              have hbc : ((k' : Int) + 1) ≤ ((k' + 1 + (e + 1) : Nat) : Int) := by omega
              have hbi : ((k' : Int) + 1) ≤ (i : Int) := by omega
              have hadd : (⟨g2, 0, none⟩ : Addr).add (k' + 1) = ⟨g2, k' + 1, none⟩ := by rw [add_plainT, Nat.zero_add]
              have hsub : ((i : Int) - ((k' : Int) + 1)).toNat = i - (k' + 1) := by omega
              have hg2 : g2 < wr.heap.size := World.block_lt_of_cell? wr _ (HC2.out 0 (by have := HX.out.1; omega))
              have hnA : ∀ (kk : Nat) (W : World), Below wr.heap.size wr W → ∀ j u, (strVs (O.take kk))[j]? = some u → W.cell? ((⟨g2, 0, none⟩ : Addr).add j) = some u := by
                intro kk W hbW j u hj
                rw [add_plainT, Nat.zero_add]
                obtain ⟨hjl, e⟩ := List.getElem?_eq_some_iff.1 hj
                have hjl' : j < O.length := by simp [strVs] at hjl; omega
                rw [hbW.cell (p := ⟨g2, j, none⟩) hg2, HC2.out j hjl', ← e]
                simp [strVs]
              have hnB : ∀ (kk : Nat) (W : World), Below wr.heap.size wr W → ∀ j u, (strVs (O.drop kk))[j]? = some u → W.cell? ((⟨g2, kk, none⟩ : Addr).add j) = some u := by
                intro kk W hbW j u hj
                rw [add_plainT]
                obtain ⟨hjl, e⟩ := List.getElem?_eq_some_iff.1 hj
                have hjl' : kk + j < O.length := by simp [strVs] at hjl; omega
                rw [hbW.cell (p := ⟨g2, kk + j, none⟩) hg2, HC2.out (kk + j) hjl', ← e]
                simp [strVs]
              have hins := ins_ok O s (k' + 1) (by have := HX.out.1; omega) HX.out.2.1 HK.out HNE.out
              have hlA : ∀ kk, kk ≤ i → (strVs (O.take kk)).length = kk := fun kk h => by simp [strVs]; have := HX.out.1; omega
              have hlB : ∀ kk, kk ≤ i → (strVs (O.drop kk)).length = i - kk := fun kk h => by simp [strVs]; have := HX.out.1; omega
              have hcat : ∀ kk, strVs (O.take kk) ++ [.string (bs s)] ++ strVs (O.drop kk) = strVs (O.take kk ++ s :: O.drop kk) := fun kk => by simp [strVs]
              have HNA := Lib.hid hnA; have HNB := Lib.hid hnB; have HINS := Lib.hid hins; have HLA := Lib.hid hlA; have HLB := Lib.hid hlB; have HCAT := Lib.hid hcat
              clear hnA hnB hins hlA hlB hcat
              go_wp2_with (first
                | (refine wpList_app _ rfl (.tmp 29) (.tmp 32) 27 rfl wr.heap.size 9 i0 (.string ⟨#[]⟩) 16 Try.underlying27 hi hz0 hz1 hz2 rfl _ 0 [] rfl (own_lit wr wr.heap.size 9 [] (Nat.le_refl _) (by simp [maxLen])) ⟨g2, 0, none⟩ (k' + 1) (k' + 1 + (e + 1)) (strVs (O.take (k' + 1))) rfl (HLA.out _ (by omega)) (HNA.out (k' + 1) _ (below_alloc _ _)) (strs_one _) (by unfold maxLen; omega) (by omega) (by simp) ?_; intro v4 w4 hown4 hgr4 hwh4; have hb4 : Below wr.heap.size wr w4 := (below_alloc wr _).grown hgr4 (by simp) (fun r e => by cases e; exact Nat.le_refl _); rw [Nat.zero_add, List.nil_append] at hown4; obtain ⟨q4, d4, rfl⟩ := own_slice hown4)
                | (refine wpList_app _ rfl (.tmp 33) (.tmp 35) 27 rfl wr.heap.size 9 i0 (.string ⟨#[]⟩) 16 Try.underlying27 hi hz0 hz1 hz2 rfl _ (k' + 1) _ rfl (own_below hown4 (below_alloc _ _)) ⟨w4.heap.size, 0, none⟩ 1 1 [.string (bs s)] rfl rfl (by intro j u hu; cases j with | zero => (simp at hu; subst hu; simp [go_sem, Addr.add]) | succ j => simp at hu) (by intro y hy; simp at hy; subst hy; rfl) (by unfold maxLen; omega) (by omega) (by have := hb4.size; simp; omega) ?_; intro v5 w5 hown5 hgr5 hwh5; have hb5 : Below wr.heap.size wr w5 := (below_trans hb4 (below_alloc w4 _)).grown hgr5 (by have := hb4.size; simp; omega) (fun r e => (hown4.lt r e).1); obtain ⟨q5, d5, rfl⟩ := own_slice hown5)
                | (refine wpList_app _ rfl (.tmp 37) (.tmp 40) 27 rfl wr.heap.size 9 i0 (.string ⟨#[]⟩) 16 Try.underlying27 hi hz0 hz1 hz2 rfl _ (k' + 1 + 1) _ rfl hown5 ⟨g2, k' + 1, none⟩ (i - (k' + 1)) (e + 1) (strVs (O.drop (k' + 1))) rfl (HLB.out _ (by omega)) (HNB.out (k' + 1) _ hb5) (strs_one _) (by unfold maxLen; omega) (by omega) (by have := hb5.size; omega) ?_; intro v6 w6 hown6 hgr6 hwh6; have hb6 : Below wr.heap.size wr w6 := hb5.grown hgr6 (by have := hb5.size; omega) (fun r e => (hown5.lt r e).1); rw [show k' + 1 + 1 + (i - (k' + 1)) = i + 1 from by omega, HCAT.out] at hown6; obtain ⟨g6, d6, rfl⟩ := ownsRow_succ hown6))
              have HO6 := Lib.hid hown6; have HB6 := Lib.hid hb6
              clear hown4 hgr4 hwh4 hb4 hown5 hgr5 hwh5 hb5 hown6 hgr6 hwh6 hb6
              go_roundw
              case rel =>
                refine ⟨i + 1, d6, some ⟨g6, 0, none⟩, _, by omega, by go_num, rfl, fun h => by omega, ?_, HINS.out.1, ?_, own_mono HO6.out HX.out.2.2.2.2.size, below_trans HX.out.2.2.2.2 HB6.out⟩
                · have := HINS.out.2.length_eq; rw [this]; simp; exact HX.out.1
                · rw [List.take_succ_eq_append_getElem hil, ← HS.out]
                  exact HINS.out.2.trans (HX.out.2.2.1.append_right _)
              case measure => simp [intOf] <;> omega
    · obtain rfl : i = N := by omega
      go_wp2_with fail
      go_ret
      refine ⟨_, rfl, ?_, HX.out.2.2.2.2⟩
      have hp := HX.out.2.2.1
      rw [List.take_of_length_le (by rw [← HN.out]; exact Nat.le_refl _)] at hp
      rw [← sorted_is hp HX.out.2.1]
      exact HX.out.2.2.2.1
end Go.Proofs.Ytkdoghopbefjfaa

/- AllOwn: the model's. -/
namespace Go.Proofs.Ytkdoghopbefjfaa
open Go.RowKit Go.BigFrame
set_option linter.unusedSimpArgs false
set_option linter.unusedVariables false
set_option maxRecDepth 4000

/-- All own inventories with no digit greater than n, in order. -/
def ownO (n : Int) : Option (List (List UInt8)) := if 1 ≤ n ∧ n ≤ 6 then some (((prs n.toNat n.toNat 0 []).filter isOwnL).mergeSort fun x y => decide (x ≤ y)) else none

set_option maxHeartbeats 2000000 in
theorem specAllOwn_any (w : World) (n : Int) : Calls Try.prog 29 #[.int .i64 n] w fun e w' => StrsOk (ownO n) w w' e := by
  obtain ⟨i0, hi, hz0, hz1, hz2⟩ := info_parts info_str
  by_cases h : 1 ≤ n ∧ n ≤ 6
  · obtain ⟨mo, hmo⟩ : ∃ mo : Nat, n = (mo : Int) := ⟨n.toNat, by omega⟩
    subst hmo
    have ho : ownO (mo : Int) = some (((prs mo mo 0 []).filter isOwnL).mergeSort fun x y => decide (x ≤ y)) := by
      unfold ownO; rw [if_pos h, Int.toNat_natCast]
    have hd : decide ((1 : Int) ≤ (mo : Int) ∧ (mo : Int) ≤ 6) = true := decide_eq_true h
    have h1 : 1 ≤ mo := by omega
    have h6 : mo ≤ 6 := by omega
    have hp := fun W => taPairs_any mo h1 h6 mo 0 [] W (by omega) (by simp)
    obtain ⟨ws, hws⟩ : ∃ ws, ws = prs mo mo 0 [] := ⟨_, rfl⟩
    have hwl : ws.length ≤ 1000000 := by
      rw [hws, prs_len]
      have h2 : (mo + 1) ^ mo ≤ 7 ^ mo := Nat.pow_le_pow_left (by omega) mo
      have h3 : 7 ^ mo ≤ 7 ^ 6 := Nat.pow_le_pow_right (by omega) h6
      have h4 : (7 : Nat) ^ 6 = 117649 := by decide
      omega
    have hwb : ∀ l ∈ ws, l.length ≤ 18 := by
      intro l hl
      rw [hws, prs_all mo mo 0 (mo * mo) [] (Nat.le_refl _)] at hl
      obtain ⟨c, hc, rfl⟩ := List.mem_map.1 hl
      have hcl := allS_len mo mo _ c hc
      have := prF_len c 0 (fun x hx => Nat.le_trans (allS_le mo mo _ c hc x hx) (by omega)) (by omega)
      simp; omega
    rw [← hws] at ho hp
    obtain ⟨N, hN⟩ : ∃ N, N = ws.length := ⟨_, rfl⟩
    have hempty : (bs [] : ByteArray) = { data := #[] } := rfl
    rw [hempty] at hp
    have hfs := fun (k : Nat) (hk : k < ws.length) => (show (ws.take (k + 1)).filter isOwnL = (ws.take k).filter isOwnL ++ (if isOwnL ws[k] = true then [ws[k]] else []) by
      rw [List.take_succ_eq_append_getElem hk, List.filter_append]; simp [List.filter_cons])
    have hfl := fun (k : Nat) => (show ((ws.take k).filter isOwnL).length ≤ k from Nat.le_trans (List.length_filter_le _ _) (by rw [List.length_take]; omega))
    unfold TextsOk at hp
    rw [← hN] at hp hwl
    have HO := Lib.hid ho; have HD := Lib.hid hd; have HP := Lib.hid hp; have HWB := Lib.hid hwb; have HN := Lib.hid hN; have HFS := Lib.hid hfs; have HFL := Lib.hid hfl
    clear ho hd hp hwb hN hws hfs hfl hempty h
    go_enter Try.func29, Try.ntmps29
    go_wp2_with fail
    refine (l1In_is true _ _ _ _ HD.out).mono ?_
    rintro e w1 ⟨rfl, rfl⟩
    go_wp2_with fail
    refine (HP.out _).mono ?_
    rintro e w2 ⟨g, c, rfl, ho2, hb2⟩
    have hg : g < w2.heap.size := (ho2.lt g rfl).2
    have hcN : N ≤ c ∧ c ≤ 9223372036854775807 := by
      rcases own_open ho2 with ⟨e, _⟩ | ⟨_, _, e, _, _, h3, h4, _⟩
      · cases e
      · simp only [Value.slice.injEq] at e; obtain ⟨_, _, rfl⟩ := e; unfold maxLen at h4; omega
    have HO2 := Lib.hid ho2; have HB2 := Lib.hid hb2; clear ho2 hb2
    go_wp2_with fail
    go_loopw [4, 15] (fun o iv wr => ∃ (k m : Nat) (q : Option Addr) (d : Nat), k ≤ N ∧ iv = .int .i64 (k : Int) ∧ o = .slice q m d ∧ m ≤ k ∧ Hid (m = ((ws.take k).filter isOwnL).length ∧ wr.ownsRow w2.heap.size 9 1 (.slice q m d) m (strVs ((ws.take k).filter isOwnL)) ∧ Below w.heap.size w wr ∧ Below w2.heap.size w2 wr)) (fun _ iv _ => N - (intOf iv).toNat)
    case atStart => exact ⟨0, 0, _, _, by omega, rfl, rfl, Nat.le_refl _, rfl, World.ownsRow_nil _ _ _ _, HB2.out, below_refl _⟩
    case round =>
      obtain ⟨k, m, q, d, hk, rfl, rfl, hmk, HX⟩ := hrel
      by_cases hlt : k < N
      · have hkl : k < ws.length := by rw [← HN.out]; exact hlt
        have hcw : wr.cell? ⟨g, k, none⟩ = some (.string (bs ws[k])) := (HX.out.2.2.2.cell (p := ⟨g, k, none⟩) hg).trans (strs_cells HO2.out HN.out k hkl)
        have hfs := HFS.out k hkl
        have hlb := HWB.out ws[k] (List.getElem_mem hkl)
        obtain ⟨l, hl⟩ : ∃ l, l = ws[k] := ⟨_, rfl⟩
        rw [← hl] at hcw hfs hlb
        have hta := fun W => taOf_any (bs l) W (by rw [bs_size]; unfold maxLen; omega)
        rw [show (bs l).data.toList = l by simp [bs]] at hta
        have HFS2 := Lib.hid hfs; have HTA := Lib.hid hta; clear hfs hta hl
        cases hio : invO l with
        | none =>
          have hio' : isOwnL l = false := by unfold isOwnL; rw [hio]; rfl
          have e0 : (ws.take (k + 1)).filter isOwnL = (ws.take k).filter isOwnL := by rw [HFS2.out, hio']; simp
          have E0 := Lib.hid e0
          rw [hio] at HTA
          clear e0 hio hio'
          go_wp2_with fail
          refine (HTA.out _).mono ?_
          rintro e w3 ⟨rfl, hb3⟩
          have HB3 := Lib.hid hb3; clear hb3
          unfold strOk
          go_wp2_with fail
          go_roundw
          case rel => exact ⟨k + 1, m, q, d, by omega, by go_num, rfl, by omega, by rw [E0.out]; exact HX.out.1, by rw [E0.out]; exact own_below HX.out.2.1 HB3.out, below_trans HX.out.2.2.1 HB3.out, below_trans HX.out.2.2.2 HB3.out⟩
          case measure => simp [intOf] <;> omega
        | some o =>
          have hcmp : ((bs o).toList == (bs l).toList) = isOwnL l := by
            unfold isOwnL
            rw [hio, bytes_toListT, bytes_toListT]
            simp [bs]
            by_cases e : o = l <;> simp [e]
          rw [hio] at HTA
          clear hio
          cases hio' : isOwnL l with
          | false =>
            have e0 : (ws.take (k + 1)).filter isOwnL = (ws.take k).filter isOwnL := by rw [HFS2.out, hio']; simp
            rw [hio'] at hcmp
            have E0 := Lib.hid e0
            clear e0 hio'
            go_wp2_with fail
            refine (HTA.out _).mono ?_
            rintro e w3 ⟨rfl, hb3⟩
            have HB3 := Lib.hid hb3; clear hb3
            unfold strOk
            go_wp2_with fail
            go_roundw
            case rel => exact ⟨k + 1, m, q, d, by omega, by go_num, rfl, by omega, by rw [E0.out]; exact HX.out.1, by rw [E0.out]; exact own_below HX.out.2.1 HB3.out, below_trans HX.out.2.2.1 HB3.out, below_trans HX.out.2.2.2 HB3.out⟩
            case measure => simp [intOf] <;> omega
          | true =>
            have e0 : (ws.take (k + 1)).filter isOwnL = (ws.take k).filter isOwnL ++ [l] := by rw [HFS2.out, hio']; simp
            rw [hio'] at hcmp
            have E0 := Lib.hid e0
            clear e0 hio'
            go_wp2_with fail
            refine (HTA.out _).mono ?_
            rintro e w3 ⟨rfl, hb3⟩
            have hown3 := own_below HX.out.2.1 (below_trans hb3 (below_alloc w3 (.cells #[.string (bs l)] 9)))
            have HB3 := Lib.hid (below_trans HX.out.2.2.1 hb3); have HC3 := Lib.hid (below_trans HX.out.2.2.2 hb3); have HOW3 := Lib.hid hown3; clear hb3 hown3
            have hcmp' : ((bs o).toList == (bs l).toList) = true := hcmp
            unfold strOk
            go_wp2_with (refine wpList_app _ rfl _ _ 27 rfl w2.heap.size 9 i0 (.string ⟨#[]⟩) 16 Try.underlying27 hi hz0 hz1 hz2 rfl _ m _ rfl HOW3.out ⟨w3.heap.size, 0, none⟩ 1 1 [.string (bs l)] rfl rfl (by intro j u hu; cases j with | zero => (simp at hu; subst hu; simp [go_sem, Addr.add]) | succ j => simp at hu) (by intro y hy; simp at hy; subst hy; rfl) (by unfold maxLen; omega) (by omega) (by have := HC3.out.size; simp; omega) ?_; intro v5 w5 hown5 hgr5 hwh5)
            have hb5 : Below w.heap.size w w5 := (below_trans HB3.out (below_alloc w3 (.cells #[.string (bs l)] 9))).grown hgr5 (by have := HB3.out.size; simp; omega) (fun r e => Nat.le_trans HB2.out.size (HOW3.out.lt r e).1)
            have hc5 : Below w2.heap.size w2 w5 := (below_trans HC3.out (below_alloc w3 (.cells #[.string (bs l)] 9))).grown hgr5 (by have := HC3.out.size; simp; omega) (fun r e => (HOW3.out.lt r e).1)
            obtain ⟨g5, d5, rfl⟩ := ownsRow_succ hown5
            have HO5 := Lib.hid hown5; have HB5 := Lib.hid hb5; have HC5 := Lib.hid hc5
            clear hown5 hgr5 hwh5 hb5 hc5
            go_wp2_with fail
            go_roundw
            case rel =>
              refine ⟨k + 1, m + 1, _, _, by omega, by go_num, rfl, by omega, by rw [E0.out, List.length_append, ← HX.out.1]; rfl, ?_, HB5.out, HC5.out⟩
              rw [E0.out]
              have := HO5.out
              simpa [strVs] using this
            case measure => simp [intOf] <;> omega
      · obtain rfl : k = N := by omega
        have hm := HX.out.1
        have how := HX.out.2.1
        rw [List.take_of_length_le (by rw [← HN.out]; exact Nat.le_refl _)] at hm how
        have hts := taSorted_any wr w2.heap.size m (.slice q m d) (ws.filter isOwnL) hm (by omega) how
        have HTS := Lib.hid hts; have HM := Lib.hid hm; clear hts hm how
        go_wp2_with fail
        refine HTS.out.mono ?_
        rintro e w3 ⟨v3, rfl, ho3, hb3⟩
        have HO3 := Lib.hid ho3; have HB3 := Lib.hid hb3; clear ho3 hb3
        go_wp2_with fail
        go_ret2
        refine ⟨v3, by rw [HO.out]; rfl, ?_, below_trans HX.out.2.2.1 HB3.out, fun e => by rw [HO.out] at e; cases e⟩
        rw [HO.out, Option.getD_some, List.length_mergeSort, ← HM.out]
        exact own_mono HO3.out HX.out.2.2.1.size
  · have ho : ownO n = none := if_neg h
    have hd : decide ((1 : Int) ≤ n ∧ n ≤ 6) = false := decide_eq_false h
    have HO := Lib.hid ho; have HD := Lib.hid hd; clear ho hd
    go_enter Try.func29, Try.ntmps29
    go_wp2_with fail
    refine (l1In_is false _ _ _ _ HD.out).mono ?_
    rintro e w2 ⟨rfl, rfl⟩
    go_wp2_with fail
    go_ret2
    exact ⟨_, by rw [HO.out]; rfl, by rw [HO.out]; exact World.ownsRow_nil _ _ _ _, below_refl _, fun _ => rfl⟩
end Go.Proofs.Ytkdoghopbefjfaa

/- AllOwn: the program's list of texts in a box, over its tallies: what the loop keeps. -/
namespace Go.Proofs.Ytkdoghopbefjfaa
open Go.RowKit Go.BigFrame Go.Shelf
set_option linter.unusedSimpArgs false
set_option linter.unusedVariables false
set_option maxRecDepth 4000

structure RunS (w W0 : World) (a0 bx : Nat) (R : List (List UInt8)) (W : World) (v : Value) : Prop where
  box : Boxed W bx 27 v
  row : W.ownsRow w.heap.size 9 1 v R.length (strVs R)
  bel : Below w.heap.size w W
  size : W0.heap.size ≤ W.heap.size
  far : ∀ k, v.ownBlock = some k → k = a0 ∨ W0.heap.size + 3 ≤ k
theorem runS_other {w W0 W C : World} {a0 bx : Nat} {R : List (List UInt8)} {v : Value} {row : Option Nat} (h : RunS w W0 a0 bx R W v) (hw : w.heap.size ≤ W0.heap.size) (ha : a0 < W0.heap.size) (hx : bx < W0.heap.size)
    (hg : W.grownBy C row) (hr : ∀ r, row = some r → W0.heap.size ≤ r ∧ r ≤ W0.heap.size + 2) : RunS w W0 a0 bx R C v := by
  have hs := h.size
  have hk : ∀ k, k < W.heap.size → (k < W0.heap.size ∨ W0.heap.size + 3 ≤ k) → C.heap[k]? = W.heap[k]? := fun k h1 h2 => hg.block k h1 (fun e => by have := hr k e.symm; omega)
  refine ⟨(hk bx h.box.lt (.inl hx)).trans h.box, ?_, h.bel.grown hg h.bel.size (fun r e => by have := hr r e; omega), Nat.le_trans hs hg.size, h.far⟩
  refine own_block h.row (fun k e => hk k (h.row.lt k e).2 ?_)
  rcases h.far k e with rfl | h3
  · exact .inl ha
  · exact .inr h3
theorem runS_app {w W0 W w4 w5 : World} {a0 bx B1 B2 B3 : Nat} {R : List (List UInt8)} {v v5 : Value} {l : List UInt8} (h : RunS w W0 a0 bx R W v) (hb4 : Below W.heap.size W w4)
    (hown : w5.ownsRow w.heap.size 9 1 v5 (R.length + 1) (strVs R ++ [.string (bs l)])) (hgr : w4.grownBy w5 v.ownBlock) (hwh : v5.ownBlock = v.ownBlock ∨ v5.ownBlock = some w4.heap.size)
    (hs3 : W0.heap.size + 3 ≤ W.heap.size) (hx : bx < W0.heap.size) (hwx : w.heap.size ≤ bx) (hax : a0 ≠ bx)
    (hB : ∀ k, (k = B1 ∨ k = B2 ∨ k = B3) → k < W0.heap.size ∧ k ≠ a0 ∧ k ≠ bx) (ha : a0 < W0.heap.size) :
    Boxed w5 bx 27 v ∧ RunS w W0 a0 bx (R ++ [l]) (w5.setCell ⟨bx, 0, none⟩ v5) v5 ∧ KeepsFrom W0.heap.size W (w5.setCell ⟨bx, 0, none⟩ v5) ∧ KeepsFour B1 B2 B3 (W0.heap.size + 2) W (w5.setCell ⟨bx, 0, none⟩ v5) := by
  have hs4 := hb4.size
  have hs5 := hgr.size
  have hvx : v.ownBlock ≠ some bx := fun e => by have := h.far bx e; omega
  have h45 : ∀ k, k < w4.heap.size → v.ownBlock ≠ some k → w5.heap[k]? = w4.heap[k]? := fun k h1 h2 => hgr.block k h1 (fun e => h2 e.symm)
  have hset : ∀ k, k ≠ bx → (w5.setCell ⟨bx, 0, none⟩ v5).heap[k]? = w5.heap[k]? := fun k hk => Below.heap_setCell _ _ _ _ hk
  have hk5 : ∀ k, k < W.heap.size → k ≠ bx → v.ownBlock ≠ some k → (w5.setCell ⟨bx, 0, none⟩ v5).heap[k]? = W.heap[k]? := fun k h1 h2 h3 => (hset k h2).trans ((h45 k (by omega) h3).trans (hb4.block k h1))
  have hbx5 : Boxed w5 bx 27 v := (h45 bx (by omega) hvx).trans ((hb4.block bx (by omega)).trans h.box)
  have hv5 : ∀ k, v5.ownBlock = some k → k = a0 ∨ W0.heap.size + 3 ≤ k := by
    intro k e
    rcases hwh with e' | e'
    · exact h.far k (by rw [← e']; exact e)
    · rw [e'] at e
      have : w4.heap.size = k := Option.some.inj e
      omega
  refine ⟨hbx5, ⟨Boxed.set v5 hbx5, ?_, ?_, by simp [World.setCell]; omega, hv5⟩, ?_, ?_⟩
  · have h0 := own_block hown (w' := w5.setCell ⟨bx, 0, none⟩ v5) (fun k e => hset k (fun e' => by have := hv5 k e; omega))
    simpa [strVs] using h0
  · have hb0 : Below w.heap.size w w5 := (h.bel.trans (hb4.mono h.bel.size)).grown hgr (by have := h.bel.size; omega) (fun r e => (h.row.lt r e).1)
    exact hb0.setCell hwx _
  · refine ⟨by simp [World.setCell]; omega, fun k o hk ho hc => ?_⟩
    have hkl : k < W.heap.size := (Array.getElem?_eq_some_iff.1 ho).1
    refine (hk5 k hkl (by omega) (fun e => ?_)).trans ho
    rcases h.row.2 with ⟨rfl, _⟩ | ⟨g, cap, cur, rfl, _, hgb, _⟩
    · cases e
    · have e' : g = k := by simpa [Value.ownBlock] using e
      subst e'
      rw [ho] at hgb
      cases hgb
      cases hc
  · intro k hk
    have hkk : k < W.heap.size ∧ k ≠ bx ∧ v.ownBlock ≠ some k := by
      rcases hk with hk | hk | hk | hk
      · have := hB k (.inl hk); exact ⟨by omega, this.2.2, fun e => by have := h.far k e; omega⟩
      · have := hB k (.inr (.inl hk)); exact ⟨by omega, this.2.2, fun e => by have := h.far k e; omega⟩
      · have := hB k (.inr (.inr hk)); exact ⟨by omega, this.2.2, fun e => by have := h.far k e; omega⟩
      · exact ⟨by omega, by omega, fun e => by have := h.far k e; omega⟩
    exact hk5 k hkk.1 hkk.2.1 hkk.2.2
end Go.Proofs.Ytkdoghopbefjfaa

/- AllOwn: the program's (its loop). -/
namespace Go.Proofs.Ytkdoghopbefjfaa
open Go.RowKit Go.BigFrame Go.Shelf
set_option linter.unusedSimpArgs false
set_option linter.unusedVariables false
set_option maxRecDepth 4000
attribute [local go_sem] Oper.semAt_some

theorem wpListIn_app {F : Fence} {n1 : Nat} {P : Program} (w : World) {ops : Array Oper} {rest : List Oper} {o : Oper} {a : Act} {Q : Exit → Act → World → Prop} (hgd : o.guard = none) (s x : Operand) (t : TypeId)
    (ho : o.op = .call { callee := .builtin .append, args := #[s, x], argTypes := #[t, t] })
    (base : Nat) (e : TypeId) (i : TypeInfo) (z : Value) (bytes : Nat) (ht : P.underlying t = some (.slice e)) (hi : P.info? e = some i) (hz : i.zero = some z)
    (hsize : i.size = 1) (hby : i.bytes = bytes) (hzs : z.cells.size = 1)
    (v : Value) (n : Nat) (xs : List Value) (hs : a.eval s = v) (hown : w.ownsRow base e 1 v n xs)
    (ad : Addr) (m c : Nat) (news : List Value) (hx : a.eval x = .slice (some ad) m c) (hl : news.length = m) (hnews : ∀ j u, news[j]? = some u → w.cell? (ad.add j) = some u) (h1 : ∀ u ∈ news, u.oneCell' = true)
    (h63 : n + m ≤ maxLen) (hbytes : (n + m) * bytes ≤ 140737488355328) (hbase : base ≤ w.heap.size)
    (h : ∀ v' w', w'.ownsRow base e 1 v' (n + m) (xs ++ news) → w.grownBy w' v.ownBlock → (v'.ownBlock = v.ownBlock ∨ v'.ownBlock = some w.heap.size) → wpListIn F n1 P ops Q rest (a.put o.dst v') w') : wpListIn F n1 P ops Q (o :: rest) a w := by
  refine wpListIn_plain hgd fun K hK => ?_
  obtain ⟨v', w', hr, h2, h3, h4⟩ := run_append_own (P := P) w base t o.type e i z 1 bytes ht hi hz hsize hby hzs (by decide) v n xs hown ad m c news (by omega) hnews h1 h63 hbytes hbase
  have hw := append_where w base t o.type e i z bytes ht hi hz hsize hby hzs v n xs hown ad m c news hl hnews h1 h63 hbytes v' w' hr
  unfold Oper.wpIn
  refine ⟨by simp [Oper.about, ho, resolve, Target.leads, Sem.run_pure], ?_⟩
  rw [Oper.semAt_plain F _ _ (by rw [ho]; intro c hc; cases hc)]
  simp only [execOp, ho, resolve, invoke, builtin, Sem.run_bind, Sem.run_pure, Result.andThen_ok, List.map_toArray, List.map_cons, List.map_nil, hs, hx, hr]
  exact hK _ _ (h v' w' h2 h3 hw)
end Go.Proofs.Ytkdoghopbefjfaa

/- AllOwn: the library's sort on texts of the call's own. -/
namespace Go.Proofs.Ytkdoghopbefjfaa
open Go.RowKit Go.BigFrame Go.Shelf Go.Sort
set_option linter.unusedSimpArgs false
set_option linter.unusedVariables false
set_option maxRecDepth 4000

theorem sort_any (w : World) (B : Nat) (v : Value) (R : List (List UInt8)) (h : w.ownsRow B 9 1 v R.length (strVs R)) (hl : R.length ≤ 1000000) :
    Calls Try.prog 71 #[v] w fun e w' => e = .returned (.tuple #[]) ∧ w'.ownsRow B 9 1 v R.length (strVs (R.mergeSort fun x y => decide (x ≤ y))) ∧
      w.os = w'.os ∧ w.heap.size ≤ w'.heap.size ∧ (∀ B', B' ≤ w.heap.size → (∀ k, v.ownBlock = some k → B' ≤ k) → Below B' w w') ∧ (∀ k, k < w.heap.size → v.ownBlock ≠ some k → w'.heap[k]? = w.heap[k]?) := by
  by_cases hR : R = []
  · subst hR
    obtain ⟨q, c, rfl⟩ := own_slice h
    refine (Try.slices_Sort_string_none q c w).mono ?_
    rintro e w' ⟨rfl, rfl⟩
    refine ⟨rfl, ?_, rfl, Nat.le_refl _, fun _ _ _ => Below.refl _ _, fun _ _ _ => rfl⟩
    simpa using h
  · have he : strVs R = R.map encStr := rfl
    have hv : v ≠ .slice none 0 0 := by
      rintro rfl
      have h2 := h.2
      rcases h2 with ⟨_, h0⟩ | ⟨g, cap, cur, e, _⟩
      · exact hR (List.eq_nil_of_length_eq_zero h0)
      · cases e
    rw [he] at h
    obtain ⟨g, cap, rfl, hBg, hg, hc1, hc2, _, hH⟩ := Lib.holds_of_ownsRow h hv
    refine (Try.slices_Sort_string g 0 cap R w hH hg (by omega)).mono ?_
    rintro e w' ⟨rfl, n, os, rfl⟩
    have hsz : (putRow encStr (Sort.ahead w n) g 0 (R.mergeSort fun x y => decide (x ≤ y)).toArray).heap.size = w.heap.size := by simp [putRow, mapBlock, Sort.ahead]
    have hother : ∀ k, k < w.heap.size → g ≠ k → (grow (putRow encStr (Sort.ahead w n) g 0 (R.mergeSort fun x y => decide (x ≤ y)).toArray) os).heap[k]? = w.heap[k]? := by
      intro k hk hne
      rw [heap_grow_old _ _ (by rw [hsz]; exact hk)]
      simp [putRow, mapBlock, Sort.ahead, Array.getElem?_modify, hne]
    have h3 := Lib.ownsRow_putRow (q := n) (k := R.length) (ys := R.mergeSort fun x y => decide (x ≤ y)) h (List.length_mergeSort ..) (Nat.le_refl _)
    refine ⟨rfl, ?_, rfl, by simp [hsz], fun B' hB hB2 => ?_, fun k hk hne => hother k hk (fun e => hne (by rw [← e]; rfl))⟩
    · have h4 := own_block h3 (w' := grow (putRow encStr (Sort.ahead w n) g 0 (R.mergeSort fun x y => decide (x ≤ y)).toArray) os) (fun k e => heap_grow_old _ _ (h3.lt k e).2)
      rw [List.take_of_length_le (by rw [List.length_mergeSort]; exact Nat.le_refl _)] at h4
      exact h4
    · exact ⟨rfl, rfl, rfl, by simp [hsz], fun k hk => hother k (by omega) (fun e => by have := hB2 g rfl; omega)⟩
end Go.Proofs.Ytkdoghopbefjfaa

/- AllOwn: the program's. -/
namespace Go.Proofs.Ytkdoghopbefjfaa
open Go.RowKit Go.BigFrame Go.Shelf
set_option linter.unusedSimpArgs false
set_option linter.unusedVariables false
set_option maxRecDepth 4000
attribute [local go_sem] Oper.semAt_some

set_option maxRecDepth 100000 in
set_option maxHeartbeats 1000000 in
theorem implAllOwn_any (w : World) (n : Int) : Calls Try.prog 28 #[.int .i64 n] w fun e w' => StrsOk (ownO n) w w' e := by
  obtain ⟨i0, hi, hz0, hz1, hz2⟩ := info_parts info_str
  by_cases h : 1 ≤ n ∧ n ≤ 6
  · obtain ⟨N, hN⟩ : ∃ N : Nat, n = (N : Int) := ⟨n.toNat, by omega⟩
    subst hN
    have hN1 : 1 ≤ N := by omega
    have hN6 : N ≤ 6 := by omega
    have ho : ownO (N : Int) = some (((prs N N 0 []).filter isOwnL).mergeSort fun x y => decide (x ≤ y)) := by
      unfold ownO; rw [if_pos h, Int.toNat_natCast]
    rw [ownWords N hN1 (by omega)] at ho
    have hd : decide ((1 : Int) ≤ (N : Int) ∧ (N : Int) ≤ 6) = true := decide_eq_true h
    obtain ⟨all, hall⟩ : ∃ all, all = aftP N 0 (List.replicate N 0) (2 * N) := ⟨_, rfl⟩
    rw [← hall] at ho
    have hal : all.length ≤ 1000000 := by
      have h1 := allS_cnt N N (2 * N)
      rw [allS_zero, ← hall] at h1
      have h2 := cntS_le N (by omega) N (2 * N)
      have h3 : 10 ^ N ≤ 10 ^ 6 := Nat.pow_le_pow_right (by omega) hN6
      have h4 : (10 : Nat) ^ 6 = 1000000 := by decide
      simp only [List.length_cons] at h1
      omega
    have HO := Lib.hid ho; have HD := Lib.hid hd; have HA := Lib.hid hall; have HAL := Lib.hid hal; clear ho hd hall hal h
    refine calls_marks Try.func28 rfl fun Q hQ => ?_
    simp only [Try.ntmps28, List.size_toArray, List.length_cons, List.length_nil, Nat.reduceAdd, Nat.reduceSub, Array.replicate_succ, Array.replicate_zero, List.push_toArray, List.append_toArray, List.nil_append, List.cons_append]
    go_wp2_with fail
    refine (isWithin_is true _ _ _ _ HD.out).mono ?_
    rintro e w1 ⟨rfl, rfl⟩
    go_wp2_with fail
    have h2N : (2 : Int) * (N : Int) = ((2 * N : Nat) : Int) := by omega
    rw [h2N]
    clear h2N
    refine (talliesUpTo_is _ _ _ _).mono ?_
    rintro e w2 ⟨rfl, hw2⟩
    have hs2 : w2.heap.size = w.heap.size + 5 := by rw [hw2]; simp
    obtain ⟨X, hX⟩ : ∃ X, X = (w.alloc (.cells #[] 9)).alloc (.cells #[.slice (some ⟨w.heap.size, 0, none⟩) 0 0] 27) := ⟨_, rfl⟩
    have hXs : X.heap.size = w.heap.size + 1 + 1 := by rw [hX]; simp
    have hbX : Below w.heap.size w X := by rw [hX]; exact below_trans (below_alloc _ _) (below_alloc _ _)
    have h0 := Boxed.new (w.alloc (.cells #[] 9)) 27 (.slice (some ⟨w.heap.size, 0, none⟩) 0 0)
    have e : (w.alloc (.cells #[] 9)).heap.size = w.heap.size + 1 := by simp
    rw [e, ← hX] at h0
    have hr0 : X.ownsRow w.heap.size 9 1 (.slice (some ⟨w.heap.size, 0, none⟩) 0 0) 0 [] := by
      rw [hX]; exact own_below (own_lit w w.heap.size 9 [] (Nat.le_refl _) (Nat.zero_le _)) (below_alloc _ _)
    rw [← hX] at hw2 ⊢
    rw [hXs]
    have hbA : Below X.heap.size X w2 := by rw [hw2]; exact below_trans (below_trans (below_alloc _ _) (below_alloc _ _)) (below_alloc _ _)
    have hbn : BoxN (w.heap.size + 1 + 1) (w.heap.size + 1 + 1 + 1) (w.heap.size + 1 + 1 + 2) N N (2 * N) w2 := by
      rw [hw2, ← hXs]; refine ⟨?_, ?_, ?_⟩ <;> simp [go_sem]
    have inv0 : RunS w w2 w.heap.size (w.heap.size + 1) [] w2 (.slice (some ⟨w.heap.size, 0, none⟩) 0 0) :=
      ⟨(hbA.block _ (by omega)).trans h0, own_below hr0 hbA, below_trans hbX hbA, Nat.le_refl _, fun k e => .inl (Option.some.inj e).symm⟩
    have HI0 := Lib.hid inv0; have HBN := Lib.hid hbn; have HS2 := Lib.hid hs2
    clear inv0 hbn h0 hr0 hbX hs2 hw2 hbA hXs hX e
    go_wp2_with fail
    generalize hB3 : w.heap.size + 1 + 1 + 2 = B3 at *
    generalize hB2 : w.heap.size + 1 + 1 + 1 = B2 at *
    generalize hB1 : w.heap.size + 1 + 1 = B1 at *
    generalize hbx : w.heap.size + 1 = bx at *
    have hs2 := HS2.out
    refine wp_talliesM N N (2 * N) hN1 (by omega) (by omega) (by omega) B1 B2 B3 all HA.out HBN.out rfl
      (fun got W => ∃ v, RunS w w2 w.heap.size bx ((got.filter ownC).map (prF 0)) W v)
      (fun s A C row hs hg hr => by obtain ⟨v, h⟩ := hs; exact ⟨v, runS_other h (by omega) (by omega) (by omega) hg hr⟩)
      ⟨_, HI0.out⟩
      (fun x a' W => ∃ b5, a' = { tmps := #[.int .i64 (N : Int), undef, .slice none 0 0, .bool false, .pointer (some ⟨bx, 0, none⟩), .pointer (some ⟨b5, 0, none⟩), undef, undef, .int .i64 (N : Int), .bool true, .bool false, .slice (some ⟨w.heap.size, 0, none⟩) 0 0, .int .i64 (N : Int), .int .i64 (N : Int), .int .i64 (N : Int), .int .i64 ((2 * N : Nat) : Int), .func (.func 100) #[] #[.pointer (some ⟨B1, 0, none⟩), .pointer (some ⟨B2, 0, none⟩), .pointer (some ⟨B3, 0, none⟩)], aggT (pad x), undef, undef, undef, undef, undef, undef, undef, undef, undef, undef, undef, undef, undef, undef, undef, undef], defers := [] } ∧ BlkT W b5 (pad x) ∧ w2.heap.size + 3 ≤ b5)
      (fun x a' A C row hs hg hr => by
        obtain ⟨b5, h1, h2, h3⟩ := hs
        exact ⟨b5, h1, ⟨(hg.block b5 (blkT_lt h2) (fun e => by have := hr b5 e.symm; omega)).trans h2.1, h2.2⟩, h3⟩) ?assign ?body ?done
    case assign =>
      intro lp pre x W K hi hsz hxl hK
      simp only [List.setIfInBounds_toArray, List.set_cons_succ, List.set_cons_zero]
      have hp9 := pad_len x (by omega)
      unfold aggT
      gi_wp2_with (refine wpListIn_putT rfl _ _ rfl W.heap.size rfl zeros9 (pad x) rfl ⟨heap_alloc_new _ _, rfl⟩ hp9 ?_; intro w3 hB3' hoth hbb hsz3)
      have hbl : Below W.heap.size W w3 := (below_alloc W _).trans (hbb _ (Nat.le_refl _))
      refine hK _ w3 ⟨hbl.size, fun k o _ hk _ => (hbl.block k (Array.getElem?_eq_some_iff.1 hk).1).trans hk⟩ (fun k hk => hbl.block k (by rcases hk with rfl | rfl | rfl | rfl <;> omega)) ?_ ⟨W.heap.size, rfl, hB3', by omega⟩
      obtain ⟨v, h⟩ := hi
      exact ⟨v, runS_other h (by omega) (by omega) (by omega) (grown_of_below' hbl) (fun r e => by cases e)⟩
    case body =>
      rintro lp pre x a' W Q2 hno hQ2 ⟨v, inv⟩ ⟨b5, rfl, hb5, hb5s⟩ hsz hpl hxl hxm
      have hp9 := pad_len x (by omega)
      obtain ⟨ts, hts⟩ : ∃ ts, ts = pad x := ⟨_, rfl⟩
      have hts9 : ts.length = 9 := by rw [hts]; exact hp9
      have hxm9 : ∀ n ∈ x, n ≤ 9 := fun n hn => by have := hxm n hn; omega
      have hm9 : ∀ n ∈ ts, n ≤ 9 := by
        rw [hts]; intro n hn; unfold pad at hn
        rw [List.mem_append] at hn
        rcases hn with hn | hn
        · exact hxm9 n hn
        · rw [List.mem_replicate] at hn; omega
      obtain ⟨T, hT⟩ : ∃ T, T = prF 0 x := ⟨_, rfl⟩
      have hTd : T.all digB = true := by rw [hT]; exact prF_dig x 0 hxm9 (by omega)
      have hTl : T.length ≤ 18 := by rw [hT]; have := prF_len x 0 hxm9 (by omega); omega
      have hiv : invK ts 9 = T := by
        have h := invT_prF hts9
        unfold invT at h
        rw [h, hts, hT]; unfold pad; exact prF_zeros _ _ _
      have hok : okT ts = true := List.all_eq_true.2 (fun n hn => decide_eq_true (hm9 n hn))
      have hINV : ∀ W, Calls Try.prog 57 #[.agg (tvl ts).toArray] W fun e w' => e = .returned (.tuple #[.string (bs T), .bool true]) ∧ Below W.heap.size W w' := fun W => by
        have h := inventory_any ts W hts9 (fun n hn => by have := hm9 n hn; omega)
        rw [hok, if_pos rfl, hiv] at h
        exact h
      have hTT : ∀ W, Calls Try.prog 56 #[.string (bs T)] W fun e w' => e = .returned (.agg (tvA (tal T))) ∧ Below W.heap.size W w' := fun W => by
        have h := tallyText_any (bs T) W (by rw [bs_size]; omega) (by rw [bs_list]; exact hTd)
        rw [bs_list] at h
        exact h
      obtain ⟨sb, hsb⟩ : ∃ sb, sb = ownC x := ⟨_, rfl⟩
      have heq : ∀ W, (binOp .eql 65 (.agg (tvl ts).toArray) (.agg (tvA (tal T)))).run Try.prog W = .ok (.bool sb) W := fun W => by
        have h := run_eqlT W ts (tal T) hts9 (tal_len _)
        have hb : decide (ts = tal T) = sb := by rw [hsb, hts, hT]; rfl
        rw [hb] at h
        exact h
      obtain ⟨R, hR⟩ : ∃ R, R = (pre.filter ownC).map (prF 0) := ⟨_, rfl⟩
      have hfl : ((pre ++ [x]).filter ownC).map (prF 0) = R ++ (if sb = true then [T] else []) := by
        have hone : List.filter ownC [x] = if sb = true then [x] else [] := by rw [hsb]; simp [List.filter_cons]
        rw [List.filter_append, List.map_append, hone, ← hR]
        cases sb <;> simp [hT]
      have hRl : R.length ≤ 1000000 := by
        rw [hR, List.length_map]
        have h1 := List.length_filter_le ownC pre
        have h2 := HAL.out
        omega
      rw [← hts] at hb5 ⊢
      rw [← hR] at inv
      have HINV := Lib.hid hINV; have HTT := Lib.hid hTT; have HF := Lib.hid hfl; have HI := Lib.hid inv; have HB5 := Lib.hid hb5; have HTS9 := Lib.hid hts9; have HRL := Lib.hid hRl; have HEQ := Lib.hid heq
      clear hINV hTT hfl hb5 hts9 hp9 hsb hts hT hTd hTl hiv hok hm9 hxm9 hpl hRl hR heq
      unfold aggT
      gi_wp2_with (refine wpListIn_getT rfl _ rfl b5 rfl ts HB5.out ?_; unfold aggT)
      refine ⟨trivial, CallsIn.inRound lp (callsIn_wide.2 ((HINV.out _).mono ?_))⟩
      rintro e w2' ⟨rfl, hb2⟩
      have hbl2 := Lib.hid hb2
      clear hb2
      gi_wp2_with fail
      have hu52 := under_tally
      have hi52 : (Try.prog.info? 65).map (·.size) = some (tvl ts).length := by rw [tvl_len, HTS9.out]; exact info_tally
      have hrg : ∀ W, BlkT W b5 ts → W.rangeAt b5 0 (tvl ts) := fun W h j v hv => by
        rw [Nat.zero_add, cell_of_row W _ j _ _ _ h.1]; simpa [tvA] using hv
      refine region_round (by kernel_rfl) (fun ⟨a, w, h⟩ => hno.1 ⟨a, w, h⟩) ?_
      have hHeld : BlkT w2'.drew b5 ts := blkT_below (blkT_below HB5.out hbl2.out) (below_drew _)
      refine wpAny_of_held (S := fun w' => BlkT w' b5 ts) _ _ _ _ ?_
      refine wpAnyH_take (i := 0) (v := .agg (tvl ts).toArray) rfl (by kernel_rfl) (by kernel_rfl) (by kernel_rfl) (fun _ _ _ h => (hno.2 _ _ _ h).elim) (yieldsIf_load_mid (by kernel_rfl) 65 _ rfl b5 0 rfl (tvl ts) _ (fun w hw => hrg w hw) hu52 rfl hi52) hHeld ?_
      simp only [Act.put, List.setIfInBounds_toArray, List.set_cons_zero, List.set_cons_succ]
      refine wpAnyH_take (i := 1) (v := .string (bs T)) rfl (by kernel_rfl) (by kernel_rfl) (by kernel_rfl) (fun _ _ _ h => (hno.2 _ _ _ h).elim) (Or.inl ⟨by kernel_rfl, fun w hw => by first | rfl | (go_simp; done) | (go_simp; rfl)⟩) hHeld ?_
      simp only [Act.put, List.setIfInBounds_toArray, List.set_cons_zero, List.set_cons_succ]
      refine wpAnyH_ready (rs := [2]) (by kernel_rfl) (by simp) (AllReadyH.cons rfl (fun K hK => ?_) AllReadyH.nil)
      go_simp
      go_at_call 56
      refine (HTT.out _).mono ?_
      rintro e w3 ⟨rfl, hb3⟩
      have hHeld3 : BlkT w3 b5 ts := blkT_below hHeld hb3
      refine hK.out _ _ hHeld3 (fun _ => ?_)
      clear hK K
      try simp only [Act.put, List.setIfInBounds_toArray, List.set_cons_zero, List.set_cons_succ]
      have heq := HEQ.out
      refine wpAnyH_take (i := 3) (v := .bool sb) rfl (by kernel_rfl) (by kernel_rfl) (by kernel_rfl) (fun _ _ _ h => (hno.2 _ _ _ h).elim) (Or.inl ⟨by kernel_rfl, fun w hw => by first | rfl | (go_simp; done) | (go_simp; rfl)⟩) hHeld3 ?_
      clear heq
      simp only [Act.put, List.setIfInBounds_toArray, List.set_cons_zero, List.set_cons_succ]
      refine wpAnyH_done (by kernel_rfl) ?_ _
      simp only [List.getElem_toArray, List.getElem_cons_succ, List.getElem_cons_zero, List.set_cons_zero, List.set_cons_succ]
      have hbr : Below W.heap.size W w3 := below_trans hbl2.out (below_trans (below_drew w2') hb3)
      have hkf : KeepsFrom w2.heap.size W w3 := ⟨hbr.size, fun k o _ hk _ => (hbr.block k (Array.getElem?_eq_some_iff.1 hk).1).trans hk⟩
      have hk4 : KeepsFour B1 B2 B3 (w2.heap.size + 2) W w3 := fun k hk => hbr.block k (by rcases hk with rfl | rfl | rfl | rfl <;> omega)
      have hI3 : RunS w w2 w.heap.size bx R w3 v := runS_other HI.out (by omega) (by omega) (by omega) (grown_of_below' hbr) (fun r e => by cases e)
      have HKF := Lib.hid hkf; have HK4 := Lib.hid hk4; have HI3 := Lib.hid hI3
      have hsz3 : w2.heap.size + 3 ≤ w3.heap.size := Nat.le_trans hsz hbr.size
      clear hkf hk4 hI3 hHeld hHeld3 hb3 hbr HI hbl2
      cases sb with
      | false =>
        gi_wp2_with fail
        all_goals exact hQ2 _ _ HKF.out HK4.out ⟨v, by rw [HF.out]; simpa using HI3.out⟩
      | true =>
        have hc0 : w3.cell? ⟨bx, 0, none⟩ = some v := HI3.out.box.cell
        gi_wp2_with (refine wpListIn_app _ rfl (.tmp 27) (.tmp 29) 27 rfl w.heap.size 9 i0 (.string ⟨#[]⟩) 16 Try.underlying27 hi hz0 hz1 hz2 rfl v R.length (strVs R) rfl (own_below HI3.out.row (below_alloc _ _)) ⟨w3.heap.size, 0, none⟩ 1 1 [.string (bs T)] rfl rfl ?c1 ?c2 ?c3 ?c4 ?c5 ?_)
        case c2 => rfl
        case c3 => have := HRL.out; unfold maxLen; omega
        case c4 => have := HRL.out; omega
        case c5 => have := HI3.out.bel.size; simp; omega
        intro v5 w5 hown5 hgr5 hwh5
        obtain ⟨q1, q2, q3, q4⟩ := runS_app (B1 := B1) (B2 := B2) (B3 := B3) HI3.out (below_alloc _ _) hown5 hgr5 (by simpa using hwh5) hsz3 (by omega) (by omega) (by omega) (by intro k hk; rcases hk with rfl | rfl | rfl <;> omega) (by omega)
        obtain ⟨g5, d5, rfl⟩ := ownsRow_succ hown5
        have hc5 := q1.cell; have hf5 := q1.frozen
        have Q2' := Lib.hid q2; have Q3 := Lib.hid q3; have Q4 := Lib.hid q4
        clear q1 q2 q3 q4 hown5 hgr5 hwh5
        gi_wp2_with fail
        exact hQ2 _ _ (HKF.out.trans Q3.out) (keepsFour_t HK4.out Q4.out) ⟨_, by rw [HF.out]; simpa using Q2'.out⟩
    case done =>
      rintro D W hD ⟨v, inv⟩ hK
      have hD2 : w.heap.size ≤ D := by omega
      have HD2 := Lib.hid hD2; have HD3 := Lib.hid (show D = w.heap.size + 5 ∧ w2.heap.size = w.heap.size + 5 ∧ bx = w.heap.size + 1 from ⟨by omega, by omega, by omega⟩); clear hD2 hD hs2
      obtain ⟨R, hR⟩ : ∃ R, R = (all.filter ownC).map (prF 0) := ⟨_, rfl⟩
      rw [← hR] at inv
      have hRl : R.length ≤ 1000000 := by rw [hR, List.length_map]; exact Nat.le_trans (List.length_filter_le _ _) HAL.out
      have HRR := Lib.hid hR; clear hR
      have hc0 : W.cell? ⟨bx, 0, none⟩ = some v := inv.box.cell
      have hsort := sort_any W w.heap.size v R inv.row hRl
      have HKK := Lib.hid hK; have HI := Lib.hid inv; have HSO := Lib.hid hsort
      obtain ⟨av, cv, rfl⟩ := own_slice inv.row
      clear inv hK hsort
      go_wp2_with fail
      refine HSO.out.mono ?_
      rintro e w3 ⟨rfl, r1, _, r3, r4, r5⟩
      have hb3 : Below w.heap.size w w3 := HI.out.bel.trans (r4 w.heap.size HI.out.bel.size (fun k e => (HI.out.row.lt k e).1))
      have hK3 : w3.heap[D]? = some (.deferred (some [])) := (r5 D (Array.getElem?_eq_some_iff.1 HKK.out).1 (fun e => by have := HI.out.far D e; have := HD3.out; omega)).trans HKK.out
      have hc3 : w3.cell? ⟨bx, 0, none⟩ = some (.slice av R.length cv) := (World.cell?_of_block (r5 bx HI.out.box.lt (fun e => by have := HI.out.far bx e; have := HD3.out; omega))).trans hc0
      have R1 := Lib.hid r1; have HB3 := Lib.hid hb3; have HK3 := Lib.hid hK3
      clear r1 r3 r4 r5 hb3 hK3 hc0
      go_wp2_with fail
      (try simp only [Exit.inBlock, Exit.then])
      have hD2 := HD2.out
      refine hQ.marked _ _ D _ rfl HK3.out (results_tmp2 rfl _ _ _) ⟨_, by rw [HO.out]; rfl, ?_, below_mark HB3.out hD2 HK3.out, fun e => by rw [HO.out] at e; cases e⟩
      rw [HO.out, Option.getD_some, List.length_mergeSort, ← HRR.out]
      exact ownsRow_putObj R1.out (.deferred none) HK3.out rfl
  · have ho : ownO n = none := if_neg h
    have hd : decide ((1 : Int) ≤ n ∧ n ≤ 6) = false := decide_eq_false h
    have HO := Lib.hid ho; have HD := Lib.hid hd; clear ho hd
    go_enter Try.func28, Try.ntmps28
    go_wp2_with fail
    refine (isWithin_is false _ _ _ _ HD.out).mono ?_
    rintro e w2 ⟨rfl, rfl⟩
    go_wp2_with fail
    go_ret2
    exact ⟨_, by rw [HO.out]; rfl, by rw [HO.out]; exact World.ownsRow_nil _ _ _ _, below_refl _, fun _ => rfl⟩
end Go.Proofs.Ytkdoghopbefjfaa

/- AllOwn: its law. -/
namespace Go.Proofs.Ytkdoghopbefjfaa
open Go.RowKit Go.BigFrame
set_option linter.unusedSimpArgs false
set_option linter.unusedVariables false
set_option maxRecDepth 4000

theorem ownO_len (n : Int) : ((ownO n).getD []).length ≤ 999999 := by
  unfold ownO
  split
  · rename_i h
    obtain ⟨N, rfl⟩ : ∃ N : Nat, n = (N : Int) := ⟨n.toNat, by omega⟩
    rw [Option.getD_some, List.length_mergeSort, Int.toNat_natCast, ownWords N (by omega) (by omega), List.length_map]
    refine Nat.le_trans (List.length_filter_le _ _) ?_
    have h1 := allS_cnt N N (2 * N)
    rw [allS_zero] at h1
    have h2 := cntS_le N (by omega) N (2 * N)
    have h3 : 10 ^ N ≤ 10 ^ 6 := Nat.pow_le_pow_right (by omega) (by omega)
    have h4 : (10 : Nat) ^ 6 = 1000000 := by decide
    simp only [List.length_cons] at h1
    omega
  · simp
end Go.Proofs.Ytkdoghopbefjfaa
