/- Smooth words: their beginnings are smooth, so all of them are those that go on from shorter ones (pure). -/
import Derived.Test.YtaagfcdniacmnaaDoorD1
namespace Go.Proofs.YtaagfcdniacmnaaDoor
set_option linter.unusedSimpArgs false
set_option linter.unusedVariables false

theorem cutF_app {x : List UInt8} (h : x ≠ []) (y : List UInt8) : cutF (x ++ y) = cutF x ++ y := by
  obtain ⟨a, t, rfl⟩ := List.exists_cons_of_ne_nil h
  by_cases h2 : a = 49
  · subst h2; rfl
  · unfold cutF
    simp [h2]
theorem cutB_one (z : List UInt8) : cutB (z ++ [49]) = z := by simp [cutB]
theorem cutB_two (z : List UInt8) : cutB (z ++ [50]) = z ++ [50] := by simp [cutB]
theorem cutB_pre (z : List UInt8) : cutB z <+: z := by
  rcases cutB_sub z with h | h
  · rw [h]; exact List.prefix_refl _
  · rw [h]; exact List.dropLast_prefix z
theorem lensR_snoc (rs : List (UInt8 × Nat)) (p : UInt8 × Nat) : lensR (rs ++ [p]) = lensR rs ++ [nDig p.2] := by simp [lensR]
theorem der_pre {l m' : List UInt8} {c : UInt8} (h : derL (l ++ [c]) = some m') : ∃ m, derL l = some m ∧ m <+: m' := by
  unfold derL at h
  split at h
  · rename_i h2
    cases h
    have h3 : longR (runsL (l ++ [c])) ≤ 2 := h2
    unfold lensL
    rw [runsL_snoc] at h3 ⊢
    rcases list_cases_snoc (runsL l) with e | ⟨pre, ⟨d, n⟩, e⟩
    · refine ⟨[], ?_, List.nil_prefix⟩
      unfold derL lensL longL
      rw [e]; rfl
    · have hn : 1 ≤ n := runs_two.runs_pos1 l (d, n) (by rw [e]; simp)
      by_cases ed : d = c
      · subst ed
        rw [e, stepRun_same, longR_snoc] at h3
        have hn1 : n = 1 := by simp only at h3; omega
        subst hn1
        refine ⟨cutL (lensL l), by unfold derL longL; rw [e, longR_snoc, if_pos (by simp only at h3 ⊢; omega)], ?_⟩
        unfold lensL
        rw [e, stepRun_same, lensR_snoc, lensR_snoc]
        show cutL (lensR pre ++ [49]) <+: cutL (lensR pre ++ [50])
        by_cases hx : lensR pre = []
        · rw [hx]; exact List.nil_prefix
        · unfold cutL
          rw [cutF_app hx, cutF_app hx, cutB_one, cutB_two]
          exact List.prefix_append _ _
      · rw [e, stepRun_other _ _ _ _ ed, longR_snoc] at h3
        refine ⟨cutL (lensL l), by unfold derL longL; rw [e, if_pos (by simp only at h3 ⊢; omega)], ?_⟩
        unfold lensL
        rw [e, stepRun_other _ _ _ _ ed, lensR_snoc (pre ++ [(d, n)]) (c, 1)]
        show cutL (lensR (pre ++ [(d, n)])) <+: cutL (lensR (pre ++ [(d, n)]) ++ [49])
        have hx : lensR (pre ++ [(d, n)]) ≠ [] := by rw [lensR_snoc]; simp
        unfold cutL
        rw [cutF_app hx, cutB_one]
        exact cutB_pre _
  · cases h
theorem sm_pre : ∀ (k : Nat) (l' l : List UInt8), l'.length ≤ k → l <+: l' → smB l' = true → smB l = true := by
  intro k
  induction k with
  | zero =>
    intro l' l h1 h2 h3
    have : l' = [] := List.eq_nil_of_length_eq_zero (by omega)
    subst this
    have : l = [] := List.prefix_nil.1 h2
    subst this; exact h3
  | succ k ih =>
    have one : ∀ (l : List UInt8) (c : UInt8), (l ++ [c]).length ≤ k + 1 → smB (l ++ [c]) = true → smB l = true := by
      intro l c hl h
      by_cases he : l = []
      · subst he; rfl
      · unfold smB at h
        cases hd : derL (l ++ [c]) with
        | none => rw [depL_none (by simp) hd] at h; cases h
        | some m' =>
          rw [depL_some (by simp) hd, Option.isSome_map] at h
          obtain ⟨m, hm, hp⟩ := der_pre hd
          have hlt := der_less (by simp) hd
          have := ih m' m (by omega) hp h
          unfold smB
          rw [depL_some he hm, Option.isSome_map]
          exact this
    intro l' l h1 h2 h3
    obtain ⟨t, rfl⟩ := h2
    revert h1 h3
    refine snoc_rec (P := fun t => (l ++ t).length ≤ k + 1 → smB (l ++ t) = true → smB l = true) (fun _ h => by simpa using h) (fun t a ih2 h1 h3 => ?_) t
    rw [← List.append_assoc] at h1 h3
    exact ih2 (by simp at h1 ⊢; omega) (one _ _ h1 h3)
theorem sm_snoc (l : List UInt8) (c : UInt8) (h : smB (l ++ [c]) = true) : smB l = true := sm_pre _ _ l (Nat.le_refl _) ⟨[c], rfl⟩ h

def allLow : Nat → List (List UInt8)
  | 0 => [[]]
  | n + 1 => (allLow n).flatMap fun w => [w ++ [49], w ++ [50]]
def goOn (w : List UInt8) : List (List UInt8) := [w ++ [49], w ++ [50]].filter smB
def smAll (n : Nat) : List (List UInt8) := (allLow n).filter smB
theorem smAll_zero : smAll 0 = [[]] := rfl
theorem goOn_none {w : List UInt8} (h : smB w = false) : goOn w = [] := by
  unfold goOn
  rw [List.filter_eq_nil_iff]
  intro x hx he
  simp only [List.mem_cons, List.not_mem_nil, or_false] at hx
  rcases hx with rfl | rfl
  all_goals
    have := sm_snoc _ _ he
    rw [h] at this; cases this
theorem filter_goOn : ∀ (ws : List (List UInt8)), (ws.flatMap fun w => [w ++ [49], w ++ [50]]).filter smB = (ws.filter smB).flatMap goOn
  | [] => rfl
  | w :: t => by
    rw [List.flatMap_cons, List.filter_append, filter_goOn t]
    change goOn w ++ _ = _
    cases h : smB w with
    | true => rw [List.filter_cons_of_pos h, List.flatMap_cons]
    | false => rw [List.filter_cons_of_neg (by simp [h]), goOn_none h, List.nil_append]
theorem smAll_succ (n : Nat) : smAll (n + 1) = (smAll n).flatMap goOn := filter_goOn (allLow n)
theorem allLow_len : ∀ n, (allLow n).length = 2 ^ n
  | 0 => rfl
  | n + 1 => by
    have : ∀ (ws : List (List UInt8)), (ws.flatMap fun w => [w ++ [49], w ++ [50]]).length = ws.length * 2 := by
      intro ws
      induction ws with
      | nil => rfl
      | cons w t ih => rw [List.flatMap_cons, List.length_append, ih]; simp; omega
    rw [allLow, this, allLow_len n, Nat.pow_succ]
theorem smAll_len (n : Nat) : (smAll n).length ≤ 2 ^ n := by
  rw [← allLow_len]; exact List.length_filter_le _ _
theorem allLow_mem : ∀ (n : Nat) (w : List UInt8), w ∈ allLow n → w.length = n ∧ w.all onB = true
  | 0, w, h => by
    unfold allLow at h
    simp only [List.mem_cons, List.not_mem_nil, or_false] at h
    subst h; exact ⟨rfl, rfl⟩
  | n + 1, w, h => by
    unfold allLow at h
    rw [List.mem_flatMap] at h
    obtain ⟨v, hv, hw⟩ := h
    obtain ⟨h1, h2⟩ := allLow_mem n v hv
    simp only [List.mem_cons, List.not_mem_nil, or_false] at hw
    rcases hw with rfl | rfl
    · exact ⟨by simp [h1], by rw [List.all_append, h2]; rfl⟩
    · exact ⟨by simp [h1], by rw [List.all_append, h2]; rfl⟩
/-- The low word of a number. -/
def lowT : Nat → Nat → List UInt8
  | 0, _ => []
  | n + 1, k => lowT n (k / 2) ++ [UInt8.ofNat (49 + k % 2)]
theorem range_two : ∀ m, List.range (2 * m) = (List.range m).flatMap fun k => [2 * k, 2 * k + 1]
  | 0 => rfl
  | m + 1 => by
    rw [show 2 * (m + 1) = 2 * m + 1 + 1 by omega, List.range_succ, List.range_succ, range_two m, List.range_succ, List.flatMap_append]
    simp
theorem lowT_all : ∀ n, (List.range (2 ^ n)).map (lowT n) = allLow n
  | 0 => rfl
  | n + 1 => by
    rw [show 2 ^ (n + 1) = 2 * 2 ^ n by rw [Nat.pow_succ]; omega, range_two, List.map_flatMap, allLow, ← lowT_all n]
    rw [List.flatMap_map]
    congr 1
    funext k
    have e1 : 2 * k / 2 = k := by omega
    have e2 : 2 * k % 2 = 0 := by omega
    have e3 : (2 * k + 1) / 2 = k := by omega
    have e4 : (2 * k + 1) % 2 = 1 := by omega
    simp only [List.map_cons, List.map_nil, lowT, e1, e2, e3, e4]
    rfl
theorem lowT_sm (n m : Nat) (h : m ≤ 2 ^ n) : (((List.range m).map (lowT n)).filter smB).length ≤ 2 ^ n :=
  Nat.le_trans (List.length_filter_le _ _) (by simpa using h)
end Go.Proofs.YtaagfcdniacmnaaDoor
