/- Low words: their lengths, what is derived from them, how often (pure). -/
import Derived.Test.YthbjaclobllkhaaR1
namespace Go.Proofs.Ythbjaclobllkhaa
set_option linter.unusedSimpArgs false
set_option linter.unusedVariables false

def onB (c : UInt8) : Bool := c == 49 || c == 50
def lowB (l : List UInt8) : Bool := decide (l.length ≤ 60) && l.all onB
/-- The digits of the lengths of runs. -/
def lensR (rs : List (UInt8 × Nat)) : List UInt8 := rs.map fun p => nDig p.2
def lensL (l : List UInt8) : List UInt8 := lensR (runsL l)
def cutF (x : List UInt8) : List UInt8 := if x.head? = some 49 then x.tail else x
def cutB (x : List UInt8) : List UInt8 := if x.getLast? = some 49 then x.dropLast else x
def cutL (x : List UInt8) : List UInt8 := cutB (cutF x)
def derL (l : List UInt8) : Option (List UInt8) := if longL l ≤ 2 then some (cutL (lensL l)) else none

theorem onB_digB {l : List UInt8} (h : l.all onB = true) : l.all digB = true := by
  rw [List.all_eq_true] at h ⊢
  intro c hc
  have := h c hc
  unfold onB at this
  simp only [Bool.or_eq_true, beq_iff_eq] at this
  rcases this with rfl | rfl <;> rfl
theorem cutF_sub (x : List UInt8) : cutF x = x ∨ cutF x = x.tail := by unfold cutF; split <;> simp
theorem cutB_sub (x : List UInt8) : cutB x = x ∨ cutB x = x.dropLast := by unfold cutB; split <;> simp
theorem cutF_len (x : List UInt8) : (cutF x).length ≤ x.length := by rcases cutF_sub x with h | h <;> rw [h] <;> simp
theorem cutB_len (x : List UInt8) : (cutB x).length ≤ x.length := by rcases cutB_sub x with h | h <;> rw [h] <;> simp
theorem cutF_mem {x : List UInt8} {c : UInt8} (h : c ∈ cutF x) : c ∈ x := by
  rcases cutF_sub x with e | e <;> rw [e] at h
  · exact h
  · exact List.mem_of_mem_tail h
theorem cutB_mem {x : List UInt8} {c : UInt8} (h : c ∈ cutB x) : c ∈ x := by
  rcases cutB_sub x with e | e <;> rw [e] at h
  · exact h
  · exact (List.dropLast_sublist _).mem h
theorem cutL_len (x : List UInt8) : (cutL x).length ≤ x.length := Nat.le_trans (cutB_len _) (cutF_len _)
theorem runs_two {l : List UInt8} (h : longL l ≤ 2) : ∀ p ∈ runsL l, p.2 = 1 ∨ p.2 = 2 := by
  intro p hp
  have h1 := le_longR' hp
  have h2 : longR (runsL l) ≤ 2 := h
  have h3 := runs_pos1 l p hp
  omega
where
  runs_pos1 (l : List UInt8) : ∀ p ∈ runsL l, 1 ≤ p.2 := by
    refine snoc_rec (P := fun l => ∀ p ∈ runsL l, 1 ≤ p.2) (fun p hp => by simp [runsL] at hp) (fun l a ih => ?_) l
    rw [runsL_snoc]
    rcases list_cases_snoc (runsL l) with e | ⟨pre, ⟨d, n⟩, e⟩
    · rw [e]; intro p hp; simp [stepRun] at hp; subst hp; exact Nat.le_refl _
    · rw [e] at ih ⊢
      by_cases ed : d = a
      · subst ed; rw [stepRun_same]
        intro p hp
        rw [List.mem_append] at hp
        rcases hp with hp | hp
        · exact ih p (by simp [hp])
        · simp at hp; subst hp; simp
      · rw [stepRun_other _ _ _ _ ed]
        intro p hp
        rw [List.mem_append] at hp
        rcases hp with hp | hp
        · exact ih p hp
        · simp at hp; subst hp; exact Nat.le_refl _
theorem lens_on {l : List UInt8} (h : longL l ≤ 2) : (lensL l).all onB = true := by
  rw [List.all_eq_true]
  intro c hc
  unfold lensL lensR at hc
  rw [List.mem_map] at hc
  obtain ⟨p, hp, rfl⟩ := hc
  rcases runs_two h p hp with e | e <;> rw [e] <;> rfl
theorem lens_len (l : List UInt8) : (lensL l).length ≤ l.length := by
  unfold lensL lensR; rw [List.length_map]; exact runs_len_le l
theorem der_low {l m : List UInt8} (hl : lowB l = true) (h : derL l = some m) : lowB m = true := by
  unfold derL at h
  split at h
  · rename_i h2
    cases h
    unfold lowB at hl ⊢
    simp only [Bool.and_eq_true, decide_eq_true_eq] at hl ⊢
    refine ⟨Nat.le_trans (cutL_len _) (Nat.le_trans (lens_len l) hl.1), ?_⟩
    have := lens_on h2
    rw [List.all_eq_true] at this ⊢
    exact fun c hc => this c (cutF_mem (cutB_mem hc))
  · cases h
/-- Runs of one digit each: their lengths are ones. -/
theorem sum_ones : ∀ (rs : List (UInt8 × Nat)), (∀ p ∈ rs, 1 ≤ p.2) → (rs.map (·.2)).sum ≤ rs.length → ∀ p ∈ rs, p.2 = 1
  | [], _, _, p, hp => by simp at hp
  | q :: r, h1, h2, p, hp => by
    have hq := h1 q (by simp)
    have hr : r.length ≤ (r.map (·.2)).sum := by
      have : ∀ (r : List (UInt8 × Nat)), (∀ p ∈ r, 1 ≤ p.2) → r.length ≤ (r.map (·.2)).sum := by
        intro r
        induction r with
        | nil => simp
        | cons a t ih =>
          intro h
          have h1 := h a (by simp)
          have h2 := ih (fun p hp => h p (by simp [hp]))
          simp only [List.length_cons, List.map_cons, List.sum_cons]
          omega
      exact this r (fun p hp => h1 p (by simp [hp]))
    simp only [List.map_cons, List.sum_cons, List.length_cons] at h2
    rw [List.mem_cons] at hp
    rcases hp with rfl | hp
    · omega
    · exact sum_ones r (fun p hp => h1 p (by simp [hp])) (by omega) p hp
theorem der_less {l m : List UInt8} (hl : l ≠ []) (h : derL l = some m) : m.length < l.length := by
  unfold derL at h
  split at h
  · rename_i h2
    cases h
    have h3 := lens_len l
    have h4 := cutL_len (lensL l)
    by_cases hlt : (lensL l).length < l.length
    · omega
    · have hr : (runsL l).length = l.length := by
        have := runs_len_le l
        unfold lensL lensR at hlt
        rw [List.length_map] at hlt
        omega
      have h1 := sum_ones (runsL l) (runs_two.runs_pos1 l) (by rw [runsL_sum, hr]; exact Nat.le_refl _)
      have hne : lensL l ≠ [] := by
        unfold lensL lensR
        intro e
        have := List.map_eq_nil_iff.1 e
        exact runs_ne hl this
      obtain ⟨a, t, e⟩ := List.exists_cons_of_ne_nil hne
      have ha : a = 49 := by
        have : a ∈ lensL l := by rw [e]; simp
        unfold lensL lensR at this
        rw [List.mem_map] at this
        obtain ⟨p, hp, rfl⟩ := this
        rw [h1 p hp]; rfl
      have h5 : (cutF (lensL l)).length = t.length := by rw [e, ha]; simp [cutF]
      have h6 : (lensL l).length = t.length + 1 := by rw [e]; simp
      have h7 := cutB_len (cutF (lensL l))
      unfold cutL
      omega
  · cases h

def depF : Nat → List UInt8 → Option Nat
  | _, [] => some 0
  | 0, _ :: _ => none
  | k + 1, c :: t => (derL (c :: t)).bind fun m => (depF k m).map (· + 1)
def depL (l : List UInt8) : Option Nat := depF l.length l
theorem depF_more : ∀ (k j : Nat) (l : List UInt8), l.length ≤ k → l.length ≤ j → depF k l = depF j l
  | k, j, [], _, _ => by cases k <;> cases j <;> rfl
  | 0, j, c :: t, h, _ => by simp at h
  | k + 1, 0, c :: t, _, h => by simp at h
  | k + 1, j + 1, c :: t, h1, h2 => by
    unfold depF
    cases h : derL (c :: t) with
    | none => rfl
    | some m =>
      have := der_less (by simp) h
      simp only [List.length_cons] at this h1 h2
      simp only [Option.bind_some]
      rw [depF_more k j m (by omega) (by omega)]
theorem depL_nil : depL [] = some 0 := rfl
theorem depL_step {l : List UInt8} (hl : l ≠ []) : depL l = (derL l).bind fun m => (depL m).map (· + 1) := by
  obtain ⟨c, t, rfl⟩ := List.exists_cons_of_ne_nil hl
  have e : depL (c :: t) = (derL (c :: t)).bind fun m => (depF t.length m).map (· + 1) := rfl
  rw [e]
  cases h : derL (c :: t) with
  | none => rfl
  | some m =>
    have := der_less (by simp) h
    simp only [List.length_cons] at this
    simp only [Option.bind_some]
    unfold depL
    rw [depF_more t.length m.length m (by omega) (Nat.le_refl _)]
theorem depL_none {l : List UInt8} (hl : l ≠ []) (h : derL l = none) : depL l = none := by rw [depL_step hl, h]; rfl
theorem depL_some {l m : List UInt8} (hl : l ≠ []) (h : derL l = some m) : depL l = (depL m).map (· + 1) := by rw [depL_step hl, h]; rfl
theorem depF_le : ∀ (k : Nat) (l : List UInt8) (d : Nat), depF k l = some d → d ≤ k
  | k, [], d, h => by cases k <;> (cases h; omega)
  | 0, c :: t, d, h => by cases h
  | k + 1, c :: t, d, h => by
    unfold depF at h
    cases hd : derL (c :: t) with
    | none => rw [hd] at h; cases h
    | some m =>
      rw [hd, Option.bind_some, Option.map_eq_some_iff] at h
      obtain ⟨e, he, rfl⟩ := h
      have := depF_le k m e he
      omega
def depO (l : List UInt8) : Option Nat := if lowB l = true then depL l else none
def smB (l : List UInt8) : Bool := (depL l).isSome
end Go.Proofs.Ythbjaclobllkhaa
