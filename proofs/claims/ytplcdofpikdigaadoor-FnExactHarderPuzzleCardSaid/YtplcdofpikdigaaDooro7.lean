/- Chapter 9: all words of a puzzle, in order, and the next one (pure). -/
import Derived.Test.YtplcdofpikdigaaDooro2
namespace Go.Proofs.YtplcdofpikdigaaDoor
set_option linter.unusedSimpArgs false
set_option linter.unusedVariables false

/-- The n digits behind x. -/
def grD : Nat → UInt8 → List UInt8
  | 0, _ => []
  | n + 1, x => (x + 1) :: grD n (x + 1)
/-- All words of digits up to D with the digits that a puzzle has. -/
def compl (D : Nat) : List UInt8 → List (List UInt8)
  | [] => [[]]
  | c :: W => (if c = 46 then grD D 48 else [c]).flatMap fun y => (compl D W).map (y :: ·)
/-- Those from a word on. -/
def restW (D : Nat) : List UInt8 → List UInt8 → List (List UInt8)
  | c :: W, x :: w => (restW D W w).map (x :: ·) ++ (if c = 46 then grD (D + 48 - x.toNat) x else []).flatMap fun y => (compl D W).map (y :: ·)
  | _, _ => [[]]
def minW (W : List UInt8) : List UInt8 := W.map fun c => if c = 46 then 49 else c
/-- The next word with other digits up to place k. -/
def nxt (D : Nat) : List UInt8 → List UInt8 → Nat → Option (List UInt8)
  | c :: W, x :: w, k => match nxt D W w (k - 1) with
    | some s => some (x :: s)
    | none => if c = 46 ∧ 1 ≤ k ∧ x.toNat < D + 48 then some ((x + 1) :: minW W) else none
  | _, _, _ => none
/-- A word has the digits of a puzzle. -/
def Cmp (D : Nat) : List UInt8 → List UInt8 → Prop
  | [], [] => True
  | c :: W, x :: w => (if c = 46 then 49 ≤ x.toNat ∧ x.toNat ≤ 48 + D else x = c) ∧ Cmp D W w
  | _, _ => False
theorem u8_succ {x : UInt8} (h : x.toNat < 255) : (x + 1).toNat = x.toNat + 1 := by
  rw [UInt8.toNat_add]; have : (1 : UInt8).toNat = 1 := rfl; omega
theorem grD_mem : ∀ (n : Nat) (x y : UInt8), x.toNat + n ≤ 255 → (y ∈ grD n x ↔ x.toNat < y.toNat ∧ y.toNat ≤ x.toNat + n)
  | 0, x, y, _ => by simp [grD]
  | n + 1, x, y, h => by
    have hs : (x + 1).toNat = x.toNat + 1 := u8_succ (by omega)
    have ih := grD_mem n (x + 1) y (by omega)
    rw [grD, List.mem_cons, ih, hs]
    constructor
    · rintro (rfl | h1)
      · omega
      · omega
    · intro h1
      by_cases e : y.toNat = x.toNat + 1
      · exact .inl (UInt8.toNat_inj.1 (by omega))
      · exact .inr (by omega)
theorem mem_compl {D : Nat} (hD : D ≤ 9) : ∀ (W s : List UInt8), s ∈ compl D W ↔ Cmp D W s
  | [], s => by
    cases s with
    | nil => simp [compl, Cmp]
    | cons a t => simp [compl, Cmp]
  | c :: W, s => by
    rw [compl, List.mem_flatMap]
    cases s with
    | nil =>
      simp only [Cmp, iff_false]
      rintro ⟨y, _, hm⟩
      simp at hm
    | cons x w =>
      have ih := mem_compl hD W w
      have h48 : (48 : UInt8).toNat = 48 := rfl
      simp only [Cmp]
      constructor
      · rintro ⟨y, hy, hm⟩
        obtain ⟨t, ht, e⟩ := List.mem_map.1 hm
        have e1 : y = x := by injection e
        have e2 : t = w := by injection e
        subst e1; subst e2
        refine ⟨?_, ih.1 ht⟩
        by_cases hc : c = 46
        · rw [if_pos hc] at hy ⊢
          have := (grD_mem D 48 y (by rw [h48]; omega)).1 hy
          omega
        · rw [if_neg hc] at hy ⊢
          simpa using hy
      · rintro ⟨h1, h2⟩
        refine ⟨x, ?_, List.mem_map.2 ⟨w, ih.2 h2, rfl⟩⟩
        by_cases hc : c = 46
        · rw [if_pos hc] at h1 ⊢
          exact (grD_mem D 48 x (by rw [h48]; omega)).2 (by omega)
        · rw [if_neg hc] at h1 ⊢
          simpa using h1
theorem cmp_len {D : Nat} : ∀ (W s : List UInt8), Cmp D W s → s.length = W.length
  | [], [], _ => rfl
  | [], _ :: _, h => h.elim
  | _ :: _, [], h => h.elim
  | c :: W, x :: w, h => by simp [cmp_len W w h.2]
theorem cmp_min {D : Nat} (hD : 1 ≤ D) : ∀ (W : List UInt8), Cmp D W (minW W)
  | [] => trivial
  | c :: W => by
    show (if c = 46 then 49 ≤ (if c = 46 then (49 : UInt8) else c).toNat ∧ (if c = 46 then (49 : UInt8) else c).toNat ≤ 48 + D else (if c = 46 then (49 : UInt8) else c) = c) ∧ Cmp D W (minW W)
    refine ⟨?_, cmp_min hD W⟩
    by_cases hc : c = 46
    · simp only [if_pos hc]; exact ⟨by decide, by have : (49 : UInt8).toNat = 49 := rfl; omega⟩
    · simp only [if_neg hc]
/-- The sizes of words at a place. -/
theorem cmp_at {D : Nat} : ∀ (W s : List UInt8), Cmp D W s → ∀ i, i < W.length → if W.getD i 0 = 46 then 49 ≤ (s.getD i 0).toNat ∧ (s.getD i 0).toNat ≤ 48 + D else s.getD i 0 = W.getD i 0
  | [], [], _, i, hi => by simp at hi
  | [], _ :: _, h, _, _ => h.elim
  | _ :: _, [], h, _, _ => h.elim
  | c :: W, x :: w, h, i, hi => by
    cases i with
    | zero => exact h.1
    | succ i =>
      simp only [List.getD_cons_succ]
      exact cmp_at W w h.2 i (by simpa using hi)
theorem grD_step {D : Nat} {x : UInt8} (h : x.toNat < D + 48) (hD : D ≤ 9) : grD (D + 48 - x.toNat) x = (x + 1) :: grD (D + 48 - (x + 1).toNat) (x + 1) := by
  rw [u8_succ (by omega), show D + 48 - x.toNat = (D + 48 - (x.toNat + 1)) + 1 by omega, grD]
theorem rest_min {D : Nat} (hD : 1 ≤ D) (hD9 : D ≤ 9) : ∀ (W : List UInt8), restW D W (minW W) = compl D W
  | [] => rfl
  | c :: W => by
    show restW D (c :: W) ((if c = 46 then 49 else c) :: minW W) = _
    rw [restW, rest_min hD hD9 W, compl]
    by_cases hc : c = 46
    · simp only [if_pos hc]
      have h := grD_step (D := D) (x := 48) (by have : (48 : UInt8).toNat = 48 := rfl; omega) hD9
      have e : D + 48 - (48 : UInt8).toNat = D := by have : (48 : UInt8).toNat = 48 := rfl; omega
      rw [e] at h
      rw [h, List.flatMap_cons]; rfl
    · simp only [if_neg hc]
      simp
theorem rest_head {D : Nat} : ∀ (W w : List UInt8), Cmp D W w → ∃ t, restW D W w = w :: t
  | [], [], _ => ⟨[], rfl⟩
  | [], _ :: _, h => h.elim
  | _ :: _, [], h => h.elim
  | c :: W, x :: w, h => by
    obtain ⟨t, ht⟩ := rest_head W w h.2
    exact ⟨_, by rw [restW, ht]; rfl⟩
theorem nxt_cmp {D : Nat} (hD : 1 ≤ D) (hD9 : D ≤ 9) : ∀ (W w : List UInt8) (k : Nat) (s : List UInt8), Cmp D W w → nxt D W w k = some s → Cmp D W s
  | [], [], _, s, _, h => by simp [nxt] at h
  | [], _ :: _, _, _, h, _ => h.elim
  | _ :: _, [], _, _, h, _ => h.elim
  | c :: W, x :: w, k, s, hc, h => by
    rw [nxt] at h
    cases hn : nxt D W w (k - 1) with
    | some s' =>
      rw [hn] at h
      simp only [Option.some.injEq] at h
      subst h
      exact ⟨hc.1, nxt_cmp hD hD9 W w (k - 1) s' hc.2 hn⟩
    | none =>
      rw [hn] at h
      simp only at h
      split at h
      · rename_i hif
        obtain ⟨h1, h2, h3⟩ := hif
        simp only [Option.some.injEq] at h
        subst h
        refine ⟨?_, cmp_min hD W⟩
        have := hc.1
        rw [if_pos h1] at this ⊢
        rw [u8_succ (by omega)]; omega
      · cases h
theorem nxt_len {D : Nat} (hD : 1 ≤ D) (hD9 : D ≤ 9) : ∀ (W w : List UInt8) (k : Nat) (s : List UInt8), Cmp D W w → nxt D W w k = some s → (restW D W s).length < (restW D W w).length
  | [], [], _, s, _, h => by simp [nxt] at h
  | [], _ :: _, _, _, h, _ => h.elim
  | _ :: _, [], _, _, h, _ => h.elim
  | c :: W, x :: w, k, s, hc, h => by
    rw [nxt] at h
    cases hn : nxt D W w (k - 1) with
    | some s' =>
      rw [hn] at h
      simp only [Option.some.injEq] at h
      subst h
      have ih := nxt_len hD hD9 W w (k - 1) s' hc.2 hn
      simp only [restW, List.length_append, List.length_map]
      omega
    | none =>
      rw [hn] at h
      simp only at h
      split at h
      · rename_i hif
        obtain ⟨h1, h2, h3⟩ := hif
        simp only [Option.some.injEq] at h
        subst h
        obtain ⟨t, ht⟩ := rest_head W w hc.2
        simp only [restW, if_pos h1, grD_step h3 hD9, List.flatMap_cons, List.length_append, List.length_map, rest_min hD hD9, ht, List.length_cons]
        omega
      · cases h
/-- From a word on, the solutions: the word itself, if it is one, and those from the next one on. -/
theorem nxt_sol {D : Nat} (hD : 1 ≤ D) (hD9 : D ≤ 9) : ∀ (W w : List UInt8) (k : Nat) (sol : List UInt8 → Bool), Cmp D W w →
    (∀ s, Cmp D W s → s.take k = w.take k → s ≠ w → sol s = false) →
    (restW D W w).filter sol = (if sol w = true then [w] else []) ++ (match nxt D W w k with | some s => (restW D W s).filter sol | none => [])
  | [], [], k, sol, _, _ => by
    simp only [restW, nxt, List.append_nil]
    cases h : sol [] <;> simp [List.filter, h]
  | [], _ :: _, _, _, h, _ => h.elim
  | _ :: _, [], _, _, h, _ => h.elim
  | c :: W, x :: w, k, sol, hc, hs => by
    have ih := nxt_sol hD hD9 W w (k - 1) (fun s => sol (x :: s)) hc.2 (fun s h1 h2 h3 => hs (x :: s) ⟨hc.1, h1⟩ (by
      cases k with
      | zero => rfl
      | succ k => simp only [List.take_succ_cons]; rw [show k + 1 - 1 = k by omega] at h2; rw [h2]) (fun e => h3 (by injection e)))
    have e1 : ((restW D W w).map (x :: ·)).filter sol = (if sol (x :: w) = true then [x :: w] else []) ++ (match nxt D W w (k - 1) with | some s => ((restW D W s).map (x :: ·)).filter sol | none => []) := by
      rw [List.filter_map]
      have e : (sol ∘ fun y => x :: y) = fun s => sol (x :: s) := rfl
      rw [e, ih, List.map_append]
      congr 1
      · cases h : sol (x :: w) <;> simp
      · cases nxt D W w (k - 1) with
        | none => rfl
        | some s => simp only; rw [List.filter_map]; rfl
    rw [restW, List.filter_append, e1, nxt]
    cases hn : nxt D W w (k - 1) with
    | some s =>
      simp only
      rw [restW, List.filter_append, List.append_assoc]
    | none =>
      simp only [List.append_nil]
      congr 1
      by_cases h1 : c = 46
      · have hx := hc.1
        rw [if_pos h1] at hx
        simp only [if_pos h1]
        by_cases h3 : x.toNat < D + 48
        · by_cases h2 : 1 ≤ k
          · rw [if_pos ⟨h1, h2, h3⟩]
            simp only
            rw [restW, rest_min hD hD9, if_pos h1, grD_step h3 hD9, List.flatMap_cons]
          · rw [if_neg (fun h => h2 h.2.1)]
            simp only
            rw [List.filter_eq_nil_iff]
            intro s hm
            obtain ⟨y, hy, hm2⟩ := List.mem_flatMap.1 hm
            obtain ⟨t, ht, rfl⟩ := List.mem_map.1 hm2
            have hg := (grD_mem _ x y (by omega)).1 hy
            have := hs (y :: t) ⟨by rw [if_pos h1]; omega, (mem_compl hD9 W t).1 ht⟩ (by rw [show k = 0 by omega]; rfl) (fun e => by injection e with e1 _; subst e1; omega)
            rw [this]; simp
        · rw [if_neg (fun h => h3 h.2.2)]
          rw [show D + 48 - x.toNat = 0 by omega]
          simp [grD]
      · have hn2 : ¬ (c = 46 ∧ 1 ≤ k ∧ x.toNat < D + 48) := fun h => h1 h.1
        simp only [if_neg h1, if_neg hn2]
        simp
/-- From a place on. -/
theorem nxt_from {D : Nat} (W w : List UInt8) (k : Nat) (hl : w.length = W.length) : ∀ (i : Nat) (s : List UInt8), i ≤ W.length → nxt D (W.drop i) (w.drop i) (k - i) = some s → nxt D W w k = some (w.take i ++ s)
  | 0, s, _, h => by simpa using h
  | i + 1, s, hi, h => by
    have h1 : i < W.length := by omega
    have h2 : i < w.length := by omega
    refine (nxt_from W w k hl i (w[i] :: s) (by omega) ?_).trans ?_
    · rw [List.drop_eq_getElem_cons h1, List.drop_eq_getElem_cons h2, nxt, show k - i - 1 = k - (i + 1) by omega, h]
    · rw [List.take_succ_eq_append_getElem h2, List.append_assoc]; rfl
theorem nxt_none {D : Nat} (W w : List UInt8) (k i : Nat) (hl : w.length = W.length) (h1 : i < W.length) (h : nxt D (W.drop (i + 1)) (w.drop (i + 1)) (k - (i + 1)) = none) :
    nxt D (W.drop i) (w.drop i) (k - i) = if W.getD i 0 = 46 ∧ i < k ∧ (w.getD i 0).toNat < D + 48 then some ((w.getD i 0 + 1) :: minW (W.drop (i + 1))) else none := by
  have h2 : i < w.length := by omega
  rw [List.drop_eq_getElem_cons h1, List.drop_eq_getElem_cons h2, nxt, show k - i - 1 = k - (i + 1) by omega, h, getD_lt h1, getD_lt h2]
  simp only
  by_cases hc : W[i] = 46 ∧ i < k ∧ (w[i]).toNat < D + 48
  · rw [if_pos hc, if_pos ⟨hc.1, by omega, hc.2.2⟩]
  · rw [if_neg hc, if_neg (fun h => hc ⟨h.1, by omega, h.2.2⟩)]
end Go.Proofs.YtplcdofpikdigaaDoor
