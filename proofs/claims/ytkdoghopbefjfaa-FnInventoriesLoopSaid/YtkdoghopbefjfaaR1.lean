/- Runs of what is said, said again and again: plain lists, nothing of the program's memory. -/
import Derived.Test.YtkdoghopbefjfaaA5
namespace Go.Proofs.Ytkdoghopbefjfaa
set_option linter.unusedSimpArgs false
set_option linter.unusedVariables false

/-- Next runs tell of other digits. -/
def Adj (qs : List (UInt8 × Nat)) : Prop := ∀ (i : Nat) (a b : UInt8 × Nat), qs[i]? = some a → qs[i + 1]? = some b → a.1 ≠ b.1
theorem adj_nil : Adj [] := fun i a b h => by simp at h
theorem adj_prefix {qs rs : List (UInt8 × Nat)} (h : qs <+: rs) (hr : Adj rs) : Adj qs := by
  obtain ⟨t, rfl⟩ := h
  intro i a b h1 h2
  have e1 := (List.getElem?_eq_some_iff.1 h1).1
  have e2 := (List.getElem?_eq_some_iff.1 h2).1
  exact hr i a b (by rw [List.getElem?_append_left e1]; exact h1) (by rw [List.getElem?_append_left e2]; exact h2)
theorem adj_snoc {qs : List (UInt8 × Nat)} {x : UInt8 × Nat} (h : Adj qs) (hx : ∀ p, qs.getLast? = some p → p.1 ≠ x.1) : Adj (qs ++ [x]) := by
  intro i a b h1 h2
  by_cases hi : i + 1 < qs.length
  · rw [List.getElem?_append_left (by omega)] at h1
    rw [List.getElem?_append_left hi] at h2
    exact h i a b h1 h2
  · by_cases hj : i + 1 = qs.length
    · rw [List.getElem?_append_left (by omega)] at h1
      rw [List.getElem?_append_right (by omega), hj, Nat.sub_self] at h2
      simp at h2; subst h2
      refine hx a ?_
      rw [List.getLast?_eq_getElem?, ← h1]; congr 1; omega
    · have := (List.getElem?_eq_some_iff.1 h2).1
      simp at this; omega
theorem adj_last {pre : List (UInt8 × Nat)} {x y : UInt8 × Nat} (h : Adj (pre ++ [x])) (hxy : x.1 = y.1) : Adj (pre ++ [y]) := by
  refine adj_snoc (adj_prefix ⟨[x], rfl⟩ h) (fun p hp => ?_)
  rw [← hxy]
  have hl : pre.length ≠ 0 := by intro e; have := List.eq_nil_of_length_eq_zero e; subst this; simp at hp
  refine h (pre.length - 1) p x ?_ ?_
  · rw [List.getElem?_append_left (by omega), ← List.getLast?_eq_getElem?]; exact hp
  · rw [List.getElem?_append_right (by omega), show pre.length - 1 + 1 - pre.length = 0 by omega]; rfl
theorem list_cases_snoc {α : Type} (l : List α) : l = [] ∨ ∃ pre x, l = pre ++ [x] := by
  by_cases h : l = []
  · exact .inl h
  · exact .inr ⟨l.dropLast, l.getLast h, (List.dropLast_concat_getLast h).symm⟩
theorem snoc_rec {α : Type} {P : List α → Prop} (h0 : P []) (hs : ∀ l a, P l → P (l ++ [a])) : ∀ l, P l := by
  intro l
  induction h : l.length generalizing l with
  | zero => have : l = [] := List.eq_nil_of_length_eq_zero h; subst this; exact h0
  | succ n ih =>
    rcases list_cases_snoc l with rfl | ⟨pre, x, rfl⟩
    · simp at h
    · exact hs _ _ (ih pre (by simpa using h))
theorem adj_step {acc : List (UInt8 × Nat)} (c : UInt8) (h : Adj acc) : Adj (stepRun acc c) := by
  rcases list_cases_snoc acc with rfl | ⟨pre, ⟨d, n⟩, rfl⟩
  · have : stepRun [] c = [] ++ [(c, 1)] := rfl
    rw [this]; exact adj_snoc adj_nil (fun p hp => by simp at hp)
  · by_cases e : d = c
    · subst e; rw [stepRun_same]; exact adj_last h rfl
    · rw [stepRun_other _ _ _ _ e]
      exact adj_snoc h (fun p hp => by simp at hp; subst hp; exact e)
theorem adj_runs (l : List UInt8) : Adj (runsL l) := by
  refine snoc_rec (P := fun l => Adj (runsL l)) adj_nil (fun l a h => ?_) l
  rw [runsL_snoc]; exact adj_step a h
theorem longR_le_of {rs : List (UInt8 × Nat)} {m : Nat} (h : ∀ p ∈ rs, p.2 ≤ m) : longR rs ≤ m := by
  revert h
  refine snoc_rec (P := fun rs => (∀ p ∈ rs, p.2 ≤ m) → longR rs ≤ m) (fun _ => Nat.zero_le _) (fun l a ih h => ?_) rs
  rw [longR_snoc]
  have h1 := ih (fun p hp => h p (by simp [hp]))
  have h2 := h a (by simp)
  omega
theorem le_longR' {rs : List (UInt8 × Nat)} {p : UInt8 × Nat} (h : p ∈ rs) : p.2 ≤ longR rs := by
  revert h
  refine snoc_rec (P := fun rs => p ∈ rs → p.2 ≤ longR rs) (fun h => by simp at h) (fun l a ih h => ?_) rs
  rw [longR_snoc]
  rw [List.mem_append] at h
  rcases h with h | h
  · have := ih h; omega
  · simp at h; subst h; omega
/-- Runs that can be said: few, of digits. -/
def RunOk (p : UInt8 × Nat) : Prop := 49 ≤ p.1.toNat ∧ p.1.toNat ≤ 57 ∧ 1 ≤ p.2 ∧ p.2 ≤ 9
def nDig (n : Nat) : UInt8 := UInt8.ofNat (48 + n)
theorem nDig_nat {n : Nat} (h : n ≤ 9) : (nDig n).toNat = 48 + n := by
  unfold nDig; rw [UInt8.toNat_ofNat', Nat.mod_eq_of_lt (by omega)]
theorem sayP_two {p : UInt8 × Nat} (h : RunOk p) : sayP p = [nDig p.2, p.1] := by
  obtain ⟨h1, h2, h3, h4⟩ := h
  unfold sayP
  rw [numL_one _ (by omega), numL_one _ (by omega)]
  have : UInt8.ofNat (48 + (p.1.toNat - 48)) = p.1 := by rw [show 48 + (p.1.toNat - 48) = p.1.toNat by omega]; exact UInt8.ofNat_toNat
  rw [this]; rfl
theorem sayR_snoc2 {qs : List (UInt8 × Nat)} {p : UInt8 × Nat} (h : RunOk p) : sayR (qs ++ [p]) = sayR qs ++ [nDig p.2] ++ [p.1] := by
  simp [sayR, sayP_two h]
theorem sayR_len2 {qs : List (UInt8 × Nat)} (h : ∀ p ∈ qs, RunOk p) : (sayR qs).length = 2 * qs.length := by
  revert h
  refine snoc_rec (P := fun qs => (∀ p ∈ qs, RunOk p) → (sayR qs).length = 2 * qs.length) (fun _ => rfl) (fun l a ih h => ?_) qs
  rw [sayR_snoc2 (h a (by simp))]
  have := ih (fun p hp => h p (by simp [hp]))
  simp; omega
theorem sayR_all {qs : List (UInt8 × Nat)} (h : ∀ p ∈ qs, RunOk p) : (sayR qs).all digB = true := by
  revert h
  refine snoc_rec (P := fun qs => (∀ p ∈ qs, RunOk p) → (sayR qs).all digB = true) (fun _ => rfl) (fun l a ih h => ?_) qs
  have ha := h a (by simp)
  rw [sayR_snoc2 ha]
  have := ih (fun p hp => h p (by simp [hp]))
  obtain ⟨h1, h2, h3, h4⟩ := ha
  simp only [List.all_append, this, List.all_cons, List.all_nil, digB, nDig_nat h4]
  simp; omega
/-- The runs of what is said: none has more than three digits, and there are as many as pairs at least. -/
def SaidRuns (qs R : List (UInt8 × Nat)) : Prop := (∀ p ∈ R, p.2 ≤ 3) ∧ qs.length ≤ R.length ∧ ∀ q, qs.getLast? = some q → ∃ pre m, R = pre ++ [(q.1, m)] ∧ m ≤ 2
theorem said_runs {qs : List (UInt8 × Nat)} (ha : Adj qs) (h : ∀ p ∈ qs, RunOk p) : SaidRuns qs (runsL (sayR qs)) := by
  revert ha h
  refine snoc_rec (P := fun qs => Adj qs → (∀ p ∈ qs, RunOk p) → SaidRuns qs (runsL (sayR qs))) (fun _ _ => ⟨fun p hp => by simp [sayR, runsL] at hp, by simp, fun q hq => by simp at hq⟩) (fun l a ih ha h => ?_) qs
  obtain ⟨i1, i2, i3⟩ := ih (adj_prefix ⟨[a], rfl⟩ ha) (fun p hp => h p (by simp [hp]))
  rw [sayR_snoc2 (h a (by simp)), runsL_snoc, runsL_snoc]
  obtain ⟨d, n⟩ := a
  simp only
  rcases list_cases_snoc l with rfl | ⟨pre, q, rfl⟩
  · rw [show runsL (sayR []) = [] from rfl]
    have e1 : stepRun [] (nDig n) = [] ++ [(nDig n, 1)] := rfl
    rw [e1]
    by_cases e : nDig n = d
    · rw [← e, stepRun_same]
      exact ⟨fun p hp => by simp at hp; subst hp; simp, by simp, fun q hq => by simp at hq; subst hq; exact ⟨[], 2, by simp, by omega⟩⟩
    · rw [stepRun_other _ _ _ _ e]
      exact ⟨fun p hp => by simp at hp; rcases hp with rfl | rfl <;> simp, by simp, fun q hq => by simp at hq; subst hq; exact ⟨[(nDig n, 1)], 1, by simp, by omega⟩⟩
  · obtain ⟨R', m, hR, hm⟩ := i3 q (by simp)
    have hqd : q.1 ≠ d := ha pre.length q (d, n) (by rw [List.getElem?_append_left (by simp), List.getElem?_append_right (by omega), Nat.sub_self]; rfl) (by rw [List.getElem?_append_right (by simp)]; simp)
    rw [hR] at i1 i2 ⊢
    simp only [List.length_append, List.length_cons, List.length_nil] at i2
    by_cases e2 : q.1 = nDig n
    · rw [← e2, stepRun_same, stepRun_other _ _ _ _ hqd]
      refine ⟨fun p hp => ?_, by simp; omega, fun x hx => by simp at hx; subst hx; exact ⟨_, 1, rfl, by omega⟩⟩
      simp only [List.mem_append, List.mem_singleton] at hp
      rcases hp with (hp | rfl) | rfl
      · exact i1 p (by simp [hp])
      · simp; omega
      · simp
    · rw [stepRun_other _ _ _ _ e2]
      by_cases e3 : nDig n = d
      · rw [e3, stepRun_same]
        refine ⟨fun p hp => ?_, by simp; omega, fun x hx => by simp at hx; subst hx; exact ⟨_, 2, rfl, by omega⟩⟩
        simp only [List.mem_append, List.mem_singleton] at hp
        rcases hp with (hp | rfl) | rfl
        · exact i1 p (by simp [hp])
        · simp; omega
        · simp
      · rw [stepRun_other _ _ _ _ e3]
        refine ⟨fun p hp => ?_, by simp; omega, fun x hx => by simp at hx; subst hx; exact ⟨_, 1, rfl, by omega⟩⟩
        simp only [List.mem_append, List.mem_singleton] at hp
        rcases hp with ((hp | rfl) | rfl) | rfl
        · exact i1 p (by simp [hp])
        · simp; omega
        · simp
        · simp

/-- A text that can be said, however long: digits, no run of more than nine. -/
def sayB (l : List UInt8) : Bool := !l.isEmpty && l.all digB && decide (longL l ≤ 9)
theorem sayB_iff {l : List UInt8} : sayB l = true ↔ l ≠ [] ∧ l.all digB = true ∧ longL l ≤ 9 := by
  unfold sayB; simp [and_assoc]
theorem stepRun_digB (acc : List (UInt8 × Nat)) (c : UInt8) (h : ∀ p ∈ acc, digB p.1 = true ∧ 1 ≤ p.2) (hc : digB c = true) : ∀ p ∈ stepRun acc c, digB p.1 = true ∧ 1 ≤ p.2 := by
  rcases list_cases_snoc acc with rfl | ⟨pre, ⟨d, n⟩, rfl⟩
  · intro p hp
    have e1 : stepRun [] c = [(c, 1)] := rfl
    rw [e1] at hp; simp at hp; subst hp; exact ⟨hc, by simp⟩
  · by_cases e : d = c
    · subst e; rw [stepRun_same]
      intro p hp
      rw [List.mem_append] at hp
      rcases hp with hp | hp
      · exact h p (by simp [hp])
      · simp at hp; subst hp; exact ⟨hc, by simp⟩
    · rw [stepRun_other _ _ _ _ e]
      intro p hp
      rw [List.mem_append] at hp
      rcases hp with hp | hp
      · exact h p hp
      · simp at hp; subst hp; exact ⟨hc, by simp⟩
theorem runs_digB {l : List UInt8} (h : l.all digB = true) : ∀ p ∈ runsL l, digB p.1 = true ∧ 1 ≤ p.2 := by
  revert h
  refine snoc_rec (P := fun l => l.all digB = true → ∀ p ∈ runsL l, digB p.1 = true ∧ 1 ≤ p.2) (fun _ p hp => by simp [runsL] at hp) (fun l a ih h => ?_) l
  rw [List.all_append] at h
  simp only [List.all_cons, List.all_nil, Bool.and_true, Bool.and_eq_true] at h
  rw [runsL_snoc]
  exact stepRun_digB _ _ (ih h.1) h.2
theorem runs_ok {l : List UInt8} (h : sayB l = true) : ∀ p ∈ runsL l, RunOk p := by
  obtain ⟨_, h2, h3⟩ := sayB_iff.1 h
  intro p hp
  obtain ⟨h4, h5⟩ := runs_digB h2 p hp
  unfold digB at h4
  simp at h4
  exact ⟨h4.1, h4.2, h5, Nat.le_trans (le_longR' hp) h3⟩
theorem runs_ne {l : List UInt8} (h : l ≠ []) : runsL l ≠ [] := by
  rcases list_cases_snoc l with rfl | ⟨pre, x, rfl⟩
  · exact absurd rfl h
  · rw [runsL_snoc]
    obtain ⟨p, n, e⟩ := stepRun_last (runsL pre) x
    rw [e]; simp
/-- What is said of a text that can be said can be said again. -/
theorem sayB_say {l : List UInt8} (h : sayB l = true) : sayB (sayL l) = true := by
  have hok := runs_ok h
  have hne : runsL l ≠ [] := runs_ne (sayB_iff.1 h).1
  refine sayB_iff.2 ⟨?_, sayR_all hok, ?_⟩
  · intro e
    have := sayR_len2 hok
    unfold sayL at e
    rw [e] at this
    exact hne (List.eq_nil_of_length_eq_zero (by simp at this; omega))
  · unfold longL sayL
    have := longR_le_of (said_runs (adj_runs l) hok).1
    omega
theorem runs_len_le (l : List UInt8) : (runsL l).length ≤ l.length := by
  refine snoc_rec (P := fun l => (runsL l).length ≤ l.length) (by simp [runsL]) (fun l a ih => ?_) l
  rw [runsL_snoc]
  rcases list_cases_snoc (runsL l) with e | ⟨pre, ⟨d, n⟩, e⟩
  · rw [e]; simp [stepRun]
  · rw [e] at ih ⊢
    by_cases e2 : d = a
    · subst e2; rw [stepRun_same]; simp at ih ⊢; omega
    · rw [stepRun_other _ _ _ _ e2]; simp at ih ⊢; omega
theorem say_len_le {l : List UInt8} (h : sayB l = true) : (sayL l).length ≤ 2 * l.length := by
  unfold sayL; rw [sayR_len2 (runs_ok h)]
  have := runs_len_le l; omega
/-- Said so many times. -/
def sayN : Nat → List UInt8 → List UInt8
  | 0, l => l
  | k + 1, l => sayL (sayN k l)
theorem sayN_ok {l : List UInt8} (h : sayB l = true) : ∀ k, sayB (sayN k l) = true
  | 0 => h
  | k + 1 => sayB_say (sayN_ok h k)
theorem sayN_len {l : List UInt8} (h : sayB l = true) : ∀ k, (sayN k l).length ≤ 2 ^ k * l.length
  | 0 => by simp [sayN]
  | k + 1 => by
    have h1 := say_len_le (sayN_ok h k)
    have h2 := sayN_len h k
    have : 2 ^ (k + 1) * l.length = 2 * (2 ^ k * l.length) := by rw [Nat.pow_succ, Nat.mul_comm (2 ^ k) 2, Nat.mul_assoc]
    simp only [sayN]; omega
/-- The first digits of a text said again and again. -/
def firstsL (l : List UInt8) : List UInt8 := (List.range 10).map fun k => (sayN k l).headD 0

/-! ### A part of a text tells the first pairs -/
theorem fold_prefix : ∀ (t : List UInt8) (acc : List (UInt8 × Nat)), acc.dropLast <+: t.foldl stepRun acc ∧ (acc.dropLast.length = (t.foldl stepRun acc).length → acc = []) := by
  intro t
  induction t with
  | nil => intro acc; exact ⟨List.dropLast_prefix acc, fun h => by simp at h; exact List.eq_nil_of_length_eq_zero (by omega)⟩
  | cons c t ih =>
    intro acc
    have hs : acc.dropLast <+: (stepRun acc c).dropLast := by
      rcases list_cases_snoc acc with rfl | ⟨pre, ⟨d, n⟩, rfl⟩
      · exact List.nil_prefix
      · by_cases e : d = c
        · subst e; rw [stepRun_same]; simp
        · rw [stepRun_other _ _ _ _ e]; simp
    obtain ⟨i1, i2⟩ := ih (stepRun acc c)
    refine ⟨hs.trans i1, fun h => ?_⟩
    have h1 := hs.length_le
    have h2 := i1.length_le
    simp only [List.foldl_cons] at h
    have h3 : (stepRun acc c).dropLast.length = (t.foldl stepRun (stepRun acc c)).length := by omega
    exact absurd (i2 h3) (by obtain ⟨p, n, e⟩ := stepRun_last acc c; rw [e]; simp)
theorem runs_prefix {p f : List UInt8} (h : p <+: f) : (runsL p).dropLast <+: runsL f := by
  obtain ⟨t, rfl⟩ := h
  have := (fold_prefix t (runsL p)).1
  unfold runsL at *
  rw [List.foldl_append]; exact this
theorem sayR_prefix {qs rs : List (UInt8 × Nat)} (h : qs <+: rs) : sayR qs <+: sayR rs := by
  obtain ⟨t, rfl⟩ := h
  exact ⟨sayR t, by simp [sayR]⟩
/-- The beginning of a text that is kept when it gets too long: the first pairs of what was said. -/
structure Cut (m : Nat) (p f : List UInt8) : Prop where
  pairs : ∃ qs, p = sayR qs ∧ (∀ x ∈ qs, RunOk x) ∧ Adj qs ∧ m ≤ qs.length
  pre : p <+: f
theorem cut_step {m : Nat} {p f : List UInt8} (h : Cut (m + 1) p f) (hf : sayB f = true) : Cut m ((sayL p).take ((sayL p).length - 2)) (sayL f) ∧ 2 ≤ (sayL p).length ∧ (sayL p).all digB = true ∧ sayB p = true := by
  obtain ⟨⟨qs, rfl, hok, hadj, hm⟩, hp⟩ := h
  obtain ⟨s1, s2, _⟩ := said_runs hadj hok
  have hqn : qs ≠ [] := by intro e; subst e; simp at hm
  have hpne : sayR qs ≠ [] := by
    intro e; have := sayR_len2 hok; rw [e] at this; simp at this; exact hqn (List.eq_nil_of_length_eq_zero (by omega))
  have hsp : sayB (sayR qs) = true := sayB_iff.2 ⟨hpne, sayR_all hok, by unfold longL; have := longR_le_of s1; omega⟩
  have hro := runs_ok hsp
  have hl := sayR_len2 hro
  have hrne := runs_ne hpne
  have hdl : (runsL (sayR qs)).dropLast ++ [(runsL (sayR qs)).getLast hrne] = runsL (sayR qs) := List.dropLast_concat_getLast hrne
  have hdok : ∀ x ∈ (runsL (sayR qs)).dropLast, RunOk x := fun x hx => hro x (List.dropLast_subset _ hx)
  have hdlen : (runsL (sayR qs)).dropLast.length = (runsL (sayR qs)).length - 1 := by simp
  have hcut : (sayL (sayR qs)).take ((sayL (sayR qs)).length - 2) = sayR (runsL (sayR qs)).dropLast := by
    have h1 : sayL (sayR qs) = sayR (runsL (sayR qs)).dropLast ++ [nDig ((runsL (sayR qs)).getLast hrne).2, ((runsL (sayR qs)).getLast hrne).1] := by
      unfold sayL
      conv => lhs; rw [← hdl]
      rw [sayR_snoc2 (hro _ (List.getLast_mem hrne))]; simp
    rw [h1]; simp
  refine ⟨⟨⟨_, hcut, hdok, adj_prefix (List.dropLast_prefix _) (adj_runs _), by omega⟩, ?_⟩, ?_, sayR_all hro, hsp⟩
  · rw [hcut]; exact sayR_prefix (runs_prefix hp)
  · unfold sayL; omega
theorem sayR_take {qs : List (UInt8 × Nat)} (h : ∀ p ∈ qs, RunOk p) (m : Nat) : (sayR qs).take (2 * m) = sayR (qs.take m) := by
  have e : sayR qs = sayR (qs.take m) ++ sayR (qs.drop m) := by
    simp only [sayR]; rw [← List.flatMap_append, List.take_append_drop]
  by_cases hm : m ≤ qs.length
  · have hl := sayR_len2 (qs := qs.take m) (fun p hp => h p (List.mem_of_mem_take hp))
    rw [List.length_take, Nat.min_eq_left hm] at hl
    rw [e, List.take_append, List.take_of_length_le (by omega), hl, Nat.sub_self]; simp
  · rw [List.take_of_length_le (by rw [sayR_len2 h]; omega), List.take_of_length_le (by omega)]
theorem cut_take {m : Nat} {p f : List UInt8} (h : Cut m p f) (hm : m ≤ 40) : Cut m (p.take 80) f := by
  obtain ⟨⟨qs, rfl, hok, hadj, hl⟩, hp⟩ := h
  refine ⟨⟨qs.take 40, sayR_take hok 40, fun x hx => hok x (List.mem_of_mem_take hx), adj_prefix (List.take_prefix _ _) hadj, ?_⟩, (List.take_prefix _ _).trans hp⟩
  rw [List.length_take]; omega
theorem cut_first {m : Nat} {p : List UInt8} (h : sayB p = true) (hm : 2 * m ≤ (sayL p).length) : Cut m (sayL p) (sayL p) := by
  have hok := runs_ok h
  refine ⟨⟨runsL p, rfl, hok, adj_runs p, ?_⟩, List.prefix_refl _⟩
  have := sayR_len2 hok
  unfold sayL at hm; omega
theorem cut_head {m : Nat} {p f : List UInt8} (h : Cut (m + 1) p f) : p ≠ [] ∧ p.headD 0 = f.headD 0 := by
  obtain ⟨⟨qs, rfl, hok, hadj, hm⟩, ⟨t, rfl⟩⟩ := h
  have hl := sayR_len2 hok
  cases hs : sayR qs with
  | nil => rw [hs] at hl; simp at hl; omega
  | cons a r => simp
end Go.Proofs.Ytkdoghopbefjfaa
