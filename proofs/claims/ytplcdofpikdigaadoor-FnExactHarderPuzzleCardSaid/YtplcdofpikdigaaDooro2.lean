/- Chapter 9: solutions (pure); where a word that is none goes wrong. -/
import Derived.Test.YtplcdofpikdigaaDoorI1
import Derived.Test.YtplcdofpikdigaaDoorq1
namespace Go.Proofs.YtplcdofpikdigaaDoor
set_option linter.unusedSimpArgs false
set_option linter.unusedVariables false

/-- A digit may stand where a puzzle has a sign. -/
def agB (g c : UInt8) : Bool := decide (g = 46) || decide (g = c)
/-- A text has the digits of a text with gaps. -/
def fitsB (s g : List UInt8) : Bool := decide (s.length = g.length) && (List.range s.length).all fun i => agB (g.getD i 0) (s.getD i 0)
/-- No digit is greater than D. -/
def smallB (D : Int) (l : List UInt8) : Bool := l.all fun c => decide ((c.toNat : Int) - 48 ≤ D)
def solB (W S : List UInt8) (D : Int) (l : List UInt8) : Bool := smallB D l && fitsB l W && fitsB (sayL l) S
theorem getD_lt {l : List UInt8} {i : Nat} (h : i < l.length) : l.getD i 0 = l[i] := by simp [List.getD, h]
theorem fitsB_iff {s g : List UInt8} : fitsB s g = true ↔ s.length = g.length ∧ ∀ i, i < s.length → agB (g.getD i 0) (s.getD i 0) = true := by
  unfold fitsB
  simp only [Bool.and_eq_true, decide_eq_true_eq, List.all_eq_true, List.mem_range]
theorem smallB_iff {D : Int} {l : List UInt8} : smallB D l = true ↔ ∀ i, i < l.length → ((l.getD i 0).toNat : Int) - 48 ≤ D := by
  unfold smallB
  simp only [List.all_eq_true, decide_eq_true_eq]
  constructor
  · intro h i hi
    rw [getD_lt hi]
    exact h _ (List.getElem_mem hi)
  · intro h c hc
    obtain ⟨i, hi, rfl⟩ := List.getElem_of_mem hc
    have := h i hi
    rw [getD_lt hi] at this
    exact this
theorem solB_iff {W S : List UInt8} {D : Int} {l : List UInt8} : solB W S D l = true ↔ smallB D l = true ∧ fitsB l W = true ∧ fitsB (sayL l) S = true := by
  unfold solB
  simp only [Bool.and_eq_true, and_assoc]

/-- Words of digits, not too long. -/
def WdP (n : Nat) (l : List UInt8) : Prop := l.length = n ∧ l.all digB = true
theorem longL_len {l : List UInt8} : longL l ≤ l.length := by
  unfold longL
  refine longR_le_of (fun p hp => ?_)
  obtain ⟨k, hk, rfl⟩ := List.getElem_of_mem hp
  exact runs_cnt hk
theorem wd_say {n : Nat} {l : List UInt8} (h : WdP n l) (h1 : 1 ≤ n) (h8 : n ≤ 8) : sayB l = true :=
  sayB_iff.2 ⟨by intro e; have := h.1; rw [e] at this; simp at this; omega, h.2, by have := longL_len (l := l); have := h.1; omega⟩
theorem wd_runs {n : Nat} {l : List UInt8} (h : WdP n l) (h1 : 1 ≤ n) (h8 : n ≤ 8) : ∀ p ∈ runsL l, RunOk p := runs_ok (wd_say h h1 h8)
theorem cntR_runs (l : List UInt8) : cntR (runsL l) = l.length := by rw [← flatR_len, flatR_runs]

theorem sayR_cons {p : UInt8 × Nat} (h : RunOk p) (rs : List (UInt8 × Nat)) : sayR (p :: rs) = nDig p.2 :: p.1 :: sayR rs := by
  unfold sayR
  rw [List.flatMap_cons, sayP_two h]; rfl
theorem sayR_at : ∀ (rs : List (UInt8 × Nat)), (∀ p ∈ rs, RunOk p) → ∀ k (h : k < rs.length), (sayR rs).getD (2 * k) 0 = nDig rs[k].2 ∧ (sayR rs).getD (2 * k + 1) 0 = rs[k].1
  | [], _, k, h => by simp at h
  | p :: rs, hr, k, h => by
    rw [sayR_cons (hr p (by simp))]
    cases k with
    | zero => exact ⟨rfl, rfl⟩
    | succ k =>
      have ih := sayR_at rs (fun q hq => hr q (by simp [hq])) k (by simpa using h)
      rw [show 2 * (k + 1) = 2 * k + 1 + 1 by omega, show 2 * k + 1 + 1 + 1 = (2 * k + 1) + 1 + 1 by omega]
      simp only [List.getD_cons_succ, List.getElem_cons_succ]
      exact ih
/-- What is said fits, run by run. -/
theorem fits_say {rs : List (UInt8 × Nat)} (hr : ∀ p ∈ rs, RunOk p) {S : List UInt8} : fitsB (sayR rs) S = true ↔
    S.length = 2 * rs.length ∧ ∀ k (h : k < rs.length), agB (S.getD (2 * k) 0) (nDig rs[k].2) = true ∧ agB (S.getD (2 * k + 1) 0) rs[k].1 = true := by
  rw [fitsB_iff, sayR_len2 hr]
  constructor
  · rintro ⟨h1, h2⟩
    refine ⟨h1.symm, fun k h => ?_⟩
    have ha := sayR_at rs hr k h
    have e1 := h2 (2 * k) (by omega)
    have e2 := h2 (2 * k + 1) (by omega)
    rw [ha.1] at e1
    rw [ha.2] at e2
    exact ⟨e1, e2⟩
  · rintro ⟨h1, h2⟩
    refine ⟨h1.symm, fun i hi => ?_⟩
    have hk : i / 2 < rs.length := by omega
    have ha := sayR_at rs hr (i / 2) hk
    by_cases he : i % 2 = 0
    · have : i = 2 * (i / 2) := by omega
      rw [this, ha.1]; exact (h2 _ hk).1
    · have : i = 2 * (i / 2) + 1 := by omega
      rw [this, ha.2]; exact (h2 _ hk).2

/-- Runs, spread out and told again. -/
theorem runs_rep (acc : List (UInt8 × Nat)) (d : UInt8) (q : Nat) : ∀ n, (List.replicate n d).foldl stepRun (acc ++ [(d, q)]) = acc ++ [(d, q + n)]
  | 0 => rfl
  | n + 1 => by
    rw [List.replicate_succ, List.foldl_cons, stepRun_same, runs_rep acc d (q + 1) n]
    congr 3; omega
theorem runs_of_flat (qs : List (UInt8 × Nat)) (ha : Adj qs) (hp : ∀ p ∈ qs, 1 ≤ p.2) : runsL (flatR qs) = qs := by
  refine snoc_rec (P := fun qs => Adj qs → (∀ p ∈ qs, 1 ≤ p.2) → runsL (flatR qs) = qs) (fun _ _ => rfl) (fun l a ih hA hP => ?_) qs ha hp
  have h1 := ih (adj_prefix ⟨[a], rfl⟩ hA) (fun p hp => hP p (by simp [hp]))
  obtain ⟨d, n⟩ := a
  have hn : 1 ≤ n := hP (d, n) (by simp)
  obtain ⟨m, rfl⟩ : ∃ m, n = m + 1 := ⟨n - 1, by omega⟩
  rw [flatR_append]
  have e : flatR [(d, m + 1)] = d :: List.replicate m d := by simp [flatR, List.replicate_succ]
  rw [e]
  unfold runsL
  rw [List.foldl_append]
  have h2 : (flatR l).foldl stepRun [] = l := h1
  rw [h2, List.foldl_cons]
  have h3 : stepRun l d = l ++ [(d, 1)] := by
    rcases list_cases_snoc l with rfl | ⟨pre, ⟨x, k⟩, rfl⟩
    · rfl
    · refine stepRun_other _ _ _ _ ?_
      exact hA pre.length (x, k) (d, m + 1) (by rw [List.append_assoc, List.getElem?_append_right (Nat.le_refl _), Nat.sub_self]; rfl) (by rw [List.getElem?_append_right (by simp)]; simp)
  rw [h3, runs_rep]
  congr 3; omega
/-- The runs of the beginning that ends with a run. -/
theorem runs_take {l : List UInt8} {m : Nat} (hm : m ≤ (runsL l).length) : runsL (l.take (cntR ((runsL l).take m))) = (runsL l).take m := by
  have e : l.take (cntR ((runsL l).take m)) = flatR ((runsL l).take m) := by
    have h : flatR ((runsL l).take m) ++ flatR ((runsL l).drop m) = l := by rw [← flatR_append, List.take_append_drop, flatR_runs]
    have hl : (flatR ((runsL l).take m)).length = cntR ((runsL l).take m) := flatR_len _
    generalize cntR ((runsL l).take m) = c at *
    generalize flatR ((runsL l).take m) = A at *
    subst hl
    rw [← h, List.take_left]
  rw [e]
  exact runs_of_flat _ (adj_prefix (List.take_prefix _ _) (adj_runs l)) (fun p hp => runs_pos l p (List.mem_of_mem_take hp))
theorem cntR_take_succ {rs : List (UInt8 × Nat)} {m : Nat} (hm : m < rs.length) : cntR (rs.take (m + 1)) = cntR (rs.take m) + rs[m].2 := by
  rw [List.take_succ_eq_append_getElem hm, ← cntR_snoc]
theorem cntR_take_le (rs : List (UInt8 × Nat)) (m : Nat) : cntR (rs.take m) ≤ cntR rs := by
  conv => rhs; rw [← List.take_append_drop m rs]
  unfold cntR
  rw [List.map_append, List.sum_append]; omega
theorem runs_take_one {l : List UInt8} {m : Nat} (hm : m < (runsL l).length) : runsL (l.take (cntR ((runsL l).take m) + 1)) = (runsL l).take m ++ [((runsL l)[m].1, 1)] := by
  have hlt : cntR ((runsL l).take m) < l.length := by
    have h1 := cntR_take_succ hm
    have h2 := cntR_take_le (runsL l) (m + 1)
    have h3 := runs_pos l _ (List.getElem_mem hm)
    rw [cntR_runs] at h2
    omega
  have hg := runs_get l m hm
  rw [List.getElem?_eq_getElem hlt] at hg
  rw [List.take_succ_eq_append_getElem hlt, runsL_snoc, runs_take (Nat.le_of_lt hm), Option.some.inj hg]
  rcases list_cases_snoc ((runsL l).take m) with e | ⟨pre, ⟨x, k⟩, e⟩
  · rw [e]; rfl
  · rw [e]
    refine stepRun_other _ _ _ _ ?_
    have hA := adj_prefix (List.take_prefix (m + 1) _) (adj_runs l)
    rw [List.take_succ_eq_append_getElem hm, e] at hA
    exact hA pre.length (x, k) (runsL l)[m] (by rw [List.append_assoc, List.getElem?_append_right (Nat.le_refl _), Nat.sub_self]; rfl) (by rw [List.getElem?_append_right (by simp)]; simp)
/-- Words with the same digits up to the first of a run have the same runs ahead of it, and this run's digit. -/
theorem runs_same {l l' : List UInt8} {m : Nat} (hm : m < (runsL l).length) (hlen : l'.length = l.length) (h : l'.take (cntR ((runsL l).take m) + 1) = l.take (cntR ((runsL l).take m) + 1)) :
    (runsL l').take m = (runsL l).take m ∧ ∃ h2 : m < (runsL l').length, (runsL l')[m].1 = (runsL l)[m].1 := by
  have h1 : (runsL (l'.take (cntR ((runsL l).take m) + 1))).dropLast <+: runsL l' := runs_prefix (List.take_prefix _ _)
  rw [h, runs_take_one hm, List.dropLast_concat] at h1
  have hml : ((runsL l).take m).length = m := by rw [List.length_take]; omega
  have h2 : (runsL l').take m = (runsL l).take m := by
    have := List.prefix_iff_eq_take.1 h1
    rw [hml] at this; exact this.symm
  have hlt : cntR ((runsL l).take m) < l.length := by
    have h1 := cntR_take_succ hm
    have h2 := cntR_take_le (runsL l) (m + 1)
    have h3 := runs_pos l _ (List.getElem_mem hm)
    rw [cntR_runs] at h2
    omega
  have h3 : m < (runsL l').length := by
    have := h1.length_le
    rw [hml] at this
    refine Nat.lt_of_le_of_ne this (fun e => ?_)
    have h4 : cntR (runsL l') = cntR ((runsL l').take m) := by rw [List.take_of_length_le (by omega)]
    rw [cntR_runs, h2] at h4
    omega
  refine ⟨h2, h3, ?_⟩
  have g1 := runs_get l m hm
  have g2 := runs_get l' m h3
  rw [h2] at g2
  have e : l'[cntR ((runsL l).take m)]? = l[cntR ((runsL l).take m)]? := by
    have a1 : (l'.take (cntR ((runsL l).take m) + 1))[cntR ((runsL l).take m)]? = l'[cntR ((runsL l).take m)]? := List.getElem?_take_of_lt (by omega)
    have a2 : (l.take (cntR ((runsL l).take m) + 1))[cntR ((runsL l).take m)]? = l[cntR ((runsL l).take m)]? := List.getElem?_take_of_lt (by omega)
    rw [← a1, h, a2]
  rw [g1, g2] at e
  exact Option.some.inj e
/-- Words with the same digits up to the one behind a run have this run. -/
theorem runs_same2 {l l' : List UInt8} {m : Nat} (hm : m + 1 < (runsL l).length) (hlen : l'.length = l.length) (h : l'.take (cntR ((runsL l).take (m + 1)) + 1) = l.take (cntR ((runsL l).take (m + 1)) + 1)) :
    ∃ h2 : m < (runsL l').length, (runsL l')[m] = (runsL l)[m] := by
  obtain ⟨h1, h2, _⟩ := runs_same hm hlen h
  refine ⟨by omega, ?_⟩
  have e : ((runsL l').take (m + 1))[m]? = ((runsL l).take (m + 1))[m]? := by rw [h1]
  rw [List.getElem?_take_of_lt (by omega), List.getElem?_take_of_lt (by omega), List.getElem?_eq_getElem (by omega), List.getElem?_eq_getElem (by omega)] at e
  exact Option.some.inj e

/-- No other solution has the same digits up to a place. -/
def NoSol (W S : List UInt8) (D : Int) (l : List UInt8) (last : Nat) : Prop := ∀ l', WdP l.length l' → l'.take (last + 1) = l.take (last + 1) → l' ≠ l → solB W S D l' = false
theorem noSol_all (W S : List UInt8) (D : Int) (l : List UInt8) (h1 : 1 ≤ l.length) : NoSol W S D l (l.length - 1) := fun l' hl h hne => by
  have e : l.length - 1 + 1 = l.length := by omega
  rw [e, List.take_of_length_le (Nat.le_of_eq hl.1), List.take_of_length_le (Nat.le_refl _)] at h
  exact absurd h hne
theorem bool_false {b : Bool} (h : b = true → False) : b = false := by cases b <;> simp_all
/-- A digit that is too great, or another one than the puzzle has there. -/
theorem bad_digit {W S : List UInt8} {D : Int} {l : List UInt8} {k : Nat} (hk : k < l.length) (hb : ¬ (((l.getD k 0).toNat : Int) - 48 ≤ D ∧ agB (W.getD k 0) (l.getD k 0) = true)) :
    solB W S D l = false ∧ NoSol W S D l k := by
  have key : ∀ l', l'.length = l.length → l'.take (k + 1) = l.take (k + 1) → solB W S D l' = false := by
    intro l' hl h
    have e : l'.getD k 0 = l.getD k 0 := by
      have a1 : (l'.take (k + 1))[k]? = l'[k]? := List.getElem?_take_of_lt (by omega)
      have a2 : (l.take (k + 1))[k]? = l[k]? := List.getElem?_take_of_lt (by omega)
      rw [List.getD_eq_getElem?_getD, List.getD_eq_getElem?_getD, ← a1, h, a2]
    refine bool_false (fun hs => hb ?_)
    obtain ⟨h1, h2, _⟩ := solB_iff.1 hs
    rw [← e]
    exact ⟨smallB_iff.1 h1 k (by omega), (fitsB_iff.1 h2).2 k (by omega)⟩
  exact ⟨key l rfl rfl, fun l' hl h _ => key l' hl.1 h⟩
/-- A run's digit with which something else is said. -/
theorem bad_run {W S : List UInt8} {D : Int} {l : List UInt8} {m : Nat} (hw : WdP l.length l) (h1 : 1 ≤ l.length) (h8 : l.length ≤ 8) (hm : m < (runsL l).length)
    (hb : ¬ (2 * m + 1 < S.length ∧ agB (S.getD (2 * m + 1) 0) (runsL l)[m].1 = true)) :
    solB W S D l = false ∧ NoSol W S D l (cntR ((runsL l).take m)) := by
  have key : ∀ l', WdP l.length l' → l'.take (cntR ((runsL l).take m) + 1) = l.take (cntR ((runsL l).take m) + 1) → solB W S D l' = false := by
    intro l' hl h
    obtain ⟨_, h2, h3⟩ := runs_same hm hl.1 h
    refine bool_false (fun hs => hb ?_)
    obtain ⟨_, _, h5⟩ := solB_iff.1 hs
    have h6 := (fits_say (wd_runs hl h1 h8)).1 h5
    have h7 := (h6.2 m h2).2
    rw [h3] at h7
    exact ⟨by omega, h7⟩
  exact ⟨key l hw rfl, fun l' hl h _ => key l' hl h⟩
/-- A run with which another count is said. -/
theorem bad_count {W S : List UInt8} {D : Int} {l : List UInt8} {m : Nat} (hw : WdP l.length l) (h1 : 1 ≤ l.length) (h8 : l.length ≤ 8) (hm : m < (runsL l).length)
    (hb : ¬ (agB (S.getD (2 * m) 0) (nDig (runsL l)[m].2) = true)) :
    solB W S D l = false ∧ NoSol W S D l (min (cntR ((runsL l).take (m + 1))) (l.length - 1)) := by
  have k0 : solB W S D l = false := by
    refine bool_false (fun hs => hb ?_)
    obtain ⟨_, _, h5⟩ := solB_iff.1 hs
    exact (((fits_say (wd_runs hw h1 h8)).1 h5).2 m hm).1
  refine ⟨k0, ?_⟩
  by_cases hlast : m + 1 < (runsL l).length
  · have hlt : cntR ((runsL l).take (m + 1)) < l.length := by
      have h1 := cntR_take_succ hlast
      have h2 := cntR_take_le (runsL l) (m + 1 + 1)
      have h3 := runs_pos l _ (List.getElem_mem hlast)
      rw [cntR_runs] at h2
      omega
    rw [Nat.min_eq_left (by omega)]
    intro l' hl h _
    obtain ⟨h2, h3⟩ := runs_same2 hlast hl.1 h
    refine bool_false (fun hs => hb ?_)
    obtain ⟨_, _, h5⟩ := solB_iff.1 hs
    have h6 := (((fits_say (wd_runs hl h1 h8)).1 h5).2 m h2).1
    rw [h3] at h6
    exact h6
  · have e : cntR ((runsL l).take (m + 1)) = l.length := by rw [List.take_of_length_le (by omega), cntR_runs]
    rw [e, Nat.min_eq_right (by omega)]
    exact noSol_all W S D l h1
/-- More is told than is said. -/
theorem bad_end {W S : List UInt8} {D : Int} {l : List UInt8} (hw : WdP l.length l) (h1 : 1 ≤ l.length) (h8 : l.length ≤ 8) (hb : S.length ≠ 2 * (runsL l).length) :
    solB W S D l = false ∧ NoSol W S D l (l.length - 1) :=
  ⟨bool_false (fun hs => hb ((fits_say (wd_runs hw h1 h8)).1 (solB_iff.1 hs).2.2).1), noSol_all W S D l h1⟩
/-- All fits. -/
theorem good_all {W S : List UInt8} {D : Int} {l : List UInt8} (hw : WdP l.length l) (h1 : 1 ≤ l.length) (h8 : l.length ≤ 8) (hW : l.length = W.length)
    (hd : ∀ k, k < l.length → ((l.getD k 0).toNat : Int) - 48 ≤ D ∧ agB (W.getD k 0) (l.getD k 0) = true) (hS : S.length = 2 * (runsL l).length)
    (hr : ∀ m (h : m < (runsL l).length), agB (S.getD (2 * m) 0) (nDig (runsL l)[m].2) = true ∧ agB (S.getD (2 * m + 1) 0) (runsL l)[m].1 = true) : solB W S D l = true :=
  solB_iff.2 ⟨smallB_iff.2 (fun i hi => (hd i hi).1), fitsB_iff.2 ⟨hW, fun i hi => (hd i hi).2⟩, (fits_say (wd_runs hw h1 h8)).2 ⟨hS, hr⟩⟩
end Go.Proofs.YtplcdofpikdigaaDoor
