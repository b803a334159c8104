/- The words from which a low word is derived (pure). -/
import Derived.Test.YtkjmocdhhndlgaaGreatDoorD6
import Derived.Test.YtkjmocdhhndlgaaGreatDoorD10
import Derived.Test.YtkjmocdhhndlgaaGreatDoorD13
import Derived.Sort.KeysCollected
namespace Go.Proofs.YtkjmocdhhndlgaaGreatDoor
open Go.RowKit Go.BigFrame
set_option linter.unusedSimpArgs false
set_option linter.unusedVariables false

theorem runs_repD (acc : List (UInt8 × Nat)) (c : UInt8) (hc : ∀ p, acc.getLast? = some p → p.1 ≠ c) : ∀ m, 1 ≤ m → (List.replicate m c).foldl stepRun acc = acc ++ [(c, m)]
  | 0, h => absurd h (by omega)
  | 1, _ => by
    rcases list_cases_snoc acc with e | ⟨pre, ⟨d, n⟩, e⟩
    · subst e; rfl
    · subst e
      have := hc (d, n) (by simp)
      exact stepRun_other pre c d n (fun e => this e)
  | m + 2, _ => by
    rw [List.replicate_succ', List.foldl_append, runs_repD acc c hc (m + 1) (by omega)]
    exact stepRun_same acc c (m + 1)
theorem dgw_inj {a b : Int} (ha : 1 ≤ a ∧ a ≤ 9) (hb : 1 ≤ b ∧ b ≤ 9) (h : dgw a = dgw b) : a = b := by
  have h1 := dgw_nat a (by omega) ha.2
  have h2 := dgw_nat b (by omega) hb.2
  rw [h] at h1; omega
theorem runs_flat {x : List UInt8} (hd : x.all digB = true) {a b : Int} (ha : 1 ≤ a ∧ a ≤ 9) (hb : 1 ≤ b ∧ b ≤ 9) (hab : a ≠ b) : ∀ k, k ≤ x.length → runsL (flatW x a b k) = (List.range k).map fun i => (dgw (alt a b i), lenN x i)
  | 0, _ => rfl
  | k + 1, h => by
    have e : runsL (flatW x a b (k + 1)) = (List.replicate (lenN x k) (dgw (alt a b k))).foldl stepRun (runsL (flatW x a b k)) := by
      show List.foldl stepRun [] (flatW x a b k ++ List.replicate (lenN x k) (dgw (alt a b k))) = _; rw [List.foldl_append]; rfl
    rw [e, runs_flat hd ha hb hab k (by omega), List.range_succ, List.map_append]
    refine runs_repD _ _ (fun p hp => ?_) _ (dig_len hd k (by omega)).1
    cases k with
    | zero => simp at hp
    | succ j =>
      rw [List.range_succ, List.map_append, List.map_cons, List.map_nil, List.getLast?_concat] at hp
      cases hp
      intro e2
      have hal : ∀ i, 1 ≤ alt a b i ∧ alt a b i ≤ 9 := fun i => by rcases alt_mem a b i with e | e <;> rw [e] <;> assumption
      exact alt_ne hab j (dgw_inj (hal _) (hal _) e2).symm
theorem lens_flat {x : List UInt8} (hd : x.all digB = true) {a b : Int} (ha : 1 ≤ a ∧ a ≤ 9) (hb : 1 ≤ b ∧ b ≤ 9) (hab : a ≠ b) : lensL (flatW x a b x.length) = x := by
  unfold lensL lensR
  rw [runs_flat hd ha hb hab x.length (Nat.le_refl _), List.map_map]
  apply List.ext_getElem
  · simp
  · intro i h1 h2
    simp only [List.getElem_map, List.getElem_range, Function.comp]
    have h3 := List.all_eq_true.1 hd x[i] (List.getElem_mem h2)
    unfold digB at h3
    rw [decide_eq_true_eq] at h3
    unfold lenN nDig
    rw [List.getD_eq_getElem?_getD, List.getElem?_eq_getElem h2, Option.getD_some]
    apply UInt8.toNat.inj
    rw [UInt8.toNat_ofNat']
    have := x[i].toNat_lt
    omega
theorem on_len {x : List UInt8} (h : x.all onB = true) (k : Nat) (hk : k < x.length) : lenN x k ≤ 2 := by
  have h3 := List.all_eq_true.1 h x[k] (List.getElem_mem hk)
  unfold onB at h3
  unfold lenN
  rw [List.getD_eq_getElem?_getD, List.getElem?_eq_getElem hk, Option.getD_some]
  simp only [Bool.or_eq_true, beq_iff_eq] at h3
  rcases h3 with e | e <;> rw [e] <;> decide
theorem longR_two (rs : List (UInt8 × Nat)) (h : ∀ p ∈ rs, p.2 ≤ 2) : longR rs ≤ 2 := by
  have : ∀ (rs : List (UInt8 × Nat)) (acc : Nat), acc ≤ 2 → (∀ p ∈ rs, p.2 ≤ 2) → rs.foldl (fun a p => max a p.2) acc ≤ 2 := by
    intro rs
    induction rs with
    | nil => intro acc h _; exact h
    | cons p t ih =>
      intro acc h1 h2
      have := h2 p (by simp)
      exact ih _ (Nat.max_le.2 ⟨h1, this⟩) (fun q hq => h2 q (by simp [hq]))
  exact this rs 0 (by omega) h
theorem der_flat {x : List UInt8} (h : x.all onB = true) {a b : Int} (ha : 1 ≤ a ∧ a ≤ 9) (hb : 1 ≤ b ∧ b ≤ 9) (hab : a ≠ b) : derL (flatW x a b x.length) = some (cutL x) := by
  have hd := onB_digB h
  unfold derL
  rw [lens_flat hd ha hb hab, if_pos]
  unfold longL
  rw [runs_flat hd ha hb hab x.length (Nat.le_refl _)]
  refine longR_two _ fun p hp => ?_
  rw [List.mem_map] at hp
  obtain ⟨i, hi, rfl⟩ := hp
  exact on_len h i (List.mem_range.1 hi)
/-- The word of these lengths that begins with f. -/
def wF (x : List UInt8) (f : Int) : List UInt8 := flatW x f (3 - f) x.length
theorem flat_on {x : List UInt8} (h : x.all onB = true) {f : Int} (hf : f = 1 ∨ f = 2) : ∀ k, k ≤ x.length → (flatW x f (3 - f) k).all onB = true ∧ (flatW x f (3 - f) k).length ≤ 2 * k ∧ k ≤ (flatW x f (3 - f) k).length
  | 0, _ => ⟨rfl, Nat.le_refl _, Nat.le_refl _⟩
  | k + 1, hk => by
    obtain ⟨h1, h2, h3⟩ := flat_on h hf k (by omega)
    have h4 := on_len h k (by omega)
    have h5 := (dig_len (onB_digB h) k (by omega)).1
    have h6 : onB (dgw (alt f (3 - f) k)) = true := by
      rcases alt_mem f (3 - f) k with e | e <;> rw [e] <;> rcases hf with rfl | rfl <;> rfl
    refine ⟨?_, ?_, ?_⟩
    · unfold flatW
      rw [List.all_append, h1, Bool.true_and, List.all_eq_true]
      intro y hy
      rw [List.eq_of_mem_replicate hy]; exact h6
    · unfold flatW; rw [List.length_append, List.length_replicate]; omega
    · unfold flatW; rw [List.length_append, List.length_replicate]; omega
theorem wF_low {x : List UInt8} (h : x.all onB = true) (hl : x.length ≤ 30) {f : Int} (hf : f = 1 ∨ f = 2) : lowB (wF x f) = true ∧ x.length ≤ (wF x f).length := by
  obtain ⟨h1, h2, h3⟩ := flat_on h hf x.length (Nat.le_refl _)
  exact ⟨by unfold lowB wF; rw [h1, decide_eq_true (by omega)]; rfl, h3⟩
theorem wF_lo {x : List UInt8} (h : x.all onB = true) (h1 : 1 ≤ x.length) (hl : x.length ≤ 30) {f : Int} (hf : f = 1 ∨ f = 2) : wlO x f (3 - f) = some (wF x f) := by
  obtain ⟨g1, g2⟩ := wF_low h hl hf
  have g3 : (wF x f).all onB = true ∧ (wF x f).length ≤ 60 := by unfold lowB at g1; simp only [Bool.and_eq_true, decide_eq_true_eq] at g1; exact ⟨g1.2, g1.1⟩
  unfold wlO
  rw [if_pos]; · rfl
  refine ⟨?_, twoD_iff.2 (by omega), ?_⟩
  · unfold goodL; rw [onB_digB h, decide_eq_true h1, decide_eq_true (by omega : x.length ≤ 400)]; rfl
  · show goodL (wF x f) = true
    unfold goodL; rw [onB_digB g3.1, decide_eq_true (by omega : 1 ≤ (wF x f).length), decide_eq_true (by omega : (wF x f).length ≤ 400)]; rfl
theorem wF_der {x : List UInt8} (h : x.all onB = true) {f : Int} (hf : f = 1 ∨ f = 2) : derL (wF x f) = some (cutL x) := der_flat h (by omega) (by omega) (by omega)
theorem wF_lens {x : List UInt8} (h : x.all onB = true) {f : Int} (hf : f = 1 ∨ f = 2) : lensL (wF x f) = x := lens_flat (onB_digB h) (by omega) (by omega) (by omega)
theorem wF_ne {x : List UInt8} (h : x.all onB = true) (h1 : 1 ≤ x.length) : wF x 1 ≠ wF x 2 := by
  intro e
  have e2 := congrArg runsL e
  unfold wF at e2
  rw [runs_flat (onB_digB h) (by omega) (by omega) (by omega) x.length (Nat.le_refl _), runs_flat (onB_digB h) (by omega) (by omega) (by omega) x.length (Nat.le_refl _)] at e2
  have e3 := congrArg (fun l => l[0]?) e2
  simp only [List.getElem?_map, List.getElem?_range h1, Option.map_some, Option.some.injEq, Prod.mk.injEq] at e3
  exact absurd e3.1 (by decide)
/-- The words of lengths from which a low word may be derived. -/
def lensOf (w : List UInt8) : List (List UInt8) := [w, [49] ++ w, w ++ [49], [49] ++ w ++ [49]]
def twoF (w x : List UInt8) : List (List UInt8) := if cutL x = w then [wF x 1, wF x 2] else []
def wdL (w : List UInt8) : List (List UInt8) := (lensOf w).flatMap (twoF w)
theorem lensOf_on {w : List UInt8} (h : w.all onB = true) (h1 : 1 ≤ w.length) (hl : w.length ≤ 25) : ∀ x ∈ lensOf w, x.all onB = true ∧ 1 ≤ x.length ∧ x.length ≤ 30 := by
  intro x hx
  unfold lensOf at hx
  simp only [List.mem_cons, List.not_mem_nil, or_false] at hx
  have o1 : ([49] : List UInt8).all onB = true := rfl
  have o2 : ([49] : List UInt8).length = 1 := rfl
  rcases hx with rfl | rfl | rfl | rfl
  · exact ⟨h, h1, by omega⟩
  · exact ⟨by rw [List.all_append, h, o1]; rfl, by rw [List.length_append]; omega, by rw [List.length_append]; omega⟩
  · exact ⟨by rw [List.all_append, h, o1]; rfl, by rw [List.length_append]; omega, by rw [List.length_append]; omega⟩
  · exact ⟨by rw [List.all_append, List.all_append, h, o1]; rfl, by rw [List.length_append, List.length_append]; omega, by rw [List.length_append, List.length_append]; omega⟩
theorem cut_front (w : List UInt8) : cutL ([49] ++ w) = cutB w := by unfold cutL; rfl
theorem cutB_not {w : List UInt8} (h : cutB w = w) (h0 : w ≠ []) : w.getLast? ≠ some 49 := by
  intro e
  unfold cutB at h
  rw [if_pos e] at h
  have := congrArg List.length h
  rw [List.length_dropLast] at this
  have := List.length_pos_iff.2 h0
  omega
theorem wd_nodup {w : List UInt8} (h : w.all onB = true) (h1 : 1 ≤ w.length) (hl : w.length ≤ 25) : (wdL w).Nodup := by
  have hon := lensOf_on h h1 hl
  have hmem : ∀ x y, y ∈ twoF w x → cutL x = w ∧ (y = wF x 1 ∨ y = wF x 2) := by
    intro x y hy
    unfold twoF at hy
    split at hy
    · rename_i hc; simp only [List.mem_cons, List.not_mem_nil, or_false] at hy; exact ⟨hc, hy⟩
    · cases hy
  unfold wdL List.Nodup
  rw [List.pairwise_flatMap]
  constructor
  · intro x hx
    unfold twoF
    split
    · obtain ⟨g1, g2, _⟩ := hon x hx
      simp only [List.pairwise_cons, List.mem_cons, List.not_mem_nil, or_false, forall_eq, List.Pairwise.nil, and_true]
      exact ⟨wF_ne g1 g2, fun _ hh => absurd hh (by simp)⟩
    · exact List.Pairwise.nil
  · have key : ∀ x1 x2, x1 ∈ lensOf w → x2 ∈ lensOf w → ∀ y ∈ twoF w x1, ∀ z ∈ twoF w x2, y = z → x1 = x2 := by
      intro x1 x2 m1 m2 y hy z hz e
      obtain ⟨_, e1⟩ := hmem x1 y hy
      obtain ⟨_, e2⟩ := hmem x2 z hz
      have l1 : lensL y = x1 := by rcases e1 with rfl | rfl <;> exact wF_lens (hon x1 m1).1 (by omega)
      have l2 : lensL z = x2 := by rcases e2 with rfl | rfl <;> exact wF_lens (hon x2 m2).1 (by omega)
      rw [← l1, ← l2, e]
    have ne : ∀ x1 x2, x1 ∈ lensOf w → x2 ∈ lensOf w → x1.length ≠ x2.length → ∀ y ∈ twoF w x1, ∀ z ∈ twoF w x2, y ≠ z := by
      intro x1 x2 m1 m2 hne y hy z hz e
      exact hne (congrArg List.length (key x1 x2 m1 m2 y hy z hz e))
    have m0 : w ∈ lensOf w := by simp [lensOf]
    have m1 : [49] ++ w ∈ lensOf w := by simp [lensOf]
    have m2 : w ++ [49] ∈ lensOf w := by simp [lensOf]
    have m3 : [49] ++ w ++ [49] ∈ lensOf w := by simp [lensOf]
    have mid : ∀ y ∈ twoF w ([49] ++ w), ∀ z ∈ twoF w (w ++ [49]), y ≠ z := by
      intro y hy z hz e
      have e2 := key _ _ m1 m2 y hy z hz e
      obtain ⟨hc, _⟩ := hmem _ _ hy
      rw [cut_front] at hc
      have h0 : w ≠ [] := List.length_pos_iff.1 h1
      refine cutB_not hc h0 ?_
      rcases list_cases_snoc w with e0 | ⟨pre, z, e0⟩
      · exact absurd e0 h0
      · rw [e0, ← List.append_assoc] at e2
        have e3 := (List.append_inj' e2 rfl).2
        rw [e0, List.getLast?_concat, List.head_eq_of_cons_eq e3]
    unfold lensOf
    refine List.pairwise_cons.2 ⟨?_, List.pairwise_cons.2 ⟨?_, List.pairwise_cons.2 ⟨?_, List.pairwise_singleton _ _⟩⟩⟩
    · intro x hx
      simp only [List.mem_cons, List.not_mem_nil, or_false] at hx
      rcases hx with rfl | rfl | rfl
      · exact ne _ _ m0 m1 (by simp)
      · exact ne _ _ m0 m2 (by simp)
      · exact ne _ _ m0 m3 (by simp; omega)
    · intro x hx
      simp only [List.mem_cons, List.not_mem_nil, or_false] at hx
      rcases hx with rfl | rfl
      · exact mid
      · exact ne _ _ m1 m3 (by simp)
    · intro x hx
      simp only [List.mem_cons, List.not_mem_nil, or_false] at hx
      subst hx
      exact ne _ _ m2 m3 (by simp)
theorem wd_len (w : List UInt8) : (wdL w).length ≤ 8 := by
  have : ∀ x, (twoF w x).length ≤ 2 := fun x => by unfold twoF; split <;> simp
  unfold wdL lensOf
  simp only [List.flatMap_cons, List.flatMap_nil, List.length_append, List.length_nil]
  have a1 := this w; have a2 := this ([49] ++ w); have a3 := this (w ++ [49]); have a4 := this ([49] ++ w ++ [49])
  omega
end Go.Proofs.YtkjmocdhhndlgaaGreatDoor
