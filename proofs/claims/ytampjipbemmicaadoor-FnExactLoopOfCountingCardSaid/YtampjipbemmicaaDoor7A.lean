/- Chapter 7 (pure): languages, told numbers, sentences, counts and lies. -/
import Derived.Test.YtampjipbemmicaaDoorY1
namespace Go.Proofs.YtampjipbemmicaaDoor
open Go.RowKit Go.BigFrame
set_option linter.unusedSimpArgs false
set_option linter.unusedVariables false

def ltrB (c : UInt8) : Bool := decide (97 ≤ c.toNat ∧ c.toNat ≤ 100)
def ltrsB (l : List UInt8) : Bool := l.all ltrB
/-- The name of a number is good, and no earlier one is the same. -/
def nameB (ns : List (List UInt8)) (i : Nat) : Bool :=
  decide (1 ≤ (ns.getD i []).length ∧ (ns.getD i []).length ≤ 8) && ltrsB (ns.getD i []) && !(decide (ns.getD i [] ∈ ns.take i))
def namesB (ns : List (List UInt8)) (k : Nat) : Bool := (List.range k).all (nameB ns)
def langB (ns : List (List UInt8)) (fr : List UInt8) : Bool := decide (1 ≤ ns.length ∧ ns.length ≤ 10) && decide (fr.length ≤ 20) && ltrsB fr && namesB ns ns.length
def toldB (ns : List (List UInt8)) (fr : List UInt8) (xs : List Int) : Bool := langB ns fr && decide (1 ≤ xs.length ∧ xs.length ≤ 4) && xs.all (inB 0 ((ns.length : Int) - 1))
def ltr (i : Nat) : UInt8 := UInt8.ofNat (97 + i)
def partL (ns : List (List UInt8)) (xs : List Int) (i : Nat) : List UInt8 := ns.getD (xs.getD i 0).toNat [] ++ [ltr i]
def sentK (ns : List (List UInt8)) (fr : List UInt8) (xs : List Int) : Nat → List UInt8
  | 0 => fr
  | k + 1 => sentK ns fr xs k ++ partL ns xs k
def sentL (ns : List (List UInt8)) (fr : List UInt8) (xs : List Int) : List UInt8 := sentK ns fr xs xs.length
/-- How often the first n letters are in a text. -/
def cntT (s : List UInt8) (n : Nat) : List Int := (List.range n).map fun i => ((s.count (ltr i) : Nat) : Int)
def cntL (ns : List (List UInt8)) (fr : List UInt8) (xs : List Int) : List Int := cntT (sentL ns fr xs) xs.length
def liesK (cs xs : List Int) : Nat → Nat
  | 0 => 0
  | k + 1 => liesK cs xs k + if cs.getD k 0 = xs.getD k 0 then 0 else 1
def liesL (ns : List (List UInt8)) (fr : List UInt8) (xs : List Int) : Nat := liesK (cntL ns fr xs) xs xs.length

theorem namesB_succ (ns : List (List UInt8)) (k : Nat) : namesB ns (k + 1) = (namesB ns k && nameB ns k) := by
  simp [namesB, List.range_succ]
theorem namesB_false (ns : List (List UInt8)) (k m : Nat) (h : namesB ns k = false) (hk : k ≤ m) : namesB ns m = false := by
  induction hk with
  | refl => exact h
  | step _ ih => rw [namesB_succ, ih]; rfl
theorem langB_parts {ns : List (List UInt8)} {fr : List UInt8} (h : langB ns fr = true) : 1 ≤ ns.length ∧ ns.length ≤ 10 ∧ fr.length ≤ 20 ∧ ltrsB fr = true ∧ ∀ i, i < ns.length → nameB ns i = true := by
  unfold langB at h
  simp only [Bool.and_eq_true, decide_eq_true_eq] at h
  obtain ⟨⟨⟨h1, h2⟩, h3⟩, h4⟩ := h
  exact ⟨h1.1, h1.2, h2, h3, fun i hi => List.all_eq_true.1 h4 i (List.mem_range.2 hi)⟩
theorem nameB_len {ns : List (List UInt8)} {i : Nat} (h : nameB ns i = true) : 1 ≤ (ns.getD i []).length ∧ (ns.getD i []).length ≤ 8 := by
  unfold nameB at h
  simp only [Bool.and_eq_true, decide_eq_true_eq] at h
  exact h.1.1
theorem toldB_parts {ns : List (List UInt8)} {fr : List UInt8} {xs : List Int} (h : toldB ns fr xs = true) : langB ns fr = true ∧ 1 ≤ xs.length ∧ xs.length ≤ 4 ∧ ∀ i (hi : i < xs.length), 0 ≤ xs[i] ∧ xs[i] ≤ (ns.length : Int) - 1 := by
  unfold toldB at h
  simp only [Bool.and_eq_true, decide_eq_true_eq] at h
  obtain ⟨⟨h1, h2⟩, h3⟩ := h
  refine ⟨h1, h2.1, h2.2, fun i hi => ?_⟩
  have := List.all_eq_true.1 h3 xs[i] (List.getElem_mem hi)
  simpa [inB] using this
/-- A told number, as a natural one that has a name. -/
theorem told_at {ns : List (List UInt8)} {fr : List UInt8} {xs : List Int} (h : toldB ns fr xs = true) (i : Nat) (hi : i < xs.length) : ∃ n : Nat, xs[i] = (n : Int) ∧ n < ns.length ∧ (ns.getD n []).length ≤ 8 ∧ partL ns xs i = ns.getD n [] ++ [ltr i] := by
  obtain ⟨h1, h2, h3, h4⟩ := toldB_parts h
  obtain ⟨g1, g2, g3, g4, g5⟩ := langB_parts h1
  obtain ⟨a, b⟩ := h4 i hi
  obtain ⟨n, hn⟩ := Int.eq_ofNat_of_zero_le a
  refine ⟨n, hn, by omega, (nameB_len (g5 n (by omega))).2, ?_⟩
  unfold partL
  rw [show xs.getD i 0 = xs[i] from by simp [List.getD, hi], hn]
  rfl
theorem sentK_len {ns : List (List UInt8)} {fr : List UInt8} {xs : List Int} (h : toldB ns fr xs = true) : ∀ k, k ≤ xs.length → (sentK ns fr xs k).length ≤ 20 + 9 * k
  | 0, _ => by
    have := (langB_parts (toldB_parts h).1).2.2.1
    simpa [sentK] using this
  | k + 1, hk => by
    obtain ⟨n, _, _, h3, h4⟩ := told_at h k (by omega)
    have := sentK_len h k (by omega)
    rw [sentK, List.length_append, h4]
    simp only [List.length_append, List.length_singleton]
    omega
theorem sentL_len {ns : List (List UInt8)} {fr : List UInt8} {xs : List Int} (h : toldB ns fr xs = true) : (sentL ns fr xs).length ≤ 56 := by
  have := sentK_len h xs.length (Nat.le_refl _)
  have h4 := (toldB_parts h).2.2.1
  unfold sentL
  omega
theorem cntT_len (s : List UInt8) (n : Nat) : (cntT s n).length = n := by simp [cntT]
theorem cntT_nil (n : Nat) : cntT [] n = List.replicate n 0 := by
  refine List.ext_getElem (by simp [cntT]) fun i h1 h2 => ?_
  simp [cntT]
theorem ltr_inj {i j : Nat} (hi : i < 4) (hj : j < 4) (h : ltr i = ltr j) : i = j := by
  have := congrArg UInt8.toNat h
  simp [ltr] at this
  omega
theorem cntT_at (s : List UInt8) (n i : Nat) (h : i < n) : (cntT s n)[i]? = some ((s.count (ltr i) : Nat) : Int) := by
  simp [cntT, List.getElem?_range h]
/-- A sign counted: one of the letters that are told of, or another sign. -/
theorem cntT_step (s : List UInt8) (c : UInt8) (n k : Nat) (hn : n ≤ 4) (hk : (c - 97).toNat = k) (h : k < n) : cntT (s ++ [c]) n = (cntT s n).set k (((s.count (ltr k) : Nat) : Int) + 1) := by
  have hc : c = ltr k := by
    apply UInt8.toNat_inj.1
    have h1 := UInt8.toNat_sub c 97
    have := c.toNat_lt
    simp [ltr]
    rw [hk] at h1
    simp at h1
    omega
  refine List.ext_getElem (by simp [cntT]) fun i h1 h2 => ?_
  have hi : i < n := by simpa [cntT] using h1
  rw [List.getElem_set]
  by_cases e : k = i
  · subst e
    simp [cntT, List.count_append, hc]
  · rw [if_neg e]
    have : ltr k ≠ ltr i := fun e' => e (ltr_inj (by omega) (by omega) e')
    simp [cntT, List.count_append, hc, List.count_cons, this]
theorem cntT_skip (s : List UInt8) (c : UInt8) (n k : Nat) (hn : n ≤ 4) (hk : (c - 97).toNat = k) (h : ¬ k < n) : cntT (s ++ [c]) n = cntT s n := by
  refine List.ext_getElem (by simp [cntT]) fun i h1 h2 => ?_
  have hi : i < n := by simpa [cntT] using h1
  have : ¬ c = ltr i := by
    intro e
    subst e
    have h3 := UInt8.toNat_sub (ltr i) 97
    simp [ltr] at h3 hk
    omega
  simp [cntT, List.count_append, List.count_cons, this]
theorem cntT_le (s : List UInt8) (n : Nat) : ∀ x ∈ cntT s n, 0 ≤ x ∧ x ≤ s.length := by
  intro x hx
  simp only [cntT, List.mem_map] at hx
  obtain ⟨i, _, rfl⟩ := hx
  have := List.count_le_length (a := ltr i) (l := s)
  omega
theorem cntL_len (ns : List (List UInt8)) (fr : List UInt8) (xs : List Int) : (cntL ns fr xs).length = xs.length := cntT_len _ _
theorem liesK_le (cs xs : List Int) : ∀ k, liesK cs xs k ≤ k
  | 0 => Nat.le_refl _
  | k + 1 => by have := liesK_le cs xs k; rw [liesK]; split <;> omega
end Go.Proofs.YtampjipbemmicaaDoor
