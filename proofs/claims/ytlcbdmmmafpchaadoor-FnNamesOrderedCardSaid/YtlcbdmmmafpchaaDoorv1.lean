/- Chapter 8 (pure): no two numbers below a million have the same letters; comparing, ranks, lists and sums. -/
import Derived.Test.YtlcbdmmmafpchaaDoorsl
import Derived.Test.YtlcbdmmmafpchaaDoormo
namespace Go.Proofs.YtlcbdmmmafpchaaDoor
open Go.RowKit Go.BigFrame
set_option linter.unusedSimpArgs false
set_option linter.unusedVariables false
set_option maxRecDepth 4000

/-- The letters t, h, o come next. -/
def thoAt (a : UInt8) (l : List UInt8) : Bool := a == 116 && (l.getD 0 0 == 104 && l.getD 1 0 == 111)
/-- The letters t, h, o stand nowhere in a row. -/
def noTho : List UInt8 → Bool
  | [] => true
  | a :: l => !thoAt a l && noTho l
/-- The letters ahead of the first t, h, o. -/
def toTho : List UInt8 → List UInt8
  | [] => []
  | a :: l => if thoAt a l = true then [] else a :: toTho l
/-- The letters from there on. -/
def frTho : List UInt8 → List UInt8
  | [] => []
  | a :: l => if thoAt a l = true then a :: l else frTho l
theorem tho_none : ∀ l, noTho l = true → frTho l = []
  | [], _ => rfl
  | a :: l, h => by
    rw [noTho, Bool.and_eq_true] at h
    have h1 : thoAt a l = false := by simpa using h.1
    rw [frTho, h1, if_neg (by simp)]
    exact tho_none l h.2
theorem noTho_cut : ∀ (l r : List UInt8), noTho (l ++ r) = true → r.length = 2 → r = [116, 104] → noTho l = true
  | [], _, _, _, _ => rfl
  | a :: l, r, h, hr, he => by
    rw [List.cons_append, noTho, Bool.and_eq_true] at h
    have h1 : thoAt a (l ++ r) = false := by simpa using h.1
    rw [noTho, noTho_cut l r h.2 hr he, Bool.and_true]
    subst he
    match l with
    | [] => unfold thoAt; simp
    | [b] => unfold thoAt; simp
    | b :: c :: t =>
      have e : thoAt a (b :: c :: t) = thoAt a (b :: c :: t ++ [116, 104]) := rfl
      rw [e, h1]; rfl
theorem tho_cut : ∀ (l r : List UInt8), noTho (l ++ [116, 104]) = true → toTho (l ++ 116 :: 104 :: 111 :: r) = l ∧ frTho (l ++ 116 :: 104 :: 111 :: r) = 116 :: 104 :: 111 :: r
  | [], r, _ => ⟨rfl, rfl⟩
  | a :: l, r, h => by
    rw [List.cons_append, noTho, Bool.and_eq_true] at h
    have h1 : thoAt a (l ++ [116, 104]) = false := by simpa using h.1
    have h2 : thoAt a (l ++ 116 :: 104 :: 111 :: r) = false := by
      match l with
      | [] => unfold thoAt; simp
      | [b] => unfold thoAt; simp
      | b :: c :: t => exact h1
    obtain ⟨g1, g2⟩ := tho_cut l r h.2
    rw [List.cons_append, toTho, frTho, h2, if_neg (by simp), if_neg (by simp), g1, g2]
    exact ⟨rfl, rfl⟩
def lt1000 (n : Nat) : List UInt8 := (nm1000 n).filter azB
theorem lt1000_no : ∀ n, n < 1000 → noTho (lt1000 n ++ [116, 104]) = true := by decide +kernel
theorem lt1000_ne : ∀ n, n < 1000 → 1 ≤ (lt1000 n).length := by decide +kernel
theorem ltN_small {n : Nat} (h : n < 1000) : ltN n = lt1000 n := by unfold ltN nmN lt1000; rw [if_pos h]
theorem ltN_big {n : Nat} (h : ¬ n < 1000) : ltN n = lt1000 (n / 1000) ++ 116 :: 104 :: 111 :: ([117, 115, 97, 110, 100] ++ if n % 1000 = 0 then [] else lt1000 (n % 1000)) := by
  unfold ltN nmN lt1000
  rw [if_neg h]
  split <;> simp [List.filter_append, thousandL, azB]
theorem ltN_inj6 {a b : Nat} (ha : a < 1000000) (hb : b < 1000000) (h : ltN a = ltN b) : a = b := by
  by_cases h1 : a < 1000 <;> by_cases h2 : b < 1000
  · exact ltN_inj (by omega) (by omega) h
  · exfalso
    have g := (tho_cut _ ([117, 115, 97, 110, 100] ++ if b % 1000 = 0 then [] else lt1000 (b % 1000)) (lt1000_no (b / 1000) (by omega))).2
    rw [← ltN_big h2, ← h, ltN_small h1, tho_none _ (noTho_cut _ _ (lt1000_no a h1) rfl rfl)] at g
    cases g
  · exfalso
    have g := (tho_cut _ ([117, 115, 97, 110, 100] ++ if a % 1000 = 0 then [] else lt1000 (a % 1000)) (lt1000_no (a / 1000) (by omega))).2
    rw [← ltN_big h1, h, ltN_small h2, tho_none _ (noTho_cut _ _ (lt1000_no b h2) rfl rfl)] at g
    cases g
  · have ga := tho_cut _ ([117, 115, 97, 110, 100] ++ if a % 1000 = 0 then [] else lt1000 (a % 1000)) (lt1000_no (a / 1000) (by omega))
    have gb := tho_cut _ ([117, 115, 97, 110, 100] ++ if b % 1000 = 0 then [] else lt1000 (b % 1000)) (lt1000_no (b / 1000) (by omega))
    rw [← ltN_big h1, h, ltN_big h2] at ga
    rw [gb.1, gb.2] at ga
    obtain ⟨g1, g2⟩ := ga
    have e1 : b / 1000 = a / 1000 := ltN_inj (by omega) (by omega) (by rw [ltN_small (by omega), ltN_small (by omega)]; exact g1)
    simp only [List.cons.injEq, true_and, List.append_cancel_left_eq] at g2
    have e2 : a % 1000 = b % 1000 := by
      have la := lt1000_ne (a % 1000) (by omega)
      have lb := lt1000_ne (b % 1000) (by omega)
      by_cases z1 : a % 1000 = 0 <;> by_cases z2 : b % 1000 = 0
      · omega
      · rw [if_pos z1, if_neg z2] at g2; rw [g2] at lb; simp at lb
      · rw [if_neg z1, if_pos z2] at g2; rw [← g2] at la; simp at la
      · rw [if_neg z1, if_neg z2] at g2
        exact ltN_inj (by omega) (by omega) (by rw [ltN_small (by omega), ltN_small (by omega)]; exact g2.symm)
    omega
/-- Comparing turned round, and what nothing less and nothing greater is. -/
theorem cmpS_turn (a b : List UInt8) : cmpS b a = -cmpS a b := by
  unfold cmpS
  by_cases e : a = b
  · subst e
    have : blB a a = false := by rw [bl_eq]; exact bl_irr a
    rw [this]; simp
  · have e' : ¬ b = a := fun h => e h.symm
    rw [if_neg e, if_neg e']
    cases h1 : blB a b with
    | true =>
      have h2 : blB b a = false := by
        cases h2 : blB b a with
        | false => rfl
        | true => rw [bl_eq] at h1 h2; have := bl_tr _ _ _ h1 h2; rw [bl_irr] at this; cases this
      rw [h2]; simp
    | false =>
      have h2 : blB b a = true := by
        rw [bl_eq] at h1 ⊢
        rcases bl_tot a b e with h | h
        · rw [h] at h1; cases h1
        · exact h
      rw [h2]; simp
theorem cmpS_zero (a b : List UInt8) : cmpS a b = 0 ↔ a = b := by
  unfold cmpS
  constructor
  · intro h
    split at h
    · simp at h
    · split at h
      · assumption
      · simp at h
  · rintro rfl
    have : blB a a = false := by rw [bl_eq]; exact bl_irr a
    rw [this]; simp
theorem cmpS_neg (a b : List UInt8) : decide (cmpS a b < 0) = blB a b := by
  unfold cmpS
  cases blB a b <;> simp
  split <;> simp
theorem cmpO_turn (a b : Int) : cmpO b a = -cmpO a b := by
  unfold cmpO
  cases nmB a <;> cases nmB b <;> simp [cmpS_turn (ltO a) (ltO b)]
theorem cmpO_zero {a b : Int} (ha : nmB a = true) (hb : nmB b = true) : cmpO a b = 0 ↔ a = b := by
  obtain ⟨k, rfl, hk⟩ := nmB_parts ha
  obtain ⟨m, rfl, hm⟩ := nmB_parts hb
  unfold cmpO
  rw [ha, hb]
  simp only [Bool.and_self, if_pos, cmpS_zero]
  constructor
  · intro h
    rw [ltN_inj6 hk hm h]
  · intro h
    rw [h]
/-- Of the first k numbers at most those other than n come before n. -/
theorem rnkF_lt {n : Nat} : ∀ k, n < k → rnkF (ltN n) k + 1 ≤ k
  | 0, h => by omega
  | k + 1, h => by
    rw [rnkF]
    by_cases e : n = k
    · subst e
      have : blB (ltN n) (ltN n) = false := by rw [bl_eq]; exact bl_irr _
      rw [this]
      have := rnkF_le (ltN n) n
      simp; omega
    · have := rnkF_lt (n := n) k (by omega)
      split <;> omega
theorem rnkF_least {m N : Nat} (hN : N ≤ 2001) (h : Least ltAlph N m) : ∀ k, k ≤ N → rnkF (ltN m) k = 0
  | 0, _ => rfl
  | k + 1, hk => by
    rw [rnkF, rnkF_least hN h k (by omega)]
    have hm := h.1
    by_cases e : k = m
    · subst e
      have : blB (ltN k) (ltN k) = false := by rw [bl_eq]; exact bl_irr _
      rw [this]; rfl
    · have h1 := h.2 k (by omega) e
      have h2 := ordAlph.asym h1
      rw [alph_letters (by omega) (by omega)] at h2
      rw [h2]; rfl
/-- The numbers with so many letters: they have them, and come in order. -/
theorem wlK_has (L : Int) : ∀ k, ∀ x ∈ wlK L k, ∃ j : Nat, x = (j : Int) ∧ j < k ∧ ((ltN j).length : Int) = L
  | 0, x, h => by simp [wlK] at h
  | k + 1, x, h => by
    rw [wlK, List.mem_append] at h
    rcases h with h | h
    · obtain ⟨j, e1, e2, e3⟩ := wlK_has L k x h
      exact ⟨j, e1, by omega, e3⟩
    · split at h
      · rename_i hl
        simp at h; subst h
        exact ⟨k, rfl, by omega, hl⟩
      · simp at h
theorem wlK_up (L : Int) : ∀ k, (wlK L k).Pairwise (· < ·)
  | 0 => by simp [wlK]
  | k + 1 => by
    rw [wlK, List.pairwise_append]
    refine ⟨wlK_up L k, by split <;> simp, ?_⟩
    intro x hx y hy
    obtain ⟨j, rfl, h2, _⟩ := wlK_has L k x hx
    split at hy
    · simp at hy; subst hy; omega
    · simp at hy
theorem wlK_next (L : Int) (k i : Nat) (h1 : 0 < i) (h2 : i < (wlK L k).length) : (wlK L k).getD (i - 1) 0 < (wlK L k).getD i 0 := by
  have := List.pairwise_iff_getElem.1 (wlK_up L k) (i - 1) i (by omega) h2 (by omega)
  rw [List.getD_eq_getElem?_getD, List.getD_eq_getElem?_getD, List.getElem?_eq_getElem (by omega), List.getElem?_eq_getElem h2]
  exact this
/-- What is the first among those of most letters. -/
theorem most_le {N m x : Nat} (h : Least ltMost N m) (hx : x < N) : (ltN x).length ≤ (ltN m).length ∧ ((ltN x).length = (ltN m).length → m ≤ x) := by
  by_cases e : x = m
  · subst e; exact ⟨Nat.le_refl _, fun _ => Nat.le_refl _⟩
  · have h1 := h.2 x hx e
    unfold ltMost ltLex at h1
    simp only [Int.toNat_natCast, Bool.or_eq_true, Bool.and_eq_true, decide_eq_true_eq, ltI] at h1
    omega
theorem smF_before {m : Nat} (h : 0 < m) : smF (m - 1) + (ltN m).length = smF m := by
  obtain ⟨k, rfl⟩ : ∃ k, m = k + 1 := ⟨m - 1, by omega⟩
  rfl
end Go.Proofs.YtlcbdmmmafpchaaDoor
