/- Words of a length with no long run, the tables of both counts: plain numbers, nothing of the program. -/
import Derived.KernelRfl
namespace Go.Proofs.Ytdlhahigiooddaa
set_option linter.unusedSimpArgs false
set_option linter.unusedVariables false

/-- The model's table behind k rounds of its inner loop. -/
def inner (d L : Nat) (e : List Nat) : Nat → List Nat
  | 0 => List.replicate (L + 1) 0
  | k + 1 =>
    let nx := inner d L e k
    let n1 := nx.set 1 (nx.getD 1 0 + e.getD (k + 1) 0 * (d - 1))
    if k + 1 < L then n1.set (k + 2) (e.getD (k + 1) 0) else n1
def outer (d L : Nat) : Nat → List Nat
  | 0 => (List.replicate (L + 1) 0).set 1 d
  | k + 1 => inner d L (outer d L k) L
/-- The program's table behind k rounds of its inner loop. -/
def innerI (d n : Nat) (c : List Nat) : Nat → List Nat
  | 0 => c
  | k + 1 =>
    let c1 := innerI d n c k
    if k + 1 = n then c1.set n (c1.getD n 0 + d) else c1.set n (c1.getD n 0 + c1.getD (n - (k + 1)) 0 * (d - 1))
def outerI (d L len : Nat) : Nat → List Nat
  | 0 => List.replicate (len + 1) 0
  | k + 1 => innerI d (k + 1) (outerI d L len k) (min L (k + 1))
def specCW (len d L : Nat) : Nat := (outer d L (len - 1)).sum
def implCW (len d L : Nat) : Nat := (outerI d L len len).getD len 0
theorem sum_set (l : List Nat) (i x : Nat) (h : i < l.length) : (l.set i x).sum + l.getD i 0 = l.sum + x := by
  induction l generalizing i with
  | nil => simp at h
  | cons a r ih =>
    cases i with
    | zero => simp; omega
    | succ i =>
      have := ih i (by simpa using h)
      simp only [List.set_cons_succ, List.sum_cons, List.getD_cons_succ] at *
      omega
theorem inner_len (d L : Nat) (e : List Nat) : ∀ k, (inner d L e k).length = L + 1
  | 0 => by simp [inner]
  | k + 1 => by
    simp only [inner]
    split <;> simp [inner_len d L e k]
/-- The first k entries behind the head. -/
def part (e : List Nat) : Nat → Nat
  | 0 => 0
  | k + 1 => part e k + e.getD (k + 1) 0
theorem getD_set_ne (l : List Nat) (i j x : Nat) (h : i ≠ j) : (l.set i x).getD j 0 = l.getD j 0 := by
  simp [List.getD, List.getElem?_set_ne h]
theorem getD_set_eq (l : List Nat) (i x : Nat) (h : i < l.length) : (l.set i x).getD i 0 = x := by
  simp [List.getD, h]
theorem inner_facts (d L : Nat) (e : List Nat) (hd : 1 ≤ d) (hL : 1 ≤ L) : ∀ k, k ≤ L → (inner d L e k).sum ≤ d * part e k ∧ (∀ j, k + 2 ≤ j → (inner d L e k).getD j 0 = 0) ∧ (inner d L e k).getD 1 0 = (d - 1) * part e k
  | 0, _ => by
    refine ⟨by simp [inner, part], fun j hj => ?_, ?_⟩
    · simp [inner, List.getD, List.getElem?_replicate]; split <;> rfl
    · simp [inner, part, List.getD, List.getElem?_replicate]; split <;> rfl
  | k + 1, hk => by
    obtain ⟨h1, h2, h3⟩ := inner_facts d L e hd hL k (by omega)
    have hl := inner_len d L e k
    have s1 := sum_set (inner d L e k) 1 ((inner d L e k).getD 1 0 + e.getD (k + 1) 0 * (d - 1)) (by omega)
    have hp : part e (k + 1) = part e k + e.getD (k + 1) 0 := rfl
    have hm : e.getD (k + 1) 0 * (d - 1) = (d - 1) * e.getD (k + 1) 0 := Nat.mul_comm _ _
    have hdd : d * part e (k + 1) = d * part e k + ((d - 1) * e.getD (k + 1) 0 + e.getD (k + 1) 0) := by
      rw [hp, Nat.mul_add]
      congr 1
      conv => lhs; rw [show d = (d - 1) + 1 by omega]
      rw [Nat.add_mul, Nat.one_mul]
    simp only [inner]
    by_cases hlt : k + 1 < L
    · rw [if_pos hlt]
      have s2 := sum_set ((inner d L e k).set 1 ((inner d L e k).getD 1 0 + e.getD (k + 1) 0 * (d - 1))) (k + 2) (e.getD (k + 1) 0) (by simp; omega)
      have hz : ((inner d L e k).set 1 ((inner d L e k).getD 1 0 + e.getD (k + 1) 0 * (d - 1))).getD (k + 2) 0 = 0 := by
        rw [getD_set_ne _ _ _ _ (by omega)]; exact h2 (k + 2) (by omega)
      refine ⟨by omega, fun j hj => ?_, ?_⟩
      · rw [getD_set_ne _ _ _ _ (by omega), getD_set_ne _ _ _ _ (by omega)]; exact h2 j (by omega)
      · rw [getD_set_ne _ _ _ _ (by omega), getD_set_eq _ _ _ (by omega), h3, hp, Nat.mul_add, hm]
    · rw [if_neg hlt]
      refine ⟨by omega, fun j hj => ?_, ?_⟩
      · rw [getD_set_ne _ _ _ _ (by omega)]; exact h2 j (by omega)
      · rw [getD_set_eq _ _ _ (by omega), h3, hp, Nat.mul_add, hm]
theorem part_le (e : List Nat) : ∀ k, part e k + e.getD 0 0 ≤ (e.take (k + 1)).sum
  | 0 => by cases e <;> simp [part, List.getD]
  | k + 1 => by
    have := part_le e k
    by_cases h : k + 1 < e.length
    · rw [List.take_succ_eq_append_getElem h]
      simp only [part, List.sum_append, List.sum_cons, List.sum_nil]
      have : e.getD (k + 1) 0 = e[k + 1] := by simp [List.getD, h]
      omega
    · have h0 : e.getD (k + 1) 0 = 0 := by simp [List.getD, List.getElem?_eq_none (by omega : e.length ≤ k + 1)]
      rw [List.take_of_length_le (by omega)]
      rw [List.take_of_length_le (by omega)] at this
      simp only [part, h0]; omega
theorem part_sum (e : List Nat) (k : Nat) : part e k ≤ e.sum := by
  have h1 := part_le e k
  have h2 : e.sum = (e.take (k + 1)).sum + (e.drop (k + 1)).sum := by rw [← List.sum_append, List.take_append_drop]
  omega
theorem outer_sum (d L : Nat) (hd : 1 ≤ d) (hL : 1 ≤ L) : ∀ k, (outer d L k).sum ≤ d ^ (k + 1)
  | 0 => by
    have := sum_set (List.replicate (L + 1) 0) 1 d (by simp; omega)
    simp only [outer]
    have h2 : (List.replicate (L + 1) 0).sum = 0 := by simp
    have h3 : d ^ (0 + 1) = d := by simp
    omega
  | k + 1 => by
    have h1 := (inner_facts d L (outer d L k) hd hL L (Nat.le_refl _)).1
    have h2 := part_sum (outer d L k) L
    have h3 := outer_sum d L hd hL k
    simp only [outer]
    calc (inner d L (outer d L k) L).sum ≤ d * part (outer d L k) L := h1
      _ ≤ d * d ^ (k + 1) := Nat.mul_le_mul_left _ (Nat.le_trans h2 h3)
      _ = d ^ (k + 1 + 1) := by rw [Nat.pow_succ d (k + 1), Nat.mul_comm]
theorem inner_small (d L k j : Nat) (hd : 1 ≤ d) (hd9 : d ≤ 9) (hL : 1 ≤ L) (hj : j ≤ L) (hk : k ≤ 17) : (inner d L (outer d L k) j).sum ≤ 9 ^ 19 := by
  have h1 := (inner_facts d L (outer d L k) hd hL j hj).1
  have h2 := part_sum (outer d L k) j
  have h3 := outer_sum d L hd hL k
  have h4 : d ^ (k + 1) ≤ 9 ^ 18 := Nat.le_trans (Nat.pow_le_pow_left hd9 _) (Nat.pow_le_pow_right (by omega) (by omega))
  calc _ ≤ d * part (outer d L k) j := h1
    _ ≤ 9 * 9 ^ 18 := Nat.mul_le_mul hd9 (Nat.le_trans h2 (Nat.le_trans h3 h4))
    _ = 9 ^ 19 := by decide
end Go.Proofs.Ytdlhahigiooddaa
