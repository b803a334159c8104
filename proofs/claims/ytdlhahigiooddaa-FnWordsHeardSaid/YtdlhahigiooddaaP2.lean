/- Words of a length: how many there are if runs may be as long as the word, or one digit long (pure). -/
import Derived.Test.YtdlhahigiooddaaP0
namespace Go.Proofs.Ytdlhahigiooddaa
set_option linter.unusedSimpArgs false
set_option linter.unusedVariables false

theorem inner_exact (d L : Nat) (e : List Nat) (hd : 1 ≤ d) (hL : 1 ≤ L) : ∀ k, k < L → (inner d L e k).sum = d * part e k
  | 0, _ => by simp [inner, part]
  | k + 1, hk => by
    have h1 := inner_exact d L e hd hL k (by omega)
    obtain ⟨_, h2, h3⟩ := inner_facts d L e hd hL k (by omega)
    have hl := inner_len d L e k
    have s1 := sum_set (inner d L e k) 1 ((inner d L e k).getD 1 0 + e.getD (k + 1) 0 * (d - 1)) (by omega)
    have hp : part e (k + 1) = part e k + e.getD (k + 1) 0 := rfl
    have hm : e.getD (k + 1) 0 * (d - 1) = (d - 1) * e.getD (k + 1) 0 := Nat.mul_comm _ _
    have hdd : d * part e (k + 1) = d * part e k + ((d - 1) * e.getD (k + 1) 0 + e.getD (k + 1) 0) := by
      rw [hp, Nat.mul_add]
      congr 1
      conv => lhs; rw [show d = (d - 1) + 1 by omega]
      rw [Nat.add_mul, Nat.one_mul]
    have s2 := sum_set ((inner d L e k).set 1 ((inner d L e k).getD 1 0 + e.getD (k + 1) 0 * (d - 1))) (k + 2) (e.getD (k + 1) 0) (by simp; omega)
    have hz : ((inner d L e k).set 1 ((inner d L e k).getD 1 0 + e.getD (k + 1) 0 * (d - 1))).getD (k + 2) 0 = 0 := by
      rw [getD_set_ne _ _ _ _ (by omega)]; exact h2 (k + 2) (by omega)
    simp only [inner]
    rw [if_pos hk]
    omega
/-- With nothing at the end, the last round is as the others. -/
theorem inner_whole (d L : Nat) (e : List Nat) (hd : 1 ≤ d) (hL : 1 ≤ L) (h0 : e.getD L 0 = 0) : (inner d L e L).sum = d * part e L := by
  obtain ⟨k, rfl⟩ : ∃ k, L = k + 1 := ⟨L - 1, by omega⟩
  have h1 := inner_exact d (k + 1) e hd hL k (by omega)
  have hl := inner_len d (k + 1) e k
  have s1 := sum_set (inner d (k + 1) e k) 1 ((inner d (k + 1) e k).getD 1 0 + e.getD (k + 1) 0 * (d - 1)) (by omega)
  have hp : part e (k + 1) = part e k + e.getD (k + 1) 0 := rfl
  rw [h0] at s1 hp
  show (let nx := inner d (k + 1) e k; let n1 := nx.set 1 (nx.getD 1 0 + e.getD (k + 1) 0 * (d - 1)); if k + 1 < k + 1 then n1.set (k + 2) (e.getD (k + 1) 0) else n1).sum = _
  dsimp only
  rw [if_neg (by omega), h0, hp]
  simp only [Nat.zero_mul, Nat.add_zero] at s1 ⊢
  omega
theorem inner_atP (d L : Nat) (e : List Nat) : ∀ k, k ≤ L → ∀ i, i + 1 < L → (inner d L e k).getD (i + 2) 0 = if i < k then e.getD (i + 1) 0 else 0
  | 0, _, i, hi => by
    rw [if_neg (by omega)]
    simp [inner, List.getD, List.getElem?_replicate]; split <;> rfl
  | k + 1, hk, i, hi => by
    have ih := inner_atP d L e k (by omega) i hi
    have hl := inner_len d L e k
    simp only [inner]
    by_cases hlt : k + 1 < L
    · rw [if_pos hlt]
      by_cases hik : i = k
      · subst hik
        rw [getD_set_eq _ _ _ (by simp; omega), if_pos (by omega)]
      · rw [getD_set_ne _ _ _ _ (by omega), getD_set_ne _ _ _ _ (by omega), ih]
        by_cases h : i < k
        · rw [if_pos h, if_pos (by omega)]
        · rw [if_neg h, if_neg (by omega)]
    · rw [if_neg hlt, getD_set_ne _ _ _ _ (by omega), ih, if_pos (by omega), if_pos (by omega)]
theorem outer_lenP (d L : Nat) : ∀ m, (outer d L m).length = L + 1
  | 0 => by simp [outer]
  | m + 1 => by simp only [outer]; exact inner_len _ _ _ _
theorem inner_headP (d L : Nat) (e : List Nat) : ∀ k, (inner d L e k).getD 0 0 = 0
  | 0 => by simp [inner, List.getD, List.getElem?_replicate]
  | k + 1 => by
    have ih := inner_headP d L e k
    simp only [inner]
    split
    · rw [getD_set_ne _ _ _ _ (by omega), getD_set_ne _ _ _ _ (by omega), ih]
    · rw [getD_set_ne _ _ _ _ (by omega), ih]
theorem outer_headP (d L : Nat) : ∀ m, (outer d L m).getD 0 0 = 0
  | 0 => by
    simp only [outer]
    rw [getD_set_ne _ _ _ _ (by omega)]
    simp [List.getD, List.getElem?_replicate]
  | m + 1 => by simp only [outer]; exact inner_headP _ _ _ _
theorem outer_far (d L : Nat) : ∀ m j, m + 2 ≤ j → (outer d L m).getD j 0 = 0
  | 0, j, h => by
    simp only [outer]
    rw [getD_set_ne _ _ _ _ (by omega)]
    simp [List.getD, List.getElem?_replicate]; split <;> rfl
  | m + 1, j, h => by
    obtain ⟨i, rfl⟩ : ∃ i, j = i + 2 := ⟨j - 2, by omega⟩
    by_cases hi : i + 1 < L
    · simp only [outer]
      rw [inner_atP d L _ L (Nat.le_refl _) i hi, if_pos (by omega)]
      exact outer_far d L m (i + 1) (by omega)
    · rw [List.getD_eq_getElem?_getD, List.getElem?_eq_none (by rw [outer_lenP]; omega)]; rfl
theorem part_take (e : List Nat) : ∀ k, part e k + e.getD 0 0 = (e.take (k + 1)).sum
  | 0 => by cases e <;> simp [part, List.getD]
  | k + 1 => by
    have := part_take e k
    by_cases h : k + 1 < e.length
    · rw [List.take_succ_eq_append_getElem h]
      simp only [part, List.sum_append, List.sum_cons, List.sum_nil]
      have : e.getD (k + 1) 0 = e[k + 1] := by simp [List.getD, h]
      omega
    · have h0 : e.getD (k + 1) 0 = 0 := by simp [List.getD, List.getElem?_eq_none (by omega : e.length ≤ k + 1)]
      rw [List.take_of_length_le (by omega)]
      rw [List.take_of_length_le (by omega)] at this
      simp only [part, h0]; omega
theorem outer_exact (d L : Nat) (hd : 1 ≤ d) : ∀ m, m + 1 ≤ L → (outer d L m).sum = d ^ (m + 1)
  | 0, hL => by
    have := sum_set (List.replicate (L + 1) 0) 1 d (by simp; omega)
    simp only [outer]
    have h2 : (List.replicate (L + 1) 0).sum = 0 := by simp
    have h4 : (List.replicate (L + 1) 0).getD 1 0 = 0 := by simp [List.getD, List.getElem?_replicate]; split <;> rfl
    have h3 : d ^ (0 + 1) = d := by simp
    omega
  | m + 1, hL => by
    have ih := outer_exact d L hd m (by omega)
    have h0 := outer_far d L m L (by omega)
    have hp := part_take (outer d L m) L
    rw [outer_headP, Nat.add_zero, List.take_of_length_le (by rw [outer_lenP]; exact Nat.le_refl _)] at hp
    simp only [outer]
    rw [inner_whole d L _ hd (by omega) h0, hp, ih, Nat.pow_succ d (m + 1), Nat.mul_comm]
/-- As many words as there are. -/
theorem cw_whole (n d L : Nat) (hn : 1 ≤ n) (hd : 1 ≤ d) (hL : n ≤ L) : specCW n d L = d ^ n := by
  unfold specCW
  rw [outer_exact d L hd (n - 1) (by omega), Nat.sub_add_cancel hn]
theorem cw_le (n d L : Nat) (hn : 1 ≤ n) (hd : 1 ≤ d) (hL : 1 ≤ L) : specCW n d L ≤ d ^ n := by
  unfold specCW
  have := outer_sum d L hd hL (n - 1)
  rwa [Nat.sub_add_cancel hn] at this
theorem outer_oneP (d : Nat) : ∀ m, outer d 1 m = [0, d * (d - 1) ^ m]
  | 0 => by simp [outer]
  | m + 1 => by
    simp only [outer, outer_oneP d m]
    simp [inner, Nat.pow_succ, Nat.mul_assoc]
theorem cw_one (n d : Nat) : specCW n d 1 = d * (d - 1) ^ (n - 1) := by
  unfold specCW
  rw [outer_oneP]; simp
end Go.Proofs.Ytdlhahigiooddaa
