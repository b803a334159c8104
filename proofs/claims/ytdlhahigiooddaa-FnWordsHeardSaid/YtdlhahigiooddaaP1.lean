/- Words of a length with no long run, counted in two ways: plain numbers, one table for all lengths. -/
import Derived.Test.YtdlhahigiooddaaP0
import Derived.KernelRfl
namespace Go.Proofs.Ytdlhahigiooddaa
set_option linter.unusedSimpArgs false
set_option linter.unusedVariables false

theorem pI_len (d n : Nat) (c : List Nat) : ∀ k, (innerI d n c k).length = c.length
  | 0 => rfl
  | k + 1 => by
    show (if k + 1 = n then _ else _ : List Nat).length = _
    split <;> simp [pI_len d n c k]
theorem pO_len (d L len : Nat) : ∀ m, (outerI d L len m).length = len + 1
  | 0 => by simp [outerI]
  | m + 1 => by simp [outerI, pI_len, pO_len d L len m]
theorem pI_other (d n : Nat) (c : List Nat) (j : Nat) (hj : j ≠ n) : ∀ k, (innerI d n c k).getD j 0 = c.getD j 0
  | 0 => rfl
  | k + 1 => by
    show (if k + 1 = n then _ else _ : List Nat).getD j 0 = _
    split
    · rw [getD_set_ne _ _ _ _ (fun e => hj e.symm)]; exact pI_other d n c j hj k
    · rw [getD_set_ne _ _ _ _ (fun e => hj e.symm)]; exact pI_other d n c j hj k
theorem pI_agree (d n len : Nat) (c c' : List Nat) (hn : n ≤ len) (hl : len < c.length) (hl' : len < c'.length) (h : ∀ j, j ≤ len → c.getD j 0 = c'.getD j 0) :
    ∀ k j, j ≤ len → (innerI d n c k).getD j 0 = (innerI d n c' k).getD j 0
  | 0, j, hj => h j hj
  | k + 1, j, hj => by
    have ih := pI_agree d n len c c' hn hl hl' h k
    have l1 : n < (innerI d n c k).length := by rw [pI_len]; omega
    have l2 : n < (innerI d n c' k).length := by rw [pI_len]; omega
    show (if k + 1 = n then (innerI d n c k).set n ((innerI d n c k).getD n 0 + d) else (innerI d n c k).set n ((innerI d n c k).getD n 0 + (innerI d n c k).getD (n - (k + 1)) 0 * (d - 1)) : List Nat).getD j 0
      = (if k + 1 = n then (innerI d n c' k).set n ((innerI d n c' k).getD n 0 + d) else (innerI d n c' k).set n ((innerI d n c' k).getD n 0 + (innerI d n c' k).getD (n - (k + 1)) 0 * (d - 1)) : List Nat).getD j 0
    by_cases e : j = n
    · subst e
      split
      · rw [getD_set_eq _ _ _ l1, getD_set_eq _ _ _ l2, ih j hj]
      · rw [getD_set_eq _ _ _ l1, getD_set_eq _ _ _ l2, ih j hj, ih (j - (k + 1)) (by omega)]
    · have e' : n ≠ j := fun x => e x.symm
      split
      · rw [getD_set_ne _ _ _ _ e', getD_set_ne _ _ _ _ e', ih j hj]
      · rw [getD_set_ne _ _ _ _ e', getD_set_ne _ _ _ _ e', ih j hj]
theorem pO_zero (d L len j : Nat) : (outerI d L len 0).getD j 0 = 0 := by
  show ((List.replicate (len + 1) 0 : List Nat)[j]?).getD 0 = 0
  rw [List.getElem?_replicate]; split <;> rfl
theorem pO_agree (d L len len' : Nat) (hle : len ≤ len') : ∀ m, m ≤ len → ∀ j, j ≤ len → (outerI d L len m).getD j 0 = (outerI d L len' m).getD j 0
  | 0, _, j, _ => by rw [pO_zero, pO_zero]
  | m + 1, hm, j, hj => by
    show (innerI d (m + 1) (outerI d L len m) (min L (m + 1))).getD j 0 = (innerI d (m + 1) (outerI d L len' m) (min L (m + 1))).getD j 0
    exact pI_agree d (m + 1) len _ _ hm (by rw [pO_len]; omega) (by rw [pO_len]; omega) (pO_agree d L len len' hle m (by omega)) _ j hj
theorem pO_later (d L len j m : Nat) (hj : j ≤ m) : ∀ t, (outerI d L len (m + t)).getD j 0 = (outerI d L len m).getD j 0
  | 0 => rfl
  | t + 1 => by
    show (innerI d (m + t + 1) (outerI d L len (m + t)) (min L (m + t + 1))).getD j 0 = _
    rw [pI_other _ _ _ _ (by omega)]
    exact pO_later d L len j m hj t
theorem implCW_all (n d L : Nat) (hn : n ≤ 18) : implCW n d L = (outerI d L 18 18).getD n 0 := by
  have h1 := pO_agree d L n 18 hn n (Nat.le_refl _) n (Nat.le_refl _)
  have h2 := pO_later d L 18 n n (Nat.le_refl _) (18 - n)
  rw [show n + (18 - n) = 18 by omega] at h2
  exact h1.trans h2.symm

/-- All lengths at once: the sums of the model's tables, one after the other. -/
def sums (d L : Nat) : Nat → List Nat → List Nat
  | 0, _ => []
  | k + 1, e => e.sum :: sums d L k (inner d L e L)
theorem sums_get (d L : Nat) : ∀ (k : Nat) (j i : Nat), i < k → (sums d L k (outer d L j))[i]? = some (outer d L (j + i)).sum
  | 0, j, i, h => by omega
  | k + 1, j, 0, h => by simp [sums]
  | k + 1, j, i + 1, h => by
    simp only [sums, List.getElem?_cons_succ]
    have := sums_get d L k (j + 1) i (by omega)
    rw [show j + (i + 1) = j + 1 + i by omega]
    exact this
def okDL (d L : Nat) : Bool := decide (0 :: sums d L 18 (outer d L 0) = outerI d L 18 18)
set_option maxRecDepth 100000 in
theorem ok1 : ((List.range 18).all fun L => okDL 1 (L + 1)) = true := by decide +kernel
set_option maxRecDepth 100000 in
theorem ok2 : ((List.range 18).all fun L => okDL 2 (L + 1)) = true := by decide +kernel
set_option maxRecDepth 100000 in
theorem ok3 : ((List.range 18).all fun L => okDL 3 (L + 1)) = true := by decide +kernel
set_option maxRecDepth 100000 in
theorem ok4 : ((List.range 18).all fun L => okDL 4 (L + 1)) = true := by decide +kernel
set_option maxRecDepth 100000 in
theorem ok5 : ((List.range 18).all fun L => okDL 5 (L + 1)) = true := by decide +kernel
set_option maxRecDepth 100000 in
theorem ok6 : ((List.range 18).all fun L => okDL 6 (L + 1)) = true := by decide +kernel
set_option maxRecDepth 100000 in
theorem ok7 : ((List.range 18).all fun L => okDL 7 (L + 1)) = true := by decide +kernel
set_option maxRecDepth 100000 in
theorem ok8 : ((List.range 18).all fun L => okDL 8 (L + 1)) = true := by decide +kernel
set_option maxRecDepth 100000 in
theorem ok9 : ((List.range 18).all fun L => okDL 9 (L + 1)) = true := by decide +kernel
theorem okD (d : Nat) (h3 : 1 ≤ d) (h4 : d ≤ 9) : ((List.range 18).all fun L => okDL d (L + 1)) = true := by
  have h : d = 1 ∨ d = 2 ∨ d = 3 ∨ d = 4 ∨ d = 5 ∨ d = 6 ∨ d = 7 ∨ d = 8 ∨ d = 9 := by omega
  rcases h with rfl | rfl | rfl | rfl | rfl | rfl | rfl | rfl | rfl
  · exact ok1
  · exact ok2
  · exact ok3
  · exact ok4
  · exact ok5
  · exact ok6
  · exact ok7
  · exact ok8
  · exact ok9
theorem cw_eq (len d L : Nat) (h1 : 1 ≤ len) (h2 : len ≤ 18) (h3 : 1 ≤ d) (h4 : d ≤ 9) (h5 : 1 ≤ L) (h6 : L ≤ 18) : specCW len d L = implCW len d L := by
  have ha := okD d h3 h4
  rw [List.all_eq_true] at ha
  have hb := ha (L - 1) (by simp; omega)
  rw [show L - 1 + 1 = L by omega] at hb
  have hc := of_decide_eq_true hb
  have hg := sums_get d L 18 0 (len - 1) (by omega)
  rw [implCW_all len d L h2, ← hc]
  obtain ⟨m, rfl⟩ : ∃ m, len = m + 1 := ⟨len - 1, by omega⟩
  simp only [Nat.add_sub_cancel, Nat.zero_add] at hg
  show (outer d L m).sum = ((0 :: sums d L 18 (outer d L 0))[m + 1]?).getD 0
  rw [List.getElem?_cons_succ, hg]; rfl
end Go.Proofs.Ytdlhahigiooddaa
