/- Words of a length with no long run, counted in two ways: plain numbers, nothing of the program. -/
import Derived.Test.YtjjkfffddfanaabP0
import Derived.KernelRfl
namespace Go.Proofs.Ytjjkfffddfanaab
set_option linter.unusedSimpArgs false
set_option linter.unusedVariables false

/-- All lengths at once: the sums of the model's tables, one after the other. -/
def sums (d L : Nat) : Nat → List Nat → List Nat
  | 0, _ => []
  | k + 1, e => e.sum :: sums d L k (inner d L e L)
theorem sums_get (d L : Nat) : ∀ (k : Nat) (j i : Nat), i < k → (sums d L k (outer d L j))[i]? = some (outer d L (j + i)).sum
  | 0, j, i, h => by omega
  | k + 1, j, 0, h => by simp [sums]
  | k + 1, j, i + 1, h => by
    simp only [sums, List.getElem?_cons_succ]
    have := sums_get d L k (j + 1) i (by omega)
    rw [show j + (i + 1) = j + 1 + i by omega]
    exact this
def okDL (d L : Nat) : Bool := decide (sums d L 18 (outer d L 0) = (List.range 18).map (fun n => implCW (n + 1) d L))
set_option maxRecDepth 100000 in
theorem ok1 : ((List.range 18).all fun L => okDL 1 (L + 1)) = true := by decide +kernel
set_option maxRecDepth 100000 in
theorem ok2 : ((List.range 18).all fun L => okDL 2 (L + 1)) = true := by decide +kernel
set_option maxRecDepth 100000 in
theorem ok3 : ((List.range 18).all fun L => okDL 3 (L + 1)) = true := by decide +kernel
set_option maxRecDepth 100000 in
theorem ok4 : ((List.range 18).all fun L => okDL 4 (L + 1)) = true := by decide +kernel
set_option maxRecDepth 100000 in
theorem ok5 : ((List.range 18).all fun L => okDL 5 (L + 1)) = true := by decide +kernel
set_option maxRecDepth 100000 in
theorem ok6 : ((List.range 18).all fun L => okDL 6 (L + 1)) = true := by decide +kernel
set_option maxRecDepth 100000 in
theorem ok7 : ((List.range 18).all fun L => okDL 7 (L + 1)) = true := by decide +kernel
set_option maxRecDepth 100000 in
theorem ok8 : ((List.range 18).all fun L => okDL 8 (L + 1)) = true := by decide +kernel
set_option maxRecDepth 100000 in
theorem ok9 : ((List.range 18).all fun L => okDL 9 (L + 1)) = true := by decide +kernel
theorem okD (d : Nat) (h3 : 1 ≤ d) (h4 : d ≤ 9) : ((List.range 18).all fun L => okDL d (L + 1)) = true := by
  have h : d = 1 ∨ d = 2 ∨ d = 3 ∨ d = 4 ∨ d = 5 ∨ d = 6 ∨ d = 7 ∨ d = 8 ∨ d = 9 := by omega
  rcases h with rfl | rfl | rfl | rfl | rfl | rfl | rfl | rfl | rfl
  · exact ok1
  · exact ok2
  · exact ok3
  · exact ok4
  · exact ok5
  · exact ok6
  · exact ok7
  · exact ok8
  · exact ok9
theorem cw_eq (len d L : Nat) (h1 : 1 ≤ len) (h2 : len ≤ 18) (h3 : 1 ≤ d) (h4 : d ≤ 9) (h5 : 1 ≤ L) (h6 : L ≤ 18) : specCW len d L = implCW len d L := by
  have ha := okD d h3 h4
  rw [List.all_eq_true] at ha
  have hb := ha (L - 1) (by simp; omega)
  rw [show L - 1 + 1 = L by omega] at hb
  have hc := of_decide_eq_true hb
  have hg := sums_get d L 18 0 (len - 1) (by omega)
  rw [hc, List.getElem?_map, List.getElem?_range (by omega)] at hg
  simp at hg
  rw [show len - 1 + 1 = len by omega] at hg
  exact hg.symm
/-! ### How great the numbers are -/
end Go.Proofs.Ytjjkfffddfanaab
