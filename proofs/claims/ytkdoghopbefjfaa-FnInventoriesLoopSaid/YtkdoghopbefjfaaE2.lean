/- Marks: a row of numbers is overwritten with counted marks, and they are found again. -/
import Derived.Test.YtkdoghopbefjfaaE1
namespace Go.Proofs.Ytkdoghopbefjfaa
open Go.RowKit Go.BigFrame
set_option linter.unusedSimpArgs false
set_option linter.unusedVariables false
set_option maxRecDepth 4000

def markI (k n : Nat) : List Int := (List.range n).map (fun i => ((k + i : Nat) : Int))
theorem markI_len (k n : Nat) : (markI k n).length = n := by simp [markI]
theorem markI_succ (k n : Nat) : markI k (n + 1) = markI k n ++ [((k + n : Nat) : Int)] := by simp [markI, List.range_succ]
theorem markI_get (k n i : Nat) (h : i < n) : (markI k n)[i]'(by rw [markI_len]; exact h) = ((k + i : Nat) : Int) := by simp [markI]
def markSS : Nat → List (List Int) → List (List Int)
  | _, [] => []
  | k, xs :: r => markI k xs.length :: markSS (k + xs.length) r
def totalSS (nss : List (List Int)) : Nat := (nss.map List.length).sum
theorem markSS_len : ∀ (k : Nat) (nss : List (List Int)), (markSS k nss).length = nss.length
  | _, [] => rfl
  | k, xs :: r => by simp [markSS, markSS_len (k + xs.length) r]
theorem totalSS_take (nss : List (List Int)) (i : Nat) (h : i < nss.length) : totalSS (nss.take (i + 1)) = totalSS (nss.take i) + nss[i].length := by
  rw [totalSS, List.take_succ_eq_append_getElem h, List.map_append, List.sum_append]; simp [totalSS]
theorem markSS_get : ∀ (k : Nat) (nss : List (List Int)) (i : Nat) (h : i < nss.length), (markSS k nss)[i]? = some (markI (k + totalSS (nss.take i)) nss[i].length)
  | k, [], i, h => by simp at h
  | k, xs :: r, 0, h => by simp [markSS, totalSS]
  | k, xs :: r, i + 1, h => by
    simp only [markSS, List.getElem?_cons_succ, List.getElem_cons_succ, List.take_succ_cons]
    rw [markSS_get (k + xs.length) r i (by simpa using h)]
    simp [totalSS, Nat.add_assoc]
theorem totalSS_le (nss : List (List Int)) (i : Nat) : totalSS (nss.take i) ≤ totalSS nss := by
  have : totalSS nss = totalSS (nss.take i) + totalSS (nss.drop i) := by
    conv => lhs; rw [← List.take_append_drop i nss]
    simp only [totalSS, List.map_append, List.sum_append]
  omega

end Go.Proofs.Ytkdoghopbefjfaa
