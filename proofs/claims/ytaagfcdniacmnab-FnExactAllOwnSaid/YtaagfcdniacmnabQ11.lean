/- Texts in order (pure): a text laid into its place among sorted ones; what is sorted is the sorted list. -/
import Derived.Test.YtaagfcdniacmnabQ10
import Derived.Sort.KeysCollected
namespace Go.Proofs.Ytaagfcdniacmnab
set_option linter.unusedSimpArgs false
set_option linter.unusedVariables false

theorem sorted_is {R l : List (List UInt8)} (hp : R.Perm l) (hs : R.Pairwise (· ≤ ·)) : R = l.mergeSort fun x y => decide (x ≤ y) := by
  have tr : ∀ a b c : List UInt8, decide (a ≤ b) = true → decide (b ≤ c) = true → decide (a ≤ c) = true := fun a b c h1 h2 => by simp only [decide_eq_true_eq] at *; exact List.le_trans h1 h2
  have tot : ∀ a b : List UInt8, (decide (a ≤ b) || decide (b ≤ a)) = true := fun a b => by simp only [Bool.or_eq_true, decide_eq_true_eq]; exact List.le_total a b
  refine List.Perm.eq_of_pairwise (le := fun a b => a ≤ b) (fun a b _ _ h1 h2 => List.le_antisymm h1 h2) hs ?_ (hp.trans (List.mergeSort_perm l _).symm)
  exact (List.pairwise_mergeSort tr tot l).imp fun h => by simpa using h
theorem ins_ok (out : List (List UInt8)) (s : List UInt8) (k : Nat) (hk : k ≤ out.length) (hs : out.Pairwise (· ≤ ·)) (h1 : ∀ j (hj : j < out.length), k ≤ j → s < out[j])
    (h2 : k = 0 ∨ ∃ h : k - 1 < out.length, ¬ s < out[k - 1]) : (out.take k ++ s :: out.drop k).Pairwise (· ≤ ·) ∧ (out.take k ++ s :: out.drop k).Perm (out ++ [s]) := by
  have hs' := hs
  rw [← List.take_append_drop k out] at hs'
  obtain ⟨p1, p2, p3⟩ := List.pairwise_append.1 hs'
  constructor
  · refine List.pairwise_append.2 ⟨p1, List.pairwise_cons.2 ⟨fun b hb => ?_, p2⟩, fun a ha b hb => ?_⟩
    · obtain ⟨j, hj, e⟩ := List.getElem_of_mem hb
      rw [List.getElem_drop] at e
      rw [← e]
      exact List.le_of_lt (h1 (k + j) (by rw [List.length_drop] at hj; omega) (by omega))
    · rcases List.mem_cons.1 hb with rfl | hb
      · obtain ⟨i, hi, e⟩ := List.getElem_of_mem ha
        have hik : i < k := by rw [List.length_take] at hi; omega
        rw [List.getElem_take] at e
        rcases h2 with h2 | ⟨hlt, hn⟩
        · omega
        · have hle : out[i]'(by omega) ≤ out[k - 1] := by
            by_cases e' : i = k - 1
            · subst e'; exact List.le_refl _
            · exact List.pairwise_iff_getElem.1 hs i (k - 1) (by omega) hlt (by omega)
          rw [← e]
          exact List.le_trans hle (List.not_lt.1 hn)
      · exact p3 a ha b hb
  · have e : (out.take k ++ s :: out.drop k).Perm (s :: (out.take k ++ out.drop k)) := List.perm_middle
    rw [List.take_append_drop] at e
    exact e.trans (List.perm_append_singleton s out).symm
end Go.Proofs.Ytaagfcdniacmnab
