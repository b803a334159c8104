/- AllOwn: the library's sort on texts of the call's own. -/
import Derived.Test.YtaagfcdniacmnabQ16
import Derived.Test.YtaagfcdniacmnabS
namespace Go.Proofs.Ytaagfcdniacmnab
open Go.RowKit Go.BigFrame Go.Shelf Go.Sort
set_option linter.unusedSimpArgs false
set_option linter.unusedVariables false
set_option maxRecDepth 4000

theorem sort_any (w : World) (B : Nat) (v : Value) (R : List (List UInt8)) (h : w.ownsRow B 9 1 v R.length (strVs R)) (hl : R.length ≤ 1000000) :
    Calls Try.prog 49 #[v] w fun e w' => e = .returned (.tuple #[]) ∧ w'.ownsRow B 9 1 v R.length (strVs (R.mergeSort fun x y => decide (x ≤ y))) ∧
      w.os = w'.os ∧ w.heap.size ≤ w'.heap.size ∧ (∀ B', B' ≤ w.heap.size → (∀ k, v.ownBlock = some k → B' ≤ k) → Below B' w w') ∧ (∀ k, k < w.heap.size → v.ownBlock ≠ some k → w'.heap[k]? = w.heap[k]?) := by
  by_cases hR : R = []
  · subst hR
    obtain ⟨q, c, rfl⟩ := own_slice h
    refine (Try.slices_Sort_string_none q c w).mono ?_
    rintro e w' ⟨rfl, rfl⟩
    refine ⟨rfl, ?_, rfl, Nat.le_refl _, fun _ _ _ => Below.refl _ _, fun _ _ _ => rfl⟩
    simpa using h
  · have he : strVs R = R.map encStr := rfl
    have hv : v ≠ .slice none 0 0 := by
      rintro rfl
      have h2 := h.2
      rcases h2 with ⟨_, h0⟩ | ⟨g, cap, cur, e, _⟩
      · exact hR (List.eq_nil_of_length_eq_zero h0)
      · cases e
    rw [he] at h
    obtain ⟨g, cap, rfl, hBg, hg, hc1, hc2, _, hH⟩ := Lib.holds_of_ownsRow h hv
    refine (Try.slices_Sort_string g 0 cap R w hH hg (by omega)).mono ?_
    rintro e w' ⟨rfl, n, os, rfl⟩
    have hsz : (putRow encStr (Sort.ahead w n) g 0 (R.mergeSort fun x y => decide (x ≤ y)).toArray).heap.size = w.heap.size := by simp [putRow, mapBlock, Sort.ahead]
    have hother : ∀ k, k < w.heap.size → g ≠ k → (grow (putRow encStr (Sort.ahead w n) g 0 (R.mergeSort fun x y => decide (x ≤ y)).toArray) os).heap[k]? = w.heap[k]? := by
      intro k hk hne
      rw [heap_grow_old _ _ (by rw [hsz]; exact hk)]
      simp [putRow, mapBlock, Sort.ahead, Array.getElem?_modify, hne]
    have h3 := Lib.ownsRow_putRow (q := n) (k := R.length) (ys := R.mergeSort fun x y => decide (x ≤ y)) h (List.length_mergeSort ..) (Nat.le_refl _)
    refine ⟨rfl, ?_, rfl, by simp [hsz], fun B' hB hB2 => ?_, fun k hk hne => hother k hk (fun e => hne (by rw [← e]; rfl))⟩
    · have h4 := own_block h3 (w' := grow (putRow encStr (Sort.ahead w n) g 0 (R.mergeSort fun x y => decide (x ≤ y)).toArray) os) (fun k e => heap_grow_old _ _ (h3.lt k e).2)
      rw [List.take_of_length_le (by rw [List.length_mergeSort]; exact Nat.le_refl _)] at h4
      exact h4
    · exact ⟨rfl, rfl, rfl, by simp [hsz], fun k hk => hother k (by omega) (fun e => by have := hB2 g rfl; omega)⟩
end Go.Proofs.Ytaagfcdniacmnab
