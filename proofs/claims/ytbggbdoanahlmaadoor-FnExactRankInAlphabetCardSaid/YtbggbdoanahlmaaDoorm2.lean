/- Chapter 8 (pure): how often each letter is in a text; all of them together; how many different ones. -/
import Derived.Test.YtbggbdoanahlmaaDoorm1
namespace Go.Proofs.YtbggbdoanahlmaaDoor
open Go.RowKit
set_option linter.unusedSimpArgs false
set_option linter.unusedVariables false
set_option maxRecDepth 4000

def az (i : Nat) : UInt8 := UInt8.ofNat (97 + i)
theorem sum_add (f g : Nat → Nat) : ∀ l : List Nat, (l.map (fun i => f i + g i)).sum = (l.map f).sum + (l.map g).sum
  | [] => rfl
  | a :: t => by simp only [List.map_cons, List.sum_cons, sum_add f g t]; omega
theorem ind26 : ∀ j, j < 26 → ((List.range 26).map (fun i => if az j = az i then 1 else 0)).sum = 1 := by decide +kernel
theorem az_of {c : UInt8} (h : 97 ≤ c.toNat ∧ c.toNat ≤ 122) : ∃ j, j < 26 ∧ c = az j :=
  ⟨c.toNat - 97, by omega, by unfold az; apply UInt8.toNat_inj.1; rw [UInt8.toNat_ofNat']; omega⟩
theorem ind_of {c : UInt8} (h : 97 ≤ c.toNat ∧ c.toNat ≤ 122) : ((List.range 26).map (fun i => if c = az i then 1 else 0)).sum = 1 := by
  obtain ⟨j, hj, rfl⟩ := az_of h
  exact ind26 j hj
/-- How often the letters are in a text, all together. -/
theorem count_sum : ∀ l : List UInt8, (∀ c ∈ l, 97 ≤ c.toNat ∧ c.toNat ≤ 122) → ((List.range 26).map (fun i => l.count (az i))).sum = l.length
  | [], _ => by decide
  | c :: t, h => by
    have ih := count_sum t (fun x hx => h x (by simp [hx]))
    have e : (List.range 26).map (fun i => (c :: t).count (az i)) = (List.range 26).map (fun i => t.count (az i) + if c = az i then 1 else 0) := by
      refine List.map_congr_left fun i _ => ?_
      rw [List.count_cons]
      by_cases hc : c = az i
      · simp [hc]
      · simp [hc]
    rw [e, sum_add, ih, ind_of (h c (by simp)), List.length_cons]
/-- How many different letters are in a text. -/
def difN (l : List UInt8) : Nat := ((List.range 26).map (fun i => if 0 < l.count (az i) then 1 else 0)).sum
theorem difN_snoc (t : List UInt8) (c : UInt8) (h : 97 ≤ c.toNat ∧ c.toNat ≤ 122) : difN (t ++ [c]) = difN t + if c ∈ t then 0 else 1 := by
  by_cases hc : c ∈ t
  · rw [if_pos hc]
    unfold difN
    congr 1
    refine List.map_congr_left fun i _ => ?_
    rw [List.count_append]
    by_cases e : c = az i
    · have h1 : 0 < t.count (az i) := List.count_pos_iff.2 (e ▸ hc)
      rw [if_pos h1, if_pos (by omega)]
    · rw [show ([c] : List UInt8).count (az i) = 0 from by simp [List.count_singleton]; exact e, Nat.add_zero]
  · rw [if_neg hc]
    have hone := ind_of h
    unfold difN
    have e : (List.range 26).map (fun i => if 0 < (t ++ [c]).count (az i) then 1 else 0) = (List.range 26).map (fun i => (if 0 < t.count (az i) then 1 else 0) + if c = az i then 1 else 0) := by
      refine List.map_congr_left fun i _ => ?_
      rw [List.count_append]
      by_cases e : c = az i
      · have h1 : t.count (az i) = 0 := List.count_eq_zero.2 (e ▸ hc)
        rw [h1]
        simp [e]
      · rw [show ([c] : List UInt8).count (az i) = 0 from by simp [List.count_singleton]; exact e, Nat.add_zero, if_neg e, Nat.add_zero]
    rw [e, sum_add, hone]
/-- The first k letters of a text that are not ahead of their place. -/
def fstK (l : List UInt8) : Nat → Nat
  | 0 => 0
  | k + 1 => fstK l k + if l.getD k 0 ∈ l.take k then 0 else 1
theorem fstK_dif (l : List UInt8) (h : ∀ c ∈ l, 97 ≤ c.toNat ∧ c.toNat ≤ 122) : ∀ k, k ≤ l.length → fstK l k = difN (l.take k)
  | 0, _ => by rw [List.take_zero]; show 0 = difN []; decide
  | k + 1, hk => by
    have hk' : k < l.length := hk
    rw [fstK, fstK_dif l h k (by omega), List.take_succ_eq_append_getElem hk', difN_snoc _ _ (h _ (List.getElem_mem hk'))]
    rw [show l.getD k 0 = l[k] from by simp [List.getD, hk']]
theorem fstK_le (l : List UInt8) : ∀ k, fstK l k ≤ k
  | 0 => Nat.le_refl _
  | k + 1 => by
    have := fstK_le l k
    rw [fstK]; split <;> omega
theorem fstK_all (l : List UInt8) (h : ∀ c ∈ l, 97 ≤ c.toNat ∧ c.toNat ≤ 122) : fstK l l.length = difN l := by
  rw [fstK_dif l h _ (Nat.le_refl _), List.take_length]
/-- Sums over the first k letters. -/
def sumK (f : Nat → Nat) : Nat → Nat
  | 0 => 0
  | k + 1 => sumK f k + f k
theorem sumK_range (f : Nat → Nat) : ∀ k, sumK f k = ((List.range k).map f).sum
  | 0 => rfl
  | k + 1 => by rw [sumK, sumK_range f k, List.range_succ, List.map_append, List.sum_append]; simp
theorem sumK_mono (f : Nat → Nat) (k : Nat) : ∀ m, k ≤ m → sumK f k ≤ sumK f m := by
  intro m h
  induction h with
  | refl => exact Nat.le_refl _
  | step _ ih => rw [sumK]; omega
theorem count_sumK (l : List UInt8) (h : ∀ c ∈ l, 97 ≤ c.toNat ∧ c.toNat ≤ 122) : sumK (fun i => l.count (az i)) 26 = l.length := by rw [sumK_range, count_sum l h]
theorem dif_sumK (l : List UInt8) : sumK (fun i => if 0 < l.count (az i) then 1 else 0) 26 = difN l := sumK_range _ _
/-- How often a letter is in a name: in the whole name as in its letters. -/
theorem count_filter_az (l : List UInt8) (c : UInt8) (h : azB c = true) : (l.filter azB).count c = l.count c := List.count_filter h
end Go.Proofs.YtbggbdoanahlmaaDoor
