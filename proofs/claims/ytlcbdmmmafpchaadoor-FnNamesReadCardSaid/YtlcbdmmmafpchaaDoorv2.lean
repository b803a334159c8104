/- Chapter 8 (pure): what the law FnNamesRead asks of names, letters and chains. -/
import Derived.Test.YtlcbdmmmafpchaaDoormp
namespace Go.Proofs.YtlcbdmmmafpchaaDoor
open Go.RowKit Go.BigFrame
set_option linter.unusedSimpArgs false
set_option linter.unusedVariables false
set_option maxRecDepth 4000

theorem own_tab : ∀ n, n < 65 → ltlen n = n → n = 4 := by decide +kernel
theorem lt_own {n : Nat} (h : n < 1000000) : ltlen n = n ↔ n = 4 := by
  constructor
  · intro e
    have := ltlen_le n h
    exact own_tab n (by omega) e
  · rintro rfl; exact ltlen4
theorem joinS_mem {c : UInt8} : ∀ ls : List (List UInt8), c ∈ joinS ls → c = 32 ∨ ∃ x ∈ ls, c ∈ x
  | [], h => by simp [joinS] at h
  | [a], h => .inr ⟨a, by simp, h⟩
  | a :: b :: t, h => by
    simp only [joinS, List.mem_append, List.mem_singleton] at h
    rcases h with (h | h) | h
    · exact .inr ⟨a, by simp, h⟩
    · exact .inl h
    · rcases joinS_mem (b :: t) h with h | ⟨x, hx, hc⟩
      · exact .inl h
      · exact .inr ⟨x, List.mem_cons_of_mem _ hx, hc⟩
theorem nm_signs (n : Nat) (h : n < 1000000) : ∀ c ∈ nmN n, azB c = true ∨ c = 32 ∨ c = 45 := by
  intro c hc
  rw [← joinN] at hc
  rcases joinS_mem _ hc with h1 | ⟨x, hx, hcx⟩
  · exact .inr (.inl h1)
  · have := wdsN_word n h x hx
    unfold wordB at this
    simp only [Bool.and_eq_true, List.all_eq_true, Bool.or_eq_true, beq_iff_eq] at this
    rcases this.2 c hcx with g | g
    · exact .inl g
    · exact .inr (.inr g)
theorem count3 : ∀ l : List UInt8, (∀ c ∈ l, azB c = true ∨ c = 32 ∨ c = 45) → l.length = (l.filter azB).length + l.count 32 + l.count 45
  | [], _ => rfl
  | a :: t, h => by
    have ih := count3 t (fun c hc => h c (by simp [hc]))
    rw [List.length_cons, List.count_cons, List.count_cons, List.filter_cons]
    rcases h a (by simp) with g | g | g
    · have h1 : (a == 32) = false := by
        cases e : (a == 32) with
        | false => rfl
        | true => rw [beq_iff_eq] at e; subst e; revert g; decide
      have h2 : (a == 45) = false := by
        cases e : (a == 45) with
        | false => rfl
        | true => rw [beq_iff_eq] at e; subst e; revert g; decide
      rw [if_pos g, h1, h2, List.length_cons, if_neg (by simp)]
      omega
    · subst g
      rw [if_neg (by decide), if_pos (by decide), if_neg (by decide)]
      omega
    · subst g
      rw [if_neg (by decide), if_neg (by decide), if_pos (by decide)]
      omega
theorem nm_count (n : Nat) (h : n < 1000000) : (nmN n).length = (ltN n).length + (nmN n).count 32 + (nmN n).count 45 := count3 _ (nm_signs n h)
theorem wds_count (n : Nat) (h : n < 1000000) : (wdsN n).length = (nmN n).count 32 + 1 := by
  rw [← split_name n h, splitL_len]
theorem lt1000_one : ∀ n, n < 1000 → 1 ≤ ((nm1000 n).filter azB).length := by decide +kernel
theorem ltN_one (n : Nat) (h : n < 1000000) : 1 ≤ (ltN n).length := by
  unfold ltN nmN
  split
  · rename_i h1
    exact lt1000_one n h1
  · have := lt1000_one (n / 1000) (by omega)
    simp only [List.filter_append, List.length_append]
    omega
theorem fstK_one (l : List UInt8) : ∀ k, 1 ≤ fstK l (k + 1)
  | 0 => by rw [fstK, fstK, List.take_zero, if_neg (by simp)]; omega
  | k + 1 => by have := fstK_one l k; rw [fstK]; omega
theorem dif_in (n : Nat) (h : n < 1000000) : 1 ≤ difN (ltN n) ∧ difN (ltN n) ≤ (ltN n).length := by
  have h1 := ltN_one n h
  rw [← fstK_all _ (ltN_all n)]
  obtain ⟨k, hk⟩ : ∃ k, (ltN n).length = k + 1 := ⟨(ltN n).length - 1, by omega⟩
  rw [hk]
  exact ⟨fstK_one _ _, fstK_le _ _⟩
/-- The first i signs, one more. -/
theorem take_count (l : List UInt8) (c : UInt8) (i : Nat) (h : i < l.length) : (l.take (i + 1)).count c = (l.take i).count c + if l[i] = c then 1 else 0 := by
  rw [List.take_succ_eq_append_getElem h, List.count_append, List.count_singleton]
  by_cases e : l[i] = c
  · rw [if_pos e, if_pos (by simpa using e)]
  · rw [if_neg e, if_neg (by simpa using e)]
/-- What is left of a chain at its place i. -/
theorem ch_at (n : Nat) (hn : n < 1000000) : ∀ i, i < (chL n).length → ∃ P x, P.length = i ∧ chL n = P ++ chL x ∧ (chL n).getD i 0 = x
  | 0, _ => by
    obtain ⟨r, hr⟩ := chL_head n
    exact ⟨[], n, rfl, rfl, by rw [hr]; rfl⟩
  | i + 1, h => by
    obtain ⟨P, x, h1, h2, h3⟩ := ch_at n hn i (by omega)
    obtain ⟨c1, c2, c3, c4, c5⟩ := chain_on hn h2
    by_cases hx : x = 4
    · have := c5 hx
      rw [this, List.length_append, h1] at h
      simp at h
    · have h4 := c4 hx
      obtain ⟨r, hr⟩ := chL_head (ltlen x)
      refine ⟨P ++ [x], ltlen x, by simp [h1], h4, ?_⟩
      rw [h4, hr]
      simp [List.getD, List.getElem?_append, h1]
theorem ch_next (n : Nat) (hn : n < 1000000) (i : Nat) (h0 : 1 ≤ i) (h : i < (chL n).length) : (chL n).getD (i - 1) 0 < 1000000 ∧ ltlen ((chL n).getD (i - 1) 0) = (chL n).getD i 0 ∧ (chL n).getD (i - 1) 0 ≠ 4 := by
  obtain ⟨P, x, h1, h2, h3⟩ := ch_at n hn (i - 1) (by omega)
  obtain ⟨c1, c2, c3, c4, c5⟩ := chain_on hn h2
  rw [h3]
  have hx : x ≠ 4 := by
    intro e
    rw [c5 e, List.length_append, h1] at h
    simp at h; omega
  refine ⟨c1, ?_, hx⟩
  have h4 := c4 hx
  obtain ⟨r, hr⟩ := chL_head (ltlen x)
  rw [h4, hr]
  have e : i = P.length + 1 := by omega
  subst e
  simp [List.getD, List.getElem?_append]
theorem ch_ends (n : Nat) (hn : n < 1000000) : 1 ≤ (chL n).length ∧ (chL n).length ≤ 11 ∧ (chL n).getD 0 0 = n ∧ (chL n).getD ((chL n).length - 1) 0 = 4 := by
  obtain ⟨r, hr⟩ := chL_head n
  obtain ⟨h1, h2, _, _⟩ := chL_facts n hn
  refine ⟨by rw [hr]; simp, h1, by rw [hr]; rfl, ?_⟩
  rw [List.getLast?_eq_getElem?] at h2
  rw [List.getD_eq_getElem?_getD, h2]; rfl
theorem toI_get (l : List Nat) (i : Nat) : (toI l).getD i 0 = ((l.getD i 0 : Nat) : Int) := by
  simp only [toI, List.getD_eq_getElem?_getD, List.getElem?_map]
  cases l[i]? <;> rfl
theorem fwK_has (c : UInt8) : ∀ f n m, fwK c f n = some m → 0 < (ltN m).count c ∧ m < n + f
  | 0, n, m, h => by simp [fwK] at h
  | f + 1, n, m, h => by
    rw [fwK] at h
    split at h
    · rename_i hc
      simp at h; subst h
      exact ⟨hc, by omega⟩
    · have := fwK_has c f (n + 1) m h
      exact ⟨this.1, by omega⟩
theorem fwR_has {s : List UInt8} {m : Nat} (h : fwR s = some m) : m < 1000000 ∧ letB s = true ∧ 0 < (ltN m).count (s.getD 0 0) := by
  unfold fwR at h
  split at h
  · rename_i hl
    have := fwK_has _ _ _ _ h
    exact ⟨by omega, hl, this.1⟩
  · cases h
end Go.Proofs.YtlcbdmmmafpchaaDoor
