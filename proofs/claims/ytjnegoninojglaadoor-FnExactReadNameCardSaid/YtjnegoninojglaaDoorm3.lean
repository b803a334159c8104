/- Chapter 8 (pure): chains of numbers of letters. -/
import Derived.Test.YtjnegoninojglaaDoorm1
namespace Go.Proofs.YtjnegoninojglaaDoor
open Go.RowKit
set_option linter.unusedSimpArgs false
set_option linter.unusedVariables false
set_option maxRecDepth 4000

def ltlen (n : Nat) : Nat := (ltN n).length
def chF : Nat → Nat → List Nat
  | 0, _ => []
  | k + 1, n => n :: if n = 4 then [] else chF k (ltlen n)
/-- The chain of a number. -/
def chL (n : Nat) : List Nat := chF 12 n
theorem ch_tab : ∀ n, n < 65 → (chF 11 n).length ≤ 10 ∧ (chF 11 n).getLast? = some 4 ∧ (chF 11 n).Nodup ∧ (∀ x ∈ chF 11 n, x < 65) ∧ chF 12 n = chF 11 n := by decide +kernel
theorem ltlen_le (n : Nat) (h : n < 1000000) : ltlen n < 65 := Nat.lt_succ_of_le (ltN_len n h)
theorem ltlen4 : ltlen 4 = 4 := by decide +kernel
theorem chL_four : chL 4 = [4] := by decide +kernel
/-- The chain goes on as that of the number of letters. -/
theorem chL_step (n : Nat) (h : n < 1000000) (h4 : n ≠ 4) : chL n = n :: chL (ltlen n) := by
  have := (ch_tab (ltlen n) (ltlen_le n h)).2.2.2.2
  unfold chL
  rw [this]
  show n :: (if n = 4 then [] else chF 11 (ltlen n)) = _
  rw [if_neg h4]
theorem chL_head (n : Nat) : ∃ r, chL n = n :: r := ⟨_, rfl⟩
theorem chL_facts (n : Nat) (h : n < 1000000) : (chL n).length ≤ 11 ∧ (chL n).getLast? = some 4 ∧ (chL n).Nodup ∧ ∀ x ∈ chL n, x < 1000000 := by
  by_cases h4 : n = 4
  · subst h4; rw [chL_four]; decide
  · obtain ⟨t1, t2, t3, t4, t5⟩ := ch_tab (ltlen n) (ltlen_le n h)
    rw [chL_step n h h4]
    have hc : chL (ltlen n) = chF 11 (ltlen n) := t5
    rw [hc]
    refine ⟨by simp; exact t1, ?_, ?_, ?_⟩
    · rw [List.getLast?_cons, t2]; rfl
    · rw [List.nodup_cons]
      refine ⟨fun hm => ?_, t3⟩
      have hn := t4 n hm
      obtain ⟨u1, u2, u3, u4, u5⟩ := ch_tab n hn
      have e : chF 12 n = n :: chF 11 (ltlen n) := by
        show n :: (if n = 4 then [] else chF 11 (ltlen n)) = _
        rw [if_neg h4]
      rw [← u5, e, List.nodup_cons] at u3
      exact u3.1 hm
    · intro x hx
      rcases List.mem_cons.1 hx with rfl | hx
      · exact h
      · have := t4 x hx; omega
/-- On the way: what is left of a chain. -/
theorem chain_on {P : List Nat} {x n : Nat} (hn : n < 1000000) (hR : chL n = P ++ chL x) : x < 1000000 ∧ x ∉ P ∧ P.length < 11 ∧ (x ≠ 4 → chL n = (P ++ [x]) ++ chL (ltlen x)) ∧ (x = 4 → chL n = P ++ [4]) := by
  obtain ⟨h1, h2, h3, h4⟩ := chL_facts n hn
  obtain ⟨r, hr⟩ := chL_head x
  have hx : x < 1000000 := h4 x (by rw [hR, hr]; simp)
  refine ⟨hx, fun hm => ?_, ?_, fun hne => ?_, fun he => ?_⟩
  · rw [hR, hr, List.nodup_append] at h3
    exact h3.2.2 x hm x (by simp) rfl
  · rw [hR, hr, List.length_append, List.length_cons] at h1; omega
  · rw [hR, chL_step x hx hne]; simp
  · rw [hR, he, chL_four]
theorem four_at (n : Nat) (hn : n < 1000000) : ∀ (P : List Nat), chL n = P ++ [4] → 4 ∉ P := by
  intro P hP hm
  obtain ⟨_, _, h3, _⟩ := chL_facts n hn
  rw [hP, List.nodup_append] at h3
  exact h3.2.2 4 hm 4 (by simp) rfl
end Go.Proofs.YtjnegoninojglaaDoor
