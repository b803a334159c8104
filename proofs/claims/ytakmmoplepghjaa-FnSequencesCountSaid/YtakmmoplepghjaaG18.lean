/- Sums of rows of a sequence; a number and the one before it, bit by bit. -/
import Derived.Test.YtakmmoplepghjaaG13
import Derived.Test.YtakmmoplepghjaaG14
import Derived.Deep.DeepCutAuto
namespace Go.Proofs.Ytakmmoplepghjaa
open Go.RowKit Go.BigFrame Go.Deep
set_option linter.unusedSimpArgs false
set_option linter.unusedVariables false
set_option maxRecDepth 4000

theorem and_below (K : Nat) (h1 : 1 ≤ K) (h2 : K ≤ 3000) : bits .and .i64 (K : Int) ((K : Int) - 1) = ((Nat.land K (K - 1) : Nat) : Int) := by
  have := (bits_nat .i64 62 (by decide) (fun n h₀ h₁ => by rw [IntKind.wrap_i64]; omega) K (K - 1) (by omega) (by omega)).1
  rw [show ((K : Int) - 1) = ((K - 1 : Nat) : Int) by omega]
  exact this
theorem seqL_sum (f : Nat → Nat) : ∀ N : Nat, (seqL (fun i => f (i + 1)) N).sum = ((allS' 1 N f : Nat) : Int)
  | 0 => rfl
  | N + 1 => by rw [seqL_succ, List.sum_append, seqL_sum f N, allS'_succ, Nat.add_comm 1 N]; simp
theorem seqL_in (f : Nat → Nat) (N : Nat) (h : ∀ i, 1 ≤ i → i ≤ N → f i ≤ 1000000) : ∀ x ∈ seqL (fun i => f (i + 1)) N, 0 ≤ x ∧ x ≤ 1000000 := by
  intro x hx
  obtain ⟨i, hi, rfl⟩ := List.mem_map.1 hx
  have := h (i + 1) (by omega) (by have := List.mem_range.1 hi; omega)
  show 0 ≤ ((f (i + 1) : Nat) : Int) ∧ ((f (i + 1) : Nat) : Int) ≤ 1000000
  omega

end Go.Proofs.Ytakmmoplepghjaa
