/- OwnWord, OwnDigit: the model's, the program's, the laws. -/
import Derived.Test.YtkjmocdhhndlgaaGreatDoorO4
namespace Go.Proofs.YtkjmocdhhndlgaaGreatDoor
open Go.RowKit Go.BigFrame Go.Shelf
set_option linter.unusedSimpArgs false
set_option linter.unusedVariables false
set_option maxRecDepth 4000

theorem sgL_num (x : Nat) (h : x ≤ 9) : numL x = [sgn x] := by rw [numL_one x (by omega)]; rfl
theorem ownW_nine {a b n most : Int} (h : askB a b n most = true) : ∀ x ∈ ownW a b n, 1 ≤ x ∧ x ≤ 9 := fun x hx => by
  obtain ⟨⟨h1, h2, _⟩, _⟩ := askB_iff.1 h
  rcases gOwn_mem a.toNat b.toNat n.toNat x hx with e | e <;> omega
theorem ownW_len {a b n most : Int} (h : askB a b n most = true) : (ownW a b n).length = n.toNat := by
  obtain ⟨⟨h1, h2, _⟩, _⟩ := askB_iff.1 h
  exact gOwn_len _ _ _ (by omega) (by omega)
theorem ruOwn_ask (a b n most : Int) (w : World) (h : askB a b n most = true) (hm : most ≤ 100000) :
    Calls Tryz.prog 58 #[.int .i64 a, .int .i64 b, .int .i64 n] w fun e w' => ∃ v, e = .returned v ∧ NumsAt w' w.heap.size v (ownW a b n) ∧ Below w.heap.size w w' := by
  obtain ⟨⟨h1, h2, _⟩, h3⟩ := askB_iff.1 h
  obtain ⟨A, rfl⟩ : ∃ A : Nat, a = (A : Int) := ⟨a.toNat, by omega⟩
  obtain ⟨B, rfl⟩ : ∃ B : Nat, b = (B : Int) := ⟨b.toNat, by omega⟩
  obtain ⟨N, rfl⟩ : ∃ N : Nat, n = (N : Int) := ⟨n.toNat, by omega⟩
  have := ruOwn_any A B N w (by omega) (by omega) (by omega) (by omega)
  simpa [ownW] using this

/-- The digit at the place that is asked. -/
def ownDg (a b n : Int) : Nat := (ownW a b n).getD (n.toNat - 1) 0
end Go.Proofs.YtkjmocdhhndlgaaGreatDoor
