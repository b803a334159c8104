/- Low words: what the library's Trim, TrimPrefix and TrimSuffix make of them (pure). -/
import Derived.Test.YtkjmocdhhndlgaaGreatDoorMA
import Derived.Lib.Strings
import Derived.Lib.SlTrimSet
namespace Go.Proofs.YtkjmocdhhndlgaaGreatDoor
set_option linter.unusedSimpArgs false
set_option linter.unusedVariables false

theorem all_of_drop {p : UInt8 → Bool} : ∀ (xs : List UInt8), (∀ x ∈ xs.dropWhile p, p x = true) → ∀ x ∈ xs, p x = true
  | [], _, x, h => by simp at h
  | a :: t, h, x, hx => by
    by_cases ha : p a = true
    · rw [List.dropWhile_cons_of_pos ha] at h
      rw [List.mem_cons] at hx
      rcases hx with rfl | hx
      · exact ha
      · exact all_of_drop t h x hx
    · rw [List.dropWhile_cons_of_neg ha] at h
      exact h x hx
theorem drop_of_all {p : UInt8 → Bool} : ∀ (xs : List UInt8), (∀ x ∈ xs, p x = true) → xs.dropWhile p = []
  | [], _ => rfl
  | a :: t, h => by rw [List.dropWhile_cons_of_pos (h a (by simp))]; exact drop_of_all t (fun x hx => h x (by simp [hx]))
theorem all_of_nil {p : UInt8 → Bool} : ∀ (xs : List UInt8), xs.dropWhile p = [] → ∀ x ∈ xs, p x = true
  | [], _, x, h => by simp at h
  | a :: t, h, x, hx => by
    by_cases ha : p a = true
    · rw [List.dropWhile_cons_of_pos ha] at h
      rw [List.mem_cons] at hx
      rcases hx with rfl | hx
      · exact ha
      · exact all_of_nil t h x hx
    · rw [List.dropWhile_cons_of_neg ha] at h; cases h
theorem set_on (c : UInt8) : ([49, 50] : List UInt8).contains c = onB c := by
  unfold onB
  simp only [List.contains_cons, List.contains_nil, Bool.or_false]
theorem trim_low (l : List UInt8) : Go.Lib.trimS l [49, 50] = [] ↔ l.all onB = true := by
  unfold Go.Lib.trimS Go.Lib.trimLeftS Go.Lib.trimRightS
  constructor
  · intro h
    have h1 := all_of_nil _ h
    have h2 : ∀ x ∈ l.reverse.dropWhile (([49, 50] : List UInt8).contains ·), ([49, 50] : List UInt8).contains x = true := fun x hx => h1 x (List.mem_reverse.2 hx)
    have h3 := all_of_drop _ h2
    rw [List.all_eq_true]
    intro x hx
    rw [← set_on]
    exact h3 x (List.mem_reverse.2 hx)
  · intro h
    rw [List.all_eq_true] at h
    have h1 : l.reverse.dropWhile (([49, 50] : List UInt8).contains ·) = [] := drop_of_all _ (fun x hx => by rw [set_on]; exact h x (List.mem_reverse.1 hx))
    rw [h1]; rfl
theorem trimPrefix_one (l : List UInt8) : Go.Lib.trimPrefix l [49] = cutF l := by
  unfold Go.Lib.trimPrefix Go.Lib.hasPrefix cutF
  cases l with
  | nil => rfl
  | cons c t =>
    by_cases h : c = 49
    · subst h; rfl
    · have h2 : ¬ ((49 : UInt8) = c) := fun e => h e.symm
      simp [List.isPrefixOf, h, h2]
theorem trimSuffix_one (l : List UInt8) : Go.Lib.trimSuffix l [49] = cutB l := by
  unfold Go.Lib.trimSuffix Go.Lib.hasSuffix cutB
  rcases list_cases_snoc l with rfl | ⟨pre, c, rfl⟩
  · rfl
  · by_cases h : c = 49
    · subst h; simp [List.isSuffixOf, List.isPrefixOf]
    · have h2 : ¬ ((49 : UInt8) = c) := fun e => h e.symm
      simp [List.isSuffixOf, List.isPrefixOf, h, h2]
end Go.Proofs.YtkjmocdhhndlgaaGreatDoor
