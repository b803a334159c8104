/- Chapter 7: texts cut at one byte (pure); the model's l1Split; the library's Cut and Split at one byte. -/
import Derived.Test.YtampjipbemmicaaDoor7V
import Derived.Deep.QuietTactic
import Derived.BigQuiet
namespace Go.Proofs.YtampjipbemmicaaDoor
open Go.RowKit Go.BigFrame
set_option linter.unusedSimpArgs false
set_option linter.unusedVariables false
set_option maxRecDepth 4000

/-- A text cut at each c. -/
def splitL (c : UInt8) : List UInt8 → List (List UInt8)
  | [] => [[]]
  | a :: t => if a = c then [] :: splitL c t else match splitL c t with
    | h :: r => (a :: h) :: r
    | [] => [[a]]
theorem splitL_ne (c : UInt8) : ∀ l, splitL c l ≠ []
  | [] => by simp [splitL]
  | a :: t => by
    rw [splitL]
    split
    · simp
    · split <;> simp
theorem splitL_not {c : UInt8} : ∀ {l : List UInt8}, c ∉ l → splitL c l = [l]
  | [], _ => rfl
  | a :: t, h => by
    have h1 : ¬ a = c := fun e => h (by simp [e])
    have h2 : c ∉ t := fun e => h (by simp [e])
    rw [splitL, if_neg h1, splitL_not h2]
theorem splitL_one {c : UInt8} : ∀ {l b : List UInt8}, splitL c l = [b] → c ∉ l ∧ b = l
  | [], b, h => by simp [splitL] at h; exact ⟨by simp, h⟩
  | a :: t, b, h => by
    rw [splitL] at h
    by_cases h1 : a = c
    · rw [if_pos h1] at h
      have := splitL_ne c t
      simp at h
      exact absurd h.2 this
    · rw [if_neg h1] at h
      cases hs : splitL c t with
      | nil => exact absurd hs (splitL_ne c t)
      | cons x r =>
        rw [hs] at h
        simp at h
        obtain ⟨i1, i2⟩ := splitL_one (l := t) (b := x) (by rw [hs, h.2])
        refine ⟨fun e => ?_, by rw [← h.1, i2]⟩
        rcases List.mem_cons.1 e with e | e
        · exact h1 e.symm
        · exact i1 e
/-- The first c. -/
theorem splitL_at {c : UInt8} : ∀ {l : List UInt8} (k : Nat) (hk : k < l.length), l[k] = c → (∀ j (hj : j < l.length), j < k → l[j] ≠ c) → splitL c l = l.take k :: splitL c (l.drop (k + 1))
  | [], k, hk, _, _ => by simp at hk
  | a :: t, 0, _, h, _ => by
    simp at h
    rw [splitL, if_pos h]; simp
  | a :: t, k + 1, hk, h, hn => by
    have h0 : ¬ a = c := hn 0 (by simp) (by omega)
    have ih := splitL_at (c := c) (l := t) k (by simpa using hk) (by simpa using h) (fun j hj hjk => hn (j + 1) (by simpa using hj) (by omega))
    rw [splitL, if_neg h0, ih]
    simp
theorem indexByte_mem {c : UInt8} : ∀ {l : List UInt8}, c ∈ l → ∃ m : Nat, ∃ hm : m < l.length, Go.Lib.indexByte l c = (m : Int) ∧ l[m] = c ∧ (∀ j (hj : j < l.length), j < m → l[j] ≠ c) ∧ l.count c = (l.drop (m + 1)).count c + 1
  | [], h => by simp at h
  | a :: t, h => by
    by_cases e : a = c
    · refine ⟨0, by simp, by simp [Go.Lib.indexByte, e], by simpa using e, fun j _ hj => by omega, by simp [e]⟩
    · have ht : c ∈ t := by
        rcases List.mem_cons.1 h with h | h
        · exact absurd h.symm e
        · exact h
      obtain ⟨m, hm, h1, h2, h3, h4⟩ := indexByte_mem ht
      refine ⟨m + 1, by simpa using hm, ?_, by simpa using h2, fun j hj hjm => ?_, ?_⟩
      · simp only [Go.Lib.indexByte, h1]
        have : ¬ (m : Int) < 0 := by omega
        simp [e, this]
      · match j, hj, hjm with
        | 0, _, _ => exact e
        | j + 1, hj, hjm => exact h3 j (by simpa using hj) (by omega)
      · rw [List.count_cons_of_ne (fun x => e x)]
        simpa using h4
theorem indexByte_not {c : UInt8} : ∀ {l : List UInt8}, c ∉ l → Go.Lib.indexByte l c = -1
  | [], _ => by simp [Go.Lib.indexByte]
  | a :: t, h => by
    have h1 : ¬ a = c := fun e => h (by simp [e])
    have h2 : c ∉ t := fun e => h (by simp [e])
    simp [Go.Lib.indexByte, indexByte_not h2, h1]
theorem splitL_len (c : UInt8) : ∀ l, (splitL c l).length = l.count c + 1
  | [] => rfl
  | a :: t => by
    have ih := splitL_len c t
    rw [splitL]
    by_cases e : a = c
    · rw [if_pos e, List.length_cons, ih, e, List.count_cons_self]
    · rw [if_neg e, List.count_cons_of_ne (fun x => e x)]
      cases hs : splitL c t with
      | nil => exact absurd hs (splitL_ne c t)
      | cons x r => rw [hs] at ih; simpa using ih
/-- All letters of the parts, and the cuts between them. -/
theorem splitL_total (c : UInt8) : ∀ l, szT (splitL c l) + (splitL c l).length = l.length + 1
  | [] => by simp [splitL, szT]
  | a :: t => by
    have ih := splitL_total c t
    rw [splitL]
    by_cases e : a = c
    · rw [if_pos e]
      have : szT ([] :: splitL c t) = szT (splitL c t) := by simp [szT]
      rw [this, List.length_cons, List.length_cons]; omega
    · rw [if_neg e]
      cases hs : splitL c t with
      | nil => exact absurd hs (splitL_ne c t)
      | cons x r =>
        rw [hs] at ih
        have e1 : szT (x :: r) = x.length + szT r := by simp [szT]
        have e2 : szT ((a :: x) :: r) = x.length + 1 + szT r := by simp [szT]
        show szT ((a :: x) :: r) + _ = _
        rw [e2, List.length_cons, List.length_cons]
        rw [e1, List.length_cons] at ih
        omega
end Go.Proofs.YtampjipbemmicaaDoor
