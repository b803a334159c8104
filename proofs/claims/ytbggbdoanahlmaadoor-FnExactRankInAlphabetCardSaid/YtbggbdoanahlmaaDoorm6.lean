/- Chapter 8 (pure): '-' struck out of a text, as strings.ReplaceAll does it; words put together. -/
import Derived.Test.YtbggbdoanahlmaaDoorm2
import Derived.Lib.Replace
import Derived.Lib.IndexBytes
import Derived.Lib.Join
namespace Go.Proofs.YtbggbdoanahlmaaDoor
open Go.RowKit
set_option linter.unusedSimpArgs false
set_option linter.unusedVariables false
set_option maxRecDepth 4000

theorem idxB_mem {c : UInt8} : ∀ {l : List UInt8}, c ∈ l → ∃ m : Nat, ∃ hm : m < l.length, Go.Lib.indexByte l c = (m : Int) ∧ l[m] = c ∧ (∀ x ∈ l.take m, x ≠ c) ∧ l.count c = (l.drop (m + 1)).count c + 1
  | [], h => by simp at h
  | a :: t, h => by
    by_cases e : a = c
    · refine ⟨0, by simp, by simp [Go.Lib.indexByte, e], by simpa using e, fun x hx => by simp at hx, by simp [e]⟩
    · have ht : c ∈ t := by
        rcases List.mem_cons.1 h with h | h
        · exact absurd h.symm e
        · exact h
      obtain ⟨m, hm, h1, h2, h3, h4⟩ := idxB_mem ht
      refine ⟨m + 1, by simpa using hm, ?_, by simpa using h2, fun x hx => ?_, ?_⟩
      · simp only [Go.Lib.indexByte, h1]
        have : ¬ (m : Int) < 0 := by omega
        simp [e, this]
      · rw [List.take_succ_cons, List.mem_cons] at hx
        rcases hx with rfl | hx
        · exact e
        · exact h3 x hx
      · rw [List.count_cons_of_ne (fun x => e x)]
        simpa using h4
theorem idxB_not {c : UInt8} : ∀ {l : List UInt8}, c ∉ l → Go.Lib.indexByte l c = -1
  | [], _ => by simp [Go.Lib.indexByte]
  | a :: t, h => by
    have h1 : ¬ a = c := fun e => h (by simp [e])
    have h2 : c ∉ t := fun e => h (by simp [e])
    simp [Go.Lib.indexByte, idxB_not h2, h1]
theorem count_one (c : UInt8) : ∀ (f : Nat) (s : List UInt8), s.length < f → Go.Lib.countFrom [c] f s = s.count c
  | 0, s, h => by omega
  | f + 1, s, h => by
    unfold Go.Lib.countFrom
    rw [Go.Lib.index_one]
    by_cases hm : c ∈ s
    · obtain ⟨m, hl, h1, h2, h3, h4⟩ := idxB_mem hm
      have : ¬ ((m : Int) == -1) = true := fun e => by have := beq_iff_eq.1 e; omega
      rw [h1, if_neg this, h4, List.length_singleton, show ((m : Int).toNat + 1) = m + 1 by omega, count_one c f _ (by rw [List.length_drop]; omega), Nat.add_comm]
    · rw [idxB_not hm, if_pos (by decide), List.count_eq_zero.2 hm]
theorem replaceK_strike (c : UInt8) : ∀ (k : Nat) (s : List UInt8), s.count c = k → Go.Lib.replaceK [c] [] k s = s.filter (fun x => x != c)
  | 0, s, h => by
    show s = _
    refine (List.filter_eq_self.2 fun x hx => ?_).symm
    have := List.count_eq_zero.1 h
    have : x ≠ c := fun e => this (e ▸ hx)
    simpa using this
  | k + 1, s, h => by
    have hm : c ∈ s := List.count_pos_iff.1 (by omega)
    obtain ⟨m, hl, h1, h2, h3, h4⟩ := idxB_mem hm
    rw [Go.Lib.replaceK_hit [c] [] k s m (by rw [Go.Lib.index_one, h1]), List.length_singleton, replaceK_strike c k (s.drop (m + 1)) (by omega), List.append_nil]
    conv => rhs; rw [← List.take_append_drop m s, List.drop_eq_getElem_cons hl, h2]
    rw [List.filter_append, List.filter_cons]
    simp only [bne_self_eq_false, Bool.false_eq_true, if_false]
    have hf : (s.take m).filter (fun x => x != c) = s.take m := List.filter_eq_self.2 (fun x hx => by simpa using h3 x hx)
    rw [hf]
theorem lib_strike (c : UInt8) (s : List UInt8) : Go.Lib.replaceAll s [c] [] = s.filter (fun x => x != c) := by
  unfold Go.Lib.replaceAll Go.Lib.replace
  rw [if_neg (by simp)]
  unfold Go.Lib.replaceNum
  rw [if_pos (by left; decide)]
  unfold Go.Lib.count
  rw [count_one c _ s (by omega)]
  exact replaceK_strike c _ s rfl
theorem strike_len (c : UInt8) (s : List UInt8) : Go.Lib.count s [c] = s.count c := by
  unfold Go.Lib.count
  rw [count_one c _ s (by omega)]
end Go.Proofs.YtbggbdoanahlmaaDoor
