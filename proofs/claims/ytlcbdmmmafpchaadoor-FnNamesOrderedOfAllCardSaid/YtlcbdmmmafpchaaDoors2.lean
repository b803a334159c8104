/- Sorting, pure: what the halves of a symmerge are; sorted halves joined; one element laid into its place. -/
import Derived.Test.YtlcbdmmmafpchaaDoors1
namespace Go.Proofs.YtlcbdmmmafpchaaDoor
open Go.RowKit
set_option linter.unusedSimpArgs false
set_option linter.unusedVariables false
set_option maxRecDepth 4000

section
variable {lt : Int → Int → Bool}
/-- S is what two sorted parts give. -/
def Mrg (lt : Int → Int → Bool) (L M S : List Int) : Prop := Srt lt S ∧ S.Perm (L ++ M)
theorem mrg_nil_left {M : List Int} (h : Srt lt M) : Mrg lt [] M M := ⟨h, by simp⟩
theorem mrg_nil_right {L : List Int} (h : Srt lt L) : Mrg lt L [] L := ⟨h, by simp⟩
theorem mrg_len {L M S : List Int} (h : Mrg lt L M S) : S.length = L.length + M.length := by rw [h.2.length_eq, List.length_append]
/-- Two merged halves, all of the first ahead of all of the second. -/
theorem mrg_join {L M S1 S2 : List Int} (s e : Nat) (h1 : Mrg lt (L.take s) (M.take e) S1) (h2 : Mrg lt (L.drop s) (M.drop e) S2) (hx : ∀ x ∈ L.take s ++ M.take e, ∀ y ∈ L.drop s ++ M.drop e, lt x y = true) : Mrg lt L M (S1 ++ S2) := by
  refine ⟨srt_append.2 ⟨h1.1, h2.1, fun x hx' y hy => hx x (h1.2.subset hx') y (h2.2.subset hy)⟩, ?_⟩
  refine (h1.2.append h2.2).trans ?_
  have e1 : L ++ M = L.take s ++ L.drop s ++ (M.take e ++ M.drop e) := by rw [List.take_append_drop, List.take_append_drop]
  rw [e1, List.append_assoc, List.append_assoc]
  refine List.Perm.append_left _ ?_
  rw [← List.append_assoc, ← List.append_assoc]
  exact List.Perm.append_right _ List.perm_append_comm
/-- One element of the left part laid into the right one. -/
theorem mrg_one_left {x : Int} {M : List Int} (hM : Srt lt M) (o : Ord1 lt) (i : Nat) (hi : i ≤ M.length) (h1 : i = 0 ∨ ∃ (a : i - 1 < M.length), lt M[i - 1] x = true) (h2 : i = M.length ∨ ∃ (a : i < M.length), lt x M[i] = true) : Mrg lt [x] M (M.take i ++ x :: M.drop i) := by
  have hL : Srt lt [x] := List.pairwise_singleton _ _
  have hp : ∀ y ∈ M.take i, lt y x = true := by
    intro y hy
    obtain ⟨j, hj, rfl⟩ := List.mem_iff_getElem.1 hy
    rw [List.length_take] at hj
    rw [List.getElem_take]
    rcases h1 with h1 | ⟨a, h1⟩
    · omega
    · rcases Nat.lt_or_ge j (i - 1) with h | h
      · exact o.tr _ _ _ (srt_at hM j (i - 1) h a) h1
      · have e : j = i - 1 := by omega
        subst e; exact h1
  have hq : ∀ y ∈ M.drop i, lt x y = true := by
    intro y hy
    obtain ⟨j, hj, rfl⟩ := List.mem_iff_getElem.1 hy
    rw [List.length_drop] at hj
    rw [List.getElem_drop]
    rcases h2 with h2 | ⟨a, h2⟩
    · omega
    · rcases Nat.eq_zero_or_pos j with h | h
      · subst h; exact h2
      · exact o.tr _ _ _ h2 (srt_at hM i (i + j) (by omega) (by omega))
  have hpq : ∀ y ∈ M.take i, ∀ z ∈ M.drop i, lt y z = true := fun y hy z hz => o.tr _ _ _ (hp y hy) (hq z hz)
  refine ⟨srt_append.2 ⟨hM.sublist (List.take_sublist _ _), List.pairwise_cons.2 ⟨hq, hM.sublist (List.drop_sublist _ _)⟩, fun y hy z hz => ?_⟩, ?_⟩
  · rcases List.mem_cons.1 hz with rfl | hz
    · exact hp y hy
    · exact hpq y hy z hz
  · refine List.perm_middle.trans ?_
    rw [List.take_append_drop]; exact List.Perm.refl _
theorem mrg_one_right {x : Int} {L : List Int} (hL : Srt lt L) (o : Ord1 lt) (i : Nat) (hi : i ≤ L.length) (h1 : i = 0 ∨ ∃ (a : i - 1 < L.length), lt L[i - 1] x = true) (h2 : i = L.length ∨ ∃ (a : i < L.length), lt x L[i] = true) : Mrg lt L [x] (L.take i ++ x :: L.drop i) := by
  obtain ⟨a, b⟩ := mrg_one_left hL o i hi h1 h2
  exact ⟨a, b.trans List.perm_append_comm⟩
/-- What the search in the middle ends with, in the parts' own places. n = mid + m; the left part lies at a, the right one at m. -/
theorem mid_ends {L M : List Int} (o : Ord1 lt) (a m b s : Nat) (hL : L.length = m - a) (hM : M.length = b - m) (ham : a < m) (hmb : m < b)
    (hs0 : (if (a + b) / 2 < m then (a + b) / 2 + m - b else a) ≤ s) (hr0 : s ≤ (if (a + b) / 2 < m then (a + b) / 2 else m))
    (h1 : (if (a + b) / 2 < m then (a + b) / 2 + m - b else a) < s → ∃ (p : s - 1 - a < L.length) (q : (a + b) / 2 + m - 1 - (s - 1) - m < M.length), lt L[s - 1 - a] M[(a + b) / 2 + m - 1 - (s - 1) - m] = true)
    (h2 : s < (if (a + b) / 2 < m then (a + b) / 2 else m) → ∃ (p : s - a < L.length) (q : (a + b) / 2 + m - 1 - s - m < M.length), lt M[(a + b) / 2 + m - 1 - s - m] L[s - a] = true)
    (sL : Srt lt L) (sM : Srt lt M) :
    ∀ x ∈ L.take (s - a) ++ M.take ((a + b) / 2 - s), ∀ y ∈ L.drop (s - a) ++ M.drop ((a + b) / 2 - s), lt x y = true := by
  have hd1 : 2 * ((a + b) / 2) ≤ a + b := by omega
  have hd2 : a + b ≤ 2 * ((a + b) / 2) + 1 := by omega
  generalize (a + b) / 2 = d at *
  by_cases hc : d < m
  · rw [if_pos hc] at hs0 hr0 h1 h2
    refine mid_parts sL sM (s - a) (d - s) (by omega) (by omega) ?_ ?_ o
    · by_cases e : s = d + m - b
      · right; left; omega
      · right; right
        obtain ⟨p, q, h⟩ := h1 (by omega)
        refine ⟨by omega, by omega, ?_⟩
        have e1 : s - a - 1 = s - 1 - a := by omega
        have e2 : d - s = d + m - 1 - (s - 1) - m := by omega
        rw [getElem_congr_idx e1, getElem_congr_idx e2]; exact h
    · by_cases e : s = d
      · right; left; omega
      · right; right
        obtain ⟨p, q, h⟩ := h2 (by omega)
        refine ⟨by omega, by omega, ?_⟩
        have e2 : d - s - 1 = d + m - 1 - s - m := by omega
        rw [getElem_congr_idx e2]; exact h
  · rw [if_neg hc] at hs0 hr0 h1 h2
    refine mid_parts sL sM (s - a) (d - s) (by omega) (by omega) ?_ ?_ o
    · by_cases e : s = a
      · left; omega
      · right; right
        obtain ⟨p, q, h⟩ := h1 (by omega)
        refine ⟨by omega, by omega, ?_⟩
        have e1 : s - a - 1 = s - 1 - a := by omega
        have e2 : d - s = d + m - 1 - (s - 1) - m := by omega
        rw [getElem_congr_idx e1, getElem_congr_idx e2]; exact h
    · by_cases e : s = m
      · left; omega
      · right; right
        obtain ⟨p, q, h⟩ := h2 (by omega)
        refine ⟨by omega, by omega, ?_⟩
        have e2 : d - s - 1 = d + m - 1 - s - m := by omega
        rw [getElem_congr_idx e2]; exact h
end
end Go.Proofs.YtlcbdmmmafpchaaDoor
