/- The library's stable sort, pure: blocks of one size, each sorted; blocks merged two by two. -/
import Derived.Test.YtlcbdmmmafpchaaDoors2
namespace Go.Proofs.YtlcbdmmmafpchaaDoor
open Go.RowKit
set_option linter.unusedSimpArgs false
set_option linter.unusedVariables false
set_option maxRecDepth 4000

/-- The part of a list from place i to place j. -/
def chk (xs : List Int) (i j : Nat) : List Int := (xs.take j).drop i
theorem chk_len (xs : List Int) (i j : Nat) (h : j ≤ xs.length) : (chk xs i j).length = j - i := by unfold chk; rw [List.length_drop, List.length_take]; omega
theorem chk_before (P S S' Q : List Int) (i j : Nat) (h : j ≤ P.length) : chk (P ++ S ++ Q) i j = chk (P ++ S' ++ Q) i j := by
  unfold chk
  rw [List.append_assoc, List.append_assoc, List.take_append_of_le_length h, List.take_append_of_le_length h]
theorem chk_behind (P S S' Q : List Int) (i j : Nat) (hl : S.length = S'.length) (h : P.length + S.length ≤ i) : chk (P ++ S ++ Q) i j = chk (P ++ S' ++ Q) i j := by
  unfold chk
  rw [List.drop_take, List.drop_take, List.append_assoc, List.append_assoc]
  congr 1
  rw [List.drop_append, List.drop_append, List.drop_append, List.drop_append, List.drop_of_length_le (show S.length ≤ i - P.length by omega), List.drop_of_length_le (show S'.length ≤ i - P.length by omega), hl]
theorem chk_here (P S Q : List Int) (i j : Nat) (hi : i = P.length) (hj : j = P.length + S.length) : chk (P ++ S ++ Q) i j = S := by
  unfold chk
  rw [List.take_append_of_le_length (by rw [List.length_append]; omega), List.take_of_length_le (by rw [List.length_append]; omega), hi]; simp
/-- A list cut at two places. -/
theorem chk_cut (xs : List Int) (i j : Nat) (hij : i ≤ j) (hj : j ≤ xs.length) : xs = xs.take i ++ chk xs i j ++ xs.drop j := by
  unfold chk
  have e : xs.take i = (xs.take j).take i := by rw [List.take_take, Nat.min_eq_left hij]
  rw [e, List.take_append_drop, List.take_append_drop]
theorem chk_join (xs : List Int) (i j k : Nat) (hij : i ≤ j) (hjk : j ≤ k) (hk : k ≤ xs.length) : chk xs i k = chk xs i j ++ chk xs j k := by
  unfold chk
  have e : xs.take k = xs.take j ++ (xs.take k).drop j := by
    have : xs.take j = (xs.take k).take j := by rw [List.take_take, Nat.min_eq_left hjk]
    rw [this, List.take_append_drop]
  conv => lhs; rw [e]
  rw [List.drop_append, List.length_take, show i - min j xs.length = 0 by omega, List.drop_zero]
/-- A part is sorted, and holds what lay there at the start. -/
def Okc (lt : Int → Int → Bool) (X xs : List Int) (i j : Nat) : Prop := Srt lt (chk xs i j) ∧ (chk xs i j).Perm (chk X i j)
/-- Between two steps of a pass: ahead of a all is in blocks of u, from a on in blocks of s. -/
structure Pass (lt : Int → Int → Bool) (X : List Int) (s u a : Nat) (xs : List Int) : Prop where
  len : xs.length = X.length
  done : ∀ k, (k + 1) * u ≤ a → Okc lt X xs (k * u) ((k + 1) * u)
  todo : ∀ i, a ≤ i → i < X.length → (∃ k, i = a + k * s) → Okc lt X xs i (min (i + s) X.length)
theorem okc_before {lt : Int → Int → Bool} {X P S S' Q : List Int} {i j : Nat} (h : j ≤ P.length) (hk : Okc lt X (P ++ S ++ Q) i j) : Okc lt X (P ++ S' ++ Q) i j := by
  unfold Okc at *
  rw [chk_before P S' S Q i j h]; exact hk
theorem okc_behind {lt : Int → Int → Bool} {X P S S' Q : List Int} {i j : Nat} (hl : S.length = S'.length) (h : P.length + S.length ≤ i) (hk : Okc lt X (P ++ S ++ Q) i j) : Okc lt X (P ++ S' ++ Q) i j := by
  unfold Okc at *
  rw [← chk_behind P S S' Q i j hl h]; exact hk
/-- A block of u written at a: all that lies ahead and behind is as it was. -/
theorem pass_step {lt : Int → Int → Bool} {X P S S' Q : List Int} {s u a : Nat} (h : Pass lt X s u a (P ++ S ++ Q)) (hu : 0 < u) (hsu : ∃ q, u = q * s) (ha : a = P.length) (hm : ∃ q, a = q * u) (hl : S.length = u) (hl' : S'.length = u) (h1 : Srt lt S') (h2 : S'.Perm (chk X a (a + u))) :
    Pass lt X s u (a + u) (P ++ S' ++ Q) := by
  have hlen : (P ++ S' ++ Q).length = X.length := by
    rw [← h.len]; simp only [List.length_append]; omega
  refine ⟨hlen, fun k hk => ?_, fun i hi hX ⟨k, hk⟩ => ?_⟩
  · by_cases hka : (k + 1) * u ≤ a
    · exact okc_before (by omega) (h.done k hka)
    · obtain ⟨q, hq⟩ := hm
      have e : k = q := by
        have a1 : q < k + 1 := by
          refine Nat.lt_of_mul_lt_mul_right (a := u) ?_
          omega
        have a2 : k + 1 ≤ q + 1 := by
          refine Nat.le_of_mul_le_mul_right (c := u) ?_ hu
          rw [Nat.add_mul q 1, Nat.one_mul]; omega
        omega
      subst e
      have e2 : (k + 1) * u = a + u := by rw [Nat.add_mul, Nat.one_mul, hq]
      rw [e2, ← hq]
      unfold Okc
      rw [chk_here P S' Q a (a + u) ha (by omega)]
      exact ⟨h1, h2⟩
  · obtain ⟨q, hq⟩ := hsu
    exact okc_behind (by omega) (by omega) (h.todo i (by omega) hX ⟨q + k, by rw [hk, hq, Nat.add_mul]; omega⟩)
end Go.Proofs.YtlcbdmmmafpchaaDoor
