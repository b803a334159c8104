/- The library's stable sort, pure: passes begun and ended. -/
import Derived.Test.YtlcbdmmmafpchaaDoorsa
namespace Go.Proofs.YtlcbdmmmafpchaaDoor
open Go.RowKit
set_option linter.unusedSimpArgs false
set_option linter.unusedVariables false
set_option maxRecDepth 4000

/-- All in blocks of s. -/
def Full (lt : Int → Int → Bool) (X : List Int) (s : Nat) (xs : List Int) : Prop := xs.length = X.length ∧ ∀ k, k * s < X.length → Okc lt X xs (k * s) (min (k * s + s) X.length)
theorem full_all {lt : Int → Int → Bool} {X xs : List Int} {s : Nat} (h : Full lt X s xs) (hs : X.length ≤ s) (h0 : 0 < X.length) : Srt lt xs ∧ xs.Perm X := by
  have := h.2 0 (by simpa using h0)
  rw [Nat.zero_mul, Nat.zero_add, Nat.min_eq_right hs] at this
  unfold Okc chk at this
  rw [List.drop_zero, List.drop_zero, List.take_of_length_le (by rw [h.1]; exact Nat.le_refl _), List.take_of_length_le (Nat.le_refl _)] at this
  exact this
theorem pass_start {lt : Int → Int → Bool} {X xs : List Int} {s u : Nat} (h : Full lt X s xs) (hu : 0 < u) : Pass lt X s u 0 xs := by
  refine ⟨h.1, fun k hk => ?_, fun i _ hX ⟨k, hk⟩ => ?_⟩
  · have : 0 < (k + 1) * u := Nat.mul_pos (by omega) hu
    omega
  · rw [Nat.zero_add] at hk
    subst hk
    exact h.2 k hX
theorem pass_end {lt : Int → Int → Bool} {X xs : List Int} {s u a : Nat} (h : Pass lt X s u a xs) (hu : 0 < u) (hm : ∃ q, a = q * u) (ha : a ≤ X.length) (hb : X.length < a + u) (ho : Okc lt X xs a X.length) : Full lt X u xs := by
  refine ⟨h.len, fun k hk => ?_⟩
  obtain ⟨q, hq⟩ := hm
  have e1 : (k + 1) * u = k * u + u := by rw [Nat.add_mul, Nat.one_mul]
  by_cases hka : (k + 1) * u ≤ a
  · rw [Nat.min_eq_left (by omega), ← e1]
    exact h.done k hka
  · have e : k = q := by
      have a1 : q < k + 1 := Nat.lt_of_mul_lt_mul_right (a := u) (by omega)
      have a2 : k < q + 1 := by
        refine Nat.lt_of_mul_lt_mul_right (a := u) ?_
        rw [Nat.add_mul q 1, Nat.one_mul]; omega
      omega
    subst e
    rw [← hq, Nat.min_eq_right (by omega)]
    exact ho
theorem okc_less {X L M : List Int} {a m e : Nat} (hX : X.Pairwise (fun x y => x < y)) (hL : L.Perm (chk X a m)) (hM : M.Perm (chk X m e)) (ham : a ≤ m) (hme : m ≤ e) (he : e ≤ X.length) : ∀ x ∈ L, ∀ y ∈ M, x < y := by
  intro x hx y hy
  have hj := chk_join X a m e ham hme he
  have hp : (chk X a e).Pairwise (fun x y => x < y) := hX.sublist ((List.drop_sublist _ _).trans (List.take_sublist _ _))
  rw [hj] at hp
  exact (List.pairwise_append.1 hp).2.2 x (hL.subset hx) y (hM.subset hy)
theorem mrg_chk {lt : Int → Int → Bool} {X L M S : List Int} {a m e : Nat} (h : Mrg lt L M S) (hL : L.Perm (chk X a m)) (hM : M.Perm (chk X m e)) (ham : a ≤ m) (hme : m ≤ e) (he : e ≤ X.length) : S.Perm (chk X a e) := by
  rw [chk_join X a m e ham hme he]
  exact h.2.trans (hL.append hM)
theorem chk_sub {X L : List Int} {a m : Nat} (hL : L.Perm (chk X a m)) : ∀ x ∈ L, x ∈ X := fun x hx => List.take_subset _ _ (List.drop_subset _ _ (hL.subset hx))
/-- The last part of a pass, where it has been merged or sorted. -/
theorem okc_last {lt : Int → Int → Bool} {X P S : List Int} {a : Nat} (ha : a = P.length) (hn : X.length = P.length + S.length) (h1 : Srt lt S) (h2 : S.Perm (chk X a X.length)) : Okc lt X (P ++ S ++ []) a X.length := by
  unfold Okc
  rw [chk_here P S [] a X.length ha hn]
  exact ⟨h1, h2⟩
theorem okc_empty {lt : Int → Int → Bool} {X xs : List Int} (hl : xs.length = X.length) : Okc lt X xs X.length X.length := by
  have e1 : chk xs X.length X.length = [] := List.eq_nil_of_length_eq_zero (by rw [chk_len _ _ _ (by omega)]; omega)
  have e2 : chk X X.length X.length = [] := List.eq_nil_of_length_eq_zero (by rw [chk_len _ _ _ (by omega)]; omega)
  unfold Okc
  rw [e1, e2]
  exact ⟨List.Pairwise.nil, List.Perm.refl _⟩
/-- Full follows where the last part has been written anew. -/
theorem full_last {lt : Int → Int → Bool} {X P S S' : List Int} {s u a : Nat} (h : Pass lt X s u a (P ++ S ++ [])) (hu : 0 < u) (hm : ∃ q, a = q * u) (ha : a = P.length) (hl : S'.length = S.length) (hb : X.length < a + u) (h1 : Srt lt S') (h2 : S'.Perm (chk X a X.length)) : Full lt X u (P ++ S' ++ []) := by
  have hn : X.length = P.length + S.length := by rw [← h.len]; simp
  refine ⟨by rw [hn]; simp [hl], fun k hk => ?_⟩
  obtain ⟨q, hq⟩ := hm
  have e1 : (k + 1) * u = k * u + u := by rw [Nat.add_mul, Nat.one_mul]
  by_cases hka : (k + 1) * u ≤ a
  · rw [Nat.min_eq_left (by omega), ← e1]
    exact okc_before (by omega) (h.done k hka)
  · have e : k = q := by
      have a1 : q < k + 1 := Nat.lt_of_mul_lt_mul_right (a := u) (by omega)
      have a2 : k < q + 1 := by
        refine Nat.lt_of_mul_lt_mul_right (a := u) ?_
        rw [Nat.add_mul q 1, Nat.one_mul]; omega
      omega
    subst e
    rw [← hq, Nat.min_eq_right (by omega)]
    exact okc_last ha (by omega) h1 h2
end Go.Proofs.YtlcbdmmmafpchaaDoor
