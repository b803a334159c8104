/- The library's stable sort: stableCmpFunc, SortStableFunc. -/
import Derived.Test.YtlcbdmmmafpchaaDoors9
import Derived.Test.YtlcbdmmmafpchaaDoorsb
namespace Go.Proofs.YtlcbdmmmafpchaaDoor
open Go.RowKit Go.BigFrame
set_option linter.unusedSimpArgs false
set_option linter.unusedVariables false
set_option maxRecDepth 4000

theorem pass_init {lt : Int → Int → Bool} {X : List Int} {u : Nat} (hu : 0 < u) : Pass lt X 1 u 0 X := by
  refine ⟨rfl, fun k hk => ?_, fun i _ hX _ => ?_⟩
  · have : 0 < (k + 1) * u := Nat.mul_pos (by omega) hu
    omega
  · rw [Nat.min_eq_left (by omega)]
    refine ⟨?_, List.Perm.refl _⟩
    have hl := chk_len X i (i + 1) (by omega)
    rw [show i + 1 - i = 1 by omega] at hl
    obtain ⟨x, hx⟩ := List.length_eq_one_iff.1 hl
    rw [hx]; exact List.pairwise_singleton _ _
theorem drop_chk (X : List Int) (a e : Nat) (hae : a ≤ e) (he : e ≤ X.length) : X.drop a = chk X a e ++ X.drop e := by
  have h := chk_cut X a e hae he
  have h2 : X.take a ++ X.drop a = X.take a ++ (chk X a e ++ X.drop e) := by
    rw [List.take_append_drop, ← List.append_assoc]; exact h
  exact List.append_cancel_left h2
theorem chk_pw {X : List Int} (h : X.Pairwise (fun x y => x < y)) (i j : Nat) : (chk X i j).Pairwise (fun x y => x < y) := h.sublist ((List.drop_sublist _ _).trans (List.take_sublist _ _))
theorem chk_mem {X : List Int} {i j : Nat} : ∀ x ∈ chk X i j, x ∈ X := fun x hx => List.take_subset _ _ (List.drop_subset _ _ hx)

theorem sym_in {b n c : Nat} {D : Int → Prop} {lt : Int → Int → Bool} {X xs : List Int} {s u a m e : Nat} (h : Pass lt X s u a xs) (hX : X.Pairwise (fun x y => x < y)) (hD : ∀ x ∈ X, D x) (hn : n = X.length) (hs : 0 < s) (hm : m = a + s) (hme : m < e) (he : e = min (a + s + s) n)
    (n4 : n ≤ 4000) (cap : n ≤ c) (max : c ≤ maxLen) : SymIn b n c D lt (xs.take a) (chk xs a m) (chk xs m e) (xs.drop e) a m e ∧ (chk xs a m).Perm (chk X a m) ∧ (chk xs m e).Perm (chk X m e) ∧ xs = xs.take a ++ chk xs a m ++ chk xs m e ++ xs.drop e := by
  have hl := h.len
  have o1 := h.todo a (Nat.le_refl _) (by omega) ⟨0, by omega⟩
  have o2 := h.todo m (by omega) (by omega) ⟨1, by omega⟩
  rw [show min (a + s) X.length = m by omega] at o1
  rw [show min (m + s) X.length = e by omega] at o2
  have c1 := chk_len xs a m (by omega)
  have c2 := chk_len xs m e (by omega)
  have ct : (xs.take a).length = a := by rw [List.length_take]; omega
  refine ⟨⟨ct.symm, by omega, by omega, by rw [List.length_drop]; omega, by omega, by omega, o1.1, o2.1, okc_less hX o1.2 o2.2 (by omega) (by omega) (by omega), fun x hx => hD x (chk_sub o1.2 x hx), fun x hx => hD x (chk_sub o2.2 x hx), n4, cap, max⟩, o1.2, o2.2, ?_⟩
  rw [List.append_assoc (xs.take a), ← chk_join xs a m e (by omega) (by omega) (by omega)]
  exact chk_cut xs a e (by omega) (by omega)
theorem sym_step {lt : Int → Int → Bool} {X xs S : List Int} {s u a m e : Nat} (h : Pass lt X s u a xs) (hu : u = s + s) (hs : 0 < s) (hm : m = a + s) (he : e = a + u) (hen : e ≤ X.length) (hq : ∃ q, a = q * u) (p1 : (chk xs a m).Perm (chk X a m)) (p2 : (chk xs m e).Perm (chk X m e))
    (hS : Mrg lt (chk xs a m) (chk xs m e) S) : Pass lt X s u e (xs.take a ++ S ++ xs.drop e) := by
  have hl := h.len
  have c1 := chk_len xs a m (by omega)
  have c2 := chk_len xs m e (by omega)
  have ct : (xs.take a).length = a := by rw [List.length_take]; omega
  have hSl := mrg_len hS
  have hcut : xs = xs.take a ++ chk xs a e ++ xs.drop e := chk_cut xs a e (by omega) (by omega)
  rw [hcut] at h
  have hc := chk_len xs a e (by omega)
  have hp := mrg_chk hS p1 p2 (by omega) (by omega) hen
  rw [he] at hp
  have := pass_step (S' := S) h (by omega) ⟨2, by omega⟩ ct.symm hq (by omega) (by omega) hS.1 hp
  rw [← he] at this; exact this
theorem sym_last {lt : Int → Int → Bool} {X xs S : List Int} {s u a m e : Nat} (h : Pass lt X s u a xs) (hu : u = s + s) (hs : 0 < s) (hm : m = a + s) (hme : m < e) (he : e = X.length) (hb : X.length < a + u) (hq : ∃ q, a = q * u) (p1 : (chk xs a m).Perm (chk X a m)) (p2 : (chk xs m e).Perm (chk X m e))
    (hS : Mrg lt (chk xs a m) (chk xs m e) S) : Full lt X u (xs.take a ++ S ++ xs.drop e) := by
  have hl := h.len
  have c1 := chk_len xs a m (by omega)
  have c2 := chk_len xs m e (by omega)
  have ct : (xs.take a).length = a := by rw [List.length_take]; omega
  have hSl := mrg_len hS
  have hd : xs.drop e = [] := List.drop_of_length_le (by omega)
  have hcut : xs = xs.take a ++ chk xs a e ++ xs.drop e := chk_cut xs a e (by omega) (by omega)
  rw [hd] at hcut ⊢
  rw [hcut] at h
  have hc := chk_len xs a e (by omega)
  have hp := mrg_chk hS p1 p2 (by omega) (by omega) (by omega)
  rw [he] at hp
  exact full_last (S' := S) h (by omega) hq ct.symm (by omega) hb hS.1 hp
theorem sym_none {lt : Int → Int → Bool} {X xs : List Int} {s u a : Nat} (h : Pass lt X s u a xs) (hu : u = s + s) (hs : 0 < s) (ha : a ≤ X.length) (hm : X.length ≤ a + s) (hq : ∃ q, a = q * u) : Full lt X u xs := by
  refine pass_end h (by omega) hq ha (by omega) ?_
  by_cases e : a = X.length
  · rw [e]; exact okc_empty h.len
  · have := h.todo a (Nat.le_refl _) (by omega) ⟨0, by omega⟩
    rw [show min (a + s) X.length = X.length by omega] at this
    exact this
end Go.Proofs.YtlcbdmmmafpchaaDoor
