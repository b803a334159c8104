/- Something is changed again and again until it comes again: the plain loop, bounded by a number that tells all that can come. No condition. -/
import Derived.Test.YtkdoghopbefjfaaT1
namespace Go.Proofs.Ytkdoghopbefjfaa
open Go.RowKit Go.BigFrame
set_option linter.unusedSimpArgs false
set_option linter.unusedVariables false

theorem nodup_lt : ∀ (N : Nat) (l : List Nat), l.Nodup → (∀ x ∈ l, x < N) → l.length ≤ N
  | 0, l, _, h => by
    cases l with
    | nil => simp
    | cons a r => have := h a List.mem_cons_self; omega
  | N + 1, l, hn, h => by
    by_cases hm : N ∈ l
    · have h1 := nodup_lt N (l.erase N) (hn.erase N) (fun x hx => by
        have h2 := (List.Nodup.mem_erase_iff hn).1 hx
        have := h x h2.2
        have := h2.1
        omega)
      rw [List.length_erase_of_mem hm] at h1
      omega
    · have := nodup_lt N l hn (fun x hx => by
        have h1 := h x hx
        have : x ≠ N := fun e => hm (e ▸ hx)
        omega)
      omega
theorem nodup_map {α β : Type} (c : α → β) : ∀ (l : List α), l.Nodup → (∀ x ∈ l, ∀ y ∈ l, c x = c y → x = y) → (l.map c).Nodup
  | [], _, _ => by simp
  | a :: r, hn, h => by
    rw [List.nodup_cons] at hn
    rw [List.map_cons, List.nodup_cons]
    refine ⟨fun hm => ?_, nodup_map c r hn.2 (fun x hx y hy => h x (List.mem_cons_of_mem _ hx) y (List.mem_cons_of_mem _ hy))⟩
    obtain ⟨b, hb, e⟩ := List.mem_map.1 hm
    have := h b (List.mem_cons_of_mem _ hb) a List.mem_cons_self e
    subst this
    exact hn.1 hb
/-- Different things with different numbers below N are at most N. -/
theorem nodup_code {α : Type} (c : α → Nat) (N : Nat) (l : List α) (hn : l.Nodup) (hc : ∀ x ∈ l, ∀ y ∈ l, c x = c y → x = y) (hN : ∀ x ∈ l, c x < N) : l.length ≤ N := by
  have := nodup_lt N (l.map c) (nodup_map c l hn hc) (fun x hx => by
    obtain ⟨a, ha, rfl⟩ := List.mem_map.1 hx
    exact hN a ha)
  simpa using this

/-- Nine numbers below ten as one number. -/
def code9 (ts : List Nat) : Nat := ts.foldr (fun n r => n + 10 * r) 0
theorem code9_inj : ∀ (ps qs : List Nat), ps.length = qs.length → (∀ n ∈ ps, n ≤ 9) → (∀ n ∈ qs, n ≤ 9) → code9 ps = code9 qs → ps = qs
  | [], [], _, _, _, _ => rfl
  | [], b :: r, h, _, _, _ => by simp at h
  | a :: r, [], h, _, _, _ => by simp at h
  | a :: r, b :: s, h, ha, hb, hc => by
    have h1 := ha a List.mem_cons_self
    have h2 := hb b List.mem_cons_self
    simp only [code9, List.foldr_cons] at hc
    have e1 : a = b := by omega
    have e2 : code9 r = code9 s := by simp only [code9]; omega
    rw [e1, code9_inj r s (by simpa using h) (fun n hn => ha n (List.mem_cons_of_mem _ hn)) (fun n hn => hb n (List.mem_cons_of_mem _ hn)) e2]
theorem code9_lt : ∀ (ps : List Nat), (∀ n ∈ ps, n ≤ 9) → code9 ps < 10 ^ ps.length
  | [], _ => by simp [code9]
  | a :: r, h => by
    have h1 := h a List.mem_cons_self
    have h2 := code9_lt r (fun n hn => h n (List.mem_cons_of_mem _ hn))
    simp only [code9, List.foldr_cons, List.length_cons, Nat.pow_succ] at *
    omega

section
variable {α : Type}
/-- The place of a thing in a list; behind all if it is not there. -/
def posL [DecidableEq α] (x : α) : List α → Nat
  | [] => 0
  | a :: r => if a = x then 0 else posL x r + 1
/-- What comes until something comes again, and at which place that was; nothing if a change fails. -/
def loopF [DecidableEq α] (f : α → Option α) : Nat → List α → α → Option (List α × Nat)
  | 0, _, _ => none
  | n + 1, way, x => if x ∈ way then some (way, posL x way) else match f x with
    | none => none
    | some y => loopF f n (way ++ [x]) y
/-- The way so far: each is the change of the one before. -/
structure Way (f : α → Option α) (x0 : α) (way : List α) (x : α) : Prop where
  nodup : way.Nodup
  head : way = [] → x = x0
  first : ∀ a, way[0]? = some a → a = x0
  step : ∀ i a b, way[i]? = some a → way[i + 1]? = some b → f a = some b
  last : ∀ a, way.getLast? = some a → f a = some x
theorem way_nil (f : α → Option α) (x0 : α) : Way f x0 [] x0 := ⟨by simp, fun _ => rfl, by simp, by simp, by simp⟩
theorem way_snoc {f : α → Option α} {x0 x y : α} {way : List α} (h : Way f x0 way x) (hx : x ∉ way) (hf : f x = some y) : Way f x0 (way ++ [x]) y := by
  refine ⟨?_, by simp, ?_, ?_, by simpa using hf⟩
  · rw [List.nodup_append]
    exact ⟨h.nodup, by simp, fun a ha b hb e => by simp at hb; subst hb; subst e; exact hx ha⟩
  · intro a ha
    cases hw : way with
    | nil => rw [hw] at ha; simp at ha; rw [← ha]; exact h.head hw
    | cons b r => rw [hw] at ha; simp at ha; exact h.first a (by rw [hw]; simpa using ha)
  · intro i a b ha hb
    rcases snoc_get hb with hb | ⟨hi, rfl⟩
    · have := get_lt hb
      rw [List.getElem?_append_left (by omega)] at ha
      exact h.step i a b ha hb
    · rw [List.getElem?_append_left (by omega)] at ha
      refine h.last a ?_
      rw [List.getLast?_eq_getElem?, show way.length - 1 = i from by omega]
      exact ha
/-- All but the first one is what a change has made. -/
theorem way_made {f : α → Option α} {x0 x : α} {way : List α} (h : Way f x0 way x) : ∀ a ∈ way, a = x0 ∨ ∃ b, f b = some a := by
  intro a ha
  obtain ⟨i, hi⟩ := List.mem_iff_getElem?.1 ha
  cases i with
  | zero => exact .inl (h.first a hi)
  | succ i =>
    have := get_lt hi
    exact .inr ⟨way[i]'(by omega), h.step i _ a (List.getElem?_eq_getElem (by omega)) hi⟩
/-- Where all that changes make has numbers below N of its own, a way has at most N + 1. -/
theorem way_len {f : α → Option α} {x0 x : α} {way : List α} (h : Way f x0 way x) (c : α → Nat) (N : Nat)
    (hc : ∀ a b u v, f a = some u → f b = some v → c u = c v → u = v) (hN : ∀ a u, f a = some u → c u < N) : way.length ≤ N + 1 := by
  cases hw : way with
  | nil => simp
  | cons a r =>
    have hn := h.nodup
    rw [hw, List.nodup_cons] at hn
    have hr : ∀ u ∈ r, ∃ b, f b = some u := by
      intro u hu
      obtain ⟨i, hi⟩ := List.mem_iff_getElem?.1 hu
      have := get_lt hi
      refine ⟨way[i]'(by rw [hw]; simp; omega), h.step i _ u (List.getElem?_eq_getElem _) (by rw [hw]; simpa using hi)⟩
    have := nodup_code c N r hn.2 (fun u hu v hv e => by
      obtain ⟨x, hx⟩ := hr u hu
      obtain ⟨y, hy⟩ := hr v hv
      exact hc x y u v hx hy e) (fun u hu => by obtain ⟨x, hx⟩ := hr u hu; exact hN x u hx)
    simp
    omega
end
end Go.Proofs.Ytkdoghopbefjfaa
