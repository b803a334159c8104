/- Sorting, pure: exchanged parts; the merge of two sorted parts by turning their middles (symmerge); no condition but an order. -/
import Derived.Test.YtlcbdmmmafpchaaDoorMA
namespace Go.Proofs.YtlcbdmmmafpchaaDoor
open Go.RowKit
set_option linter.unusedSimpArgs false
set_option linter.unusedVariables false
set_option maxRecDepth 4000

/-- Two places exchanged. -/
def swpL (xs : List Int) (i j : Nat) : List Int := (xs.set i (xs.getD j 0)).set j (xs.getD i 0)
theorem getD_mid (A : List Int) (u : Int) (B : List Int) : (A ++ u :: B).getD A.length 0 = u := by simp [List.getD]
theorem swpL_parts (A B C : List Int) (u v : Int) (i j : Nat) (hi : i = A.length) (hj : j = A.length + 1 + B.length) : swpL (A ++ u :: (B ++ v :: C)) i j = A ++ v :: (B ++ u :: C) := by
  subst hi
  unfold swpL
  have e1 : (A ++ u :: (B ++ v :: C)).getD j 0 = v := by
    have := getD_mid (A ++ u :: B) v C
    rw [show (A ++ u :: B).length = j by simp; omega] at this
    simpa using this
  have e2 : (A ++ u :: (B ++ v :: C)).getD A.length 0 = u := getD_mid _ _ _
  rw [e1, e2, List.set_append_right _ _ (Nat.le_refl _), Nat.sub_self, List.set_cons_zero, List.set_append_right _ _ (by omega)]
  rw [show j - A.length = B.length + 1 by omega, List.set_cons_succ, List.set_append_right _ _ (Nat.le_refl _), Nat.sub_self, List.set_cons_zero]
theorem swpL_len (xs : List Int) (i j : Nat) : (swpL xs i j).length = xs.length := by simp [swpL]
/-- Two parts of one length, the first k of them exchanged. -/
def swpK (P U X V Q : List Int) (k : Nat) : List Int := P ++ V.take k ++ U.drop k ++ X ++ U.take k ++ V.drop k ++ Q
theorem swpK_zero (P U X V Q : List Int) : swpK P U X V Q 0 = P ++ U ++ X ++ V ++ Q := by simp [swpK]
theorem swpK_all (P U X V Q : List Int) (h : U.length = V.length) : swpK P U X V Q V.length = P ++ V ++ X ++ U ++ Q := by
  unfold swpK
  rw [List.take_length, List.drop_length, ← h, List.take_length, List.drop_length]; simp
theorem swpK_step (P U X V Q : List Int) (k a b : Nat) (h : U.length = V.length) (hk : k < U.length) (ha : a = P.length) (hb : b = P.length + U.length + X.length) : swpL (swpK P U X V Q k) (a + k) (b + k) = swpK P U X V Q (k + 1) := by
  have hkv : k < V.length := by omega
  have eU : U.drop k = U[k] :: U.drop (k + 1) := List.drop_eq_getElem_cons hk
  have eV : V.drop k = V[k] :: V.drop (k + 1) := List.drop_eq_getElem_cons hkv
  have e1 : swpK P U X V Q k = (P ++ V.take k) ++ U[k] :: ((U.drop (k + 1) ++ X ++ U.take k) ++ V[k] :: (V.drop (k + 1) ++ Q)) := by
    unfold swpK; rw [eU, eV]; simp only [List.append_assoc, List.cons_append, List.nil_append]
  rw [e1, swpL_parts _ _ _ _ _ _ _ (by simp; omega) (by simp; omega)]
  unfold swpK
  rw [List.take_succ_eq_append_getElem hk, List.take_succ_eq_append_getElem hkv]; simp only [List.append_assoc, List.cons_append, List.nil_append]

/-! ### An order -/
section
variable (lt : Int → Int → Bool)
structure Ord1 : Prop where
  irr : ∀ x, lt x x = false
  tr : ∀ x y z, lt x y = true → lt y z = true → lt x z = true
  tot : ∀ x y, x ≠ y → lt x y = true ∨ lt y x = true
variable {lt}
theorem Ord1.asym (o : Ord1 lt) {x y : Int} (h : lt x y = true) : lt y x = false := by
  cases e : lt y x with
  | false => rfl
  | true => have := o.tr x y x h e; rw [o.irr] at this; cases this
/-- Sorted. -/
def Srt (lt : Int → Int → Bool) (xs : List Int) : Prop := xs.Pairwise (fun x y => lt x y = true)
theorem srt_append {xs ys : List Int} : Srt lt (xs ++ ys) ↔ Srt lt xs ∧ Srt lt ys ∧ ∀ x ∈ xs, ∀ y ∈ ys, lt x y = true := List.pairwise_append
theorem srt_at {xs : List Int} (h : Srt lt xs) (i j : Nat) (hij : i < j) (hj : j < xs.length) : lt (xs[i]'(by omega)) xs[j] = true := List.pairwise_iff_getElem.1 h i j (by omega) hj hij
/-- Two sorted lists of the same things are the same. -/
theorem srt_unique (o : Ord1 lt) : ∀ {xs ys : List Int}, Srt lt xs → Srt lt ys → xs.Perm ys → xs = ys
  | [], ys, _, _, h => (List.nil_perm.1 h).symm
  | x :: xs, [], _, _, h => absurd (List.perm_nil.1 h) (by simp)
  | x :: xs, y :: ys, h1, h2, h => by
    have a1 := List.pairwise_cons.1 h1
    have a2 := List.pairwise_cons.1 h2
    have hx : x ∈ y :: ys := h.subset (by simp)
    have hy : y ∈ x :: xs := h.symm.subset (by simp)
    have e : x = y := by
      rcases List.mem_cons.1 hx with e | hx
      · exact e
      · rcases List.mem_cons.1 hy with e | hy
        · exact e.symm
        · have := o.asym (a1.1 y hy)
          rw [a2.1 x hx] at this; cases this
    subst e
    rw [srt_unique o a1.2 a2.2 (List.perm_cons x |>.1 h)]
/-- What the merge finds in the middle: behind s of the left part and ahead of e of the right part stand those that change sides. -/
theorem mid_parts {L M : List Int} (hL : Srt lt L) (hM : Srt lt M) (s e : Nat) (hs : s ≤ L.length) (he : e ≤ M.length)
    (h1 : s = 0 ∨ e = M.length ∨ ∃ (a : s - 1 < L.length) (b : e < M.length), lt L[s - 1] M[e] = true)
    (h2 : s = L.length ∨ e = 0 ∨ ∃ (a : s < L.length) (b : e - 1 < M.length), lt M[e - 1] L[s] = true) (o : Ord1 lt) :
    ∀ x ∈ L.take s ++ M.take e, ∀ y ∈ L.drop s ++ M.drop e, lt x y = true := by
  have le : ∀ {xs : List Int}, Srt lt xs → ∀ (i j : Nat) (hi : i < xs.length) (hj : j < xs.length), i ≤ j → xs[i] = xs[j] ∨ lt xs[i] xs[j] = true := fun h i j hi hj hij => by
    rcases Nat.lt_or_ge i j with h' | h'
    · exact .inr (srt_at h i j h' hj)
    · obtain rfl : i = j := by omega
      exact .inl rfl
  have three : ∀ {a b c d : Int}, (a = b ∨ lt a b = true) → lt b c = true → (c = d ∨ lt c d = true) → lt a d = true := fun h1 h2 h3 => by
    rcases h1 with rfl | h1 <;> rcases h3 with rfl | h3
    · exact h2
    · exact o.tr _ _ _ h2 h3
    · exact o.tr _ _ _ h1 h2
    · exact o.tr _ _ _ (o.tr _ _ _ h1 h2) h3
  intro x hx y hy
  rcases List.mem_append.1 hx with hx | hx <;> rcases List.mem_append.1 hy with hy | hy
  all_goals
    obtain ⟨i, hi, rfl⟩ := List.mem_iff_getElem.1 hx
    obtain ⟨j, hj, rfl⟩ := List.mem_iff_getElem.1 hy
    rw [List.length_take] at hi
    rw [List.length_drop] at hj
    rw [List.getElem_take, List.getElem_drop]
  · exact srt_at hL i (s + j) (by omega) (by omega)
  · rcases h1 with h1 | h1 | ⟨p, q, h1⟩
    · omega
    · omega
    · exact three (le hL i (s - 1) (by omega) p (by omega)) h1 (le hM e (e + j) q (by omega) (by omega))
  · rcases h2 with h2 | h2 | ⟨p, q, h2⟩
    · omega
    · omega
    · exact three (le hM i (e - 1) (by omega) q (by omega)) h2 (le hL s (s + j) p (by omega) (by omega))
  · exact srt_at hM i (e + j) (by omega) (by omega)
end
end Go.Proofs.YtlcbdmmmafpchaaDoor
