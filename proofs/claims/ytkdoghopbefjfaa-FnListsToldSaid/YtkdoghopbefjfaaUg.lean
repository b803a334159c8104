/- Helpers of the law FnListsTold: rows at hand, the explicit self-told lists. -/
import Derived.Test.YtkdoghopbefjfaaUb
import Derived.Test.YtkdoghopbefjfaaUc
import Derived.Test.YtkdoghopbefjfaaUd
import Derived.Test.YtkdoghopbefjfaaQ9
namespace Go.Proofs.Ytkdoghopbefjfaa
open Go.RowKit Go.BigFrame
set_option linter.unusedSimpArgs false
set_option linter.unusedVariables false
set_option maxRecDepth 4000

theorem ra_at {w : World} {B : Nat} {v : Value} {vs : List Value} {nss : List (List Int)} {N : Nat} (h : IntsRA w B v vs nss) (hN : nss.length = N) (h1 : 1 ≤ N) :
    ∃ g cap, v = .slice (some ⟨g, 0, none⟩) N cap ∧ N ≤ 9223372036854775807 ∧ cap ≤ 9223372036854775807 ∧ g < w.heap.size ∧ ∀ k (hk : k < nss.length), ∃ u, IntsA w B u nss[k] ∧ w.cell? ⟨g, k, none⟩ = some u := by
  rcases intsRA_open h with ⟨_, e⟩ | ⟨g, cap, e1, e2, e3, e4, _, e5⟩
  · subst e; simp at hN; omega
  · rw [hN] at e1 e2
    refine ⟨g, cap, e1, e2, e3, e4, fun k hk => ?_⟩
    obtain ⟨u, _, q2, q3⟩ := e5 k hk
    exact ⟨u, q2, q3⟩
theorem ti_at {ns : List Nat} {i x : Nat} (h : ns[i]? = some x) : ∃ hi : i < (ti ns).length, (ti ns)[i] = (x : Int) := by
  obtain ⟨hi, e⟩ := List.getElem?_eq_some_iff.1 h
  refine ⟨by rw [ti_len]; exact hi, ?_⟩
  simp [ti, e]
theorem argT_at {w : World} {N : Nat} {v : Value} {ns : List Nat} (h : ArgL w v (ti ns)) (hN : ns.length = N) (h1 : 1 ≤ N) :
    ∃ g o cap, v = .slice (some ⟨g, o, none⟩) N cap ∧ N ≤ cap ∧ cap ≤ 9223372036854775807 ∧ g < w.heap.size ∧ ∀ i x, ns[i]? = some x → w.cell? ⟨g, o + i, none⟩ = some (.int .i64 ((x : Nat) : Int)) := by
  obtain ⟨g, o, cap, e1, e2, e3, e4, e5⟩ := argL_at h (by rw [ti_len]; omega)
  rw [ti_len, hN] at e1 e2
  refine ⟨g, o, cap, e1, e2, e3, e4, fun i x hx => ?_⟩
  obtain ⟨hi, e⟩ := ti_at hx
  rw [e5 i hi, e]
theorem intsT_at {w : World} {B N : Nat} {v : Value} {ns : List Nat} (h : IntsA w B v (ti ns)) (hN : ns.length = N) (h1 : 1 ≤ N) :
    ∃ g cap, v = .slice (some ⟨g, 0, none⟩) N cap ∧ N ≤ cap ∧ cap ≤ 9223372036854775807 ∧ g < w.heap.size ∧ ∀ i x, ns[i]? = some x → w.cell? ⟨g, i, none⟩ = some (.int .i64 ((x : Nat) : Int)) := by
  obtain ⟨g, cap, e1, e2, e3, _, e4, e5⟩ := intsA_at h (by rw [ti_len]; omega)
  rw [ti_len, hN] at e1 e2
  refine ⟨g, cap, e1, e2, e3, e4, fun i x hx => ?_⟩
  obtain ⟨hi, e⟩ := ti_at hx
  rw [e5 i hi, e]
theorem fSame_self (w : World) (va vb : Value) (xs : List Int) (ha : ArgL w va xs) (hb : ArgL w vb xs) :
    Calls Try.prog 18 #[va, vb] w fun e w' => e = .returned (.bool true) ∧ Below w.heap.size w w' := by
  have h := fSame_any w va vb xs xs ha hb
  rw [decide_eq_true rfl] at h
  exact h.mono fun e w' ⟨h1, m, hm⟩ => ⟨h1, hm ▸ belowN _ _ _⟩
theorem ti_iff {ps qs : List Nat} : decide (ti ps = ti qs) = decide (ps = qs) := by
  by_cases h : ps = qs
  · rw [decide_eq_true h, h]; exact decide_eq_true rfl
  · rw [decide_eq_false h]; exact decide_eq_false (fun e => h (ti_inj e))
theorem tellO_some (xs : List Int) : (tellO xs).isSome = tolL xs := by unfold tellO; cases tolL xs <;> rfl
theorem loopTO_some (K : Nat) (hK : 1000000010 ≤ K) (xs : List Int) : (loopTO K xs).isSome = tolL xs := by
  cases h : tolL xs with
  | false => rw [loopTO_bad h]; rfl
  | true =>
    obtain ⟨ns, rfl, h1, h9, hle⟩ := tolL_nat h
    obtain ⟨p, c, _, _, h2, _⟩ := tell_loop h1 h9 hle K hK
    exact h2
theorem ti_toNat (ns : List Nat) : (ti ns).map Int.toNat = ns := by
  unfold ti
  rw [List.map_map]
  exact List.map_id ns
/-! ### The self-told lists one by one -/
def selChk (n : Nat) : Nat → List Nat → List (List Nat) → Bool
  | _, _, [] => true
  | i, p, l :: t => selfB (ti l) && tolL (ti l) && decide (l.length = n) && (decide (i = 0) || lesT (ti p) (ti l)) && selChk n (i + 1) l t
theorem selChk_at (n : Nat) : ∀ (l : List (List Nat)) (i : Nat) (p : List Nat), selChk n i p l = true → ∀ j (h : j < l.length), selfB (ti l[j]) = true ∧ tolL (ti l[j]) = true ∧ l[j].length = n ∧ (∀ hj : 0 < j, lesT (ti (l[j - 1]'(Nat.lt_of_le_of_lt (Nat.sub_le _ _) h))) (ti l[j]) = true) ∧ (j = 0 → 0 < i → lesT (ti p) (ti l[j]) = true)
  | [], _, _, _, j, h => absurd h (Nat.not_lt_zero _)
  | x :: t, i, p, hc, j, h => by
    unfold selChk at hc
    simp only [Bool.and_eq_true, decide_eq_true_eq, Bool.or_eq_true] at hc
    obtain ⟨⟨⟨⟨h1, h2⟩, h3⟩, h4⟩, h5⟩ := hc
    cases j with
    | zero => exact ⟨h1, h2, h3, fun hj => absurd hj (by omega), fun _ hi => by rcases h4 with e | e; (· omega); (· exact e)⟩
    | succ k =>
      obtain ⟨q1, q2, q3, q4, q5⟩ := selChk_at n t (i + 1) x h5 k (by simpa using h)
      refine ⟨q1, q2, q3, fun _ => ?_, fun e => by omega⟩
      cases k with
      | zero => exact q5 rfl (by omega)
      | succ m => exact q4 (by omega)
theorem selE_chk : ∀ n : Fin 10, selChk n 0 [] (selE n) = true := by decide +kernel
theorem selE_head : ∀ n : Fin 10, 7 ≤ n.val → (selE n).length = 1 ∧ ((selE n).getD 0 [])[0]? = some (n.val - 4) ∧ ((selE n).getD 0 [])[1]? = some 2 ∧ ((selE n).getD 0 [])[2]? = some 1 ∧ ((selE n).getD 0 [])[n.val - 4]? = some 1 := by decide +kernel
theorem selE_none : ∀ n : Fin 10, n.val < 4 → (selE n).length = 0 := by decide +kernel
theorem selE_few : ∀ n : Fin 10, (selE n).length ≤ 2 := by decide +kernel
theorem selfO_is {n : Nat} (h1 : 1 ≤ n) (h9 : n ≤ 9) : selfO (n : Int) = some ((selE n).map ti) := by
  unfold selfO
  rw [if_pos ⟨by omega, by omega⟩, Int.toNat_natCast, selE_is n h1 h9]
theorem ra_gen {w : World} {B : Nat} {v : Value} {vs : List Value} {nss : List (List Int)} {N : Nat} (h : IntsRA w B v vs nss) (hN : nss.length = N) :
    ∃ A cap, v = .slice A N cap ∧ N ≤ 9223372036854775807 ∧ ∀ k (hk : k < nss.length), ∃ g u, A = some ⟨g, 0, none⟩ ∧ g < w.heap.size ∧ IntsA w B u nss[k] ∧ w.cell? ⟨g, k, none⟩ = some u := by
  rcases intsRA_open h with ⟨e1, e⟩ | ⟨g, cap, e1, e2, e3, e4, _, e5⟩
  · subst e
    simp at hN
    subst hN
    exact ⟨none, 0, e1, by omega, fun k hk => by simp at hk⟩
  · rw [hN] at e1 e2
    refine ⟨_, cap, e1, e2, fun k hk => ?_⟩
    obtain ⟨u, _, q2, q3⟩ := e5 k hk
    exact ⟨g, u, rfl, e4, q2, q3⟩
theorem it_tol {L : Nat} {ns : List Nat} (h1 : 1 ≤ L) (h9 : L ≤ 9) (hl : ns.length = L) (hle : ∀ x ∈ ns, x ≤ L) : ∀ i, tolL (ti (itT L ns i)) = true := by
  have hlen := itT_len (L := L) (ns := ns) hl
  intro i
  refine tolL_ti (by rw [hlen]; exact h1) (by rw [hlen]; exact h9) ?_
  rw [hlen]
  cases i with
  | zero => exact hle
  | succ k =>
    intro x hx
    have := tel_le L (itT L ns k) x hx
    rw [hlen] at this
    exact this
theorem it_tell {L : Nat} {ns : List Nat} (h1 : 1 ≤ L) (h9 : L ≤ 9) (hl : ns.length = L) (hle : ∀ x ∈ ns, x ≤ L) (i : Nat) : tellO (ti (itT L ns i)) = some (ti (itT L ns (i + 1))) := by
  rw [tellO_ti (it_tol h1 h9 hl hle i), itT_len hl]
  rfl
end Go.Proofs.Ytkdoghopbefjfaa
