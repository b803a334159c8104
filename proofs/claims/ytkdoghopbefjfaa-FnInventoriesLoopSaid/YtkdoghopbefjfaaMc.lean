/- Texts that belong together: Va, Vb, Vc. -/
import Derived.Test.YtkdoghopbefjfaaMV
import Derived.Test.YtkdoghopbefjfaaMQ
import Derived.Test.YtkdoghopbefjfaaUd
import Derived.Test.YtkdoghopbefjfaaT13
/- Pure facts for the law FnInventoriesLoop: what an inventory tells, loops of inventories, words that are heard. -/
namespace Go.Proofs.Ytkdoghopbefjfaa
open Go.RowKit Go.BigFrame
set_option linter.unusedSimpArgs false
set_option linter.unusedVariables false
set_option maxRecDepth 4000

/-! ### What an inventory tells -/
theorem told_pairs : ∀ (l : List UInt8) (b : Nat) (acc ts : List Nat), l.all digB = true → acc.length = 9 → toldF b acc l = some ts →
    l.length % 2 = 0 ∧ (∀ i, i + 1 ≤ b → ts[i]? = acc[i]?) ∧ ∀ j (h : 2 * j + 1 < l.length), ts[(l[2 * j + 1]).toNat - 49]? = some ((l[2 * j]).toNat - 48)
  | [], b, acc, ts, _, _, h => by
    simp only [toldF, Option.some.injEq] at h
    subst h
    exact ⟨rfl, fun _ _ => rfl, fun j h => by simp at h⟩
  | [_], b, acc, ts, _, _, h => by simp [toldF] at h
  | x :: y :: r, b, acc, ts, ha, hl, h => by
    unfold toldF at h
    simp only [List.all_cons, Bool.and_eq_true, digB, decide_eq_true_eq] at ha
    obtain ⟨⟨hx1, hx2⟩, ⟨hy1, hy2⟩, hr⟩ := ha
    split at h
    · cases h
    rename_i hyb
    obtain ⟨h1, h2, h3⟩ := told_pairs r (y.toNat - 48) (acc.set (y.toNat - 49) (x.toNat - 48)) ts hr (by simpa using hl) h
    refine ⟨by simp only [List.length_cons]; omega, fun i hi => ?_, fun j hj => ?_⟩
    · rw [h2 i (by omega), List.getElem?_set_ne (by omega)]
    · cases j with
      | zero =>
        show ts[y.toNat - 49]? = some (x.toNat - 48)
        rw [h2 _ (by omega), List.getElem?_set_self (by omega)]
      | succ k =>
        simp only [List.length_cons] at hj
        have := h3 k (by omega)
        simpa [show 2 * (k + 1) + 1 = 2 * k + 1 + 1 + 1 by omega, show 2 * (k + 1) = 2 * k + 1 + 1 by omega] using this
theorem good_digs {l : List UInt8} (h : goodL l = true) : l.all digB = true ∧ 1 ≤ l.length ∧ l.length ≤ 400 := by
  unfold goodL at h
  simp only [Bool.and_eq_true, decide_eq_true_eq] at h
  exact ⟨h.2, h.1.1, h.1.2⟩
theorem tal_good_sum {l : List UInt8} (h : goodL l = true) : (tal l).sum = l.length := tal_sum l (good_digs h).1
/-- An inventory is a word, and it is one. -/
theorem inv_facts {l m : List UInt8} (h : invO l = some m) : goodL l = true ∧ goodL m = true ∧ toldL m = some (tal l) ∧ isInvL m = true ∧ m.length % 2 = 0 ∧ m.length ≤ 18 ∧
    ∀ j (hj : 2 * j + 1 < m.length), (tal l)[(m[2 * j + 1]).toNat - 49]? = some ((m[2 * j]).toNat - 48) := by
  obtain ⟨ht, h9⟩ := invO_told h
  have hl := invO_len h
  unfold invO at h
  split at h
  · rename_i hh
    have hm : m = prF 0 (tal l) := by rw [← Option.some.inj h, invT_prF (tal_len l)]
    have hd : m.all digB = true := by rw [hm]; exact prF_dig (tal l) 0 h9 (by rw [tal_len]; omega)
    have hp : 0 < m.length := by
      rw [hm]
      refine prF_pos (tal l) 0 ?_ h9 (by rw [tal_len]; omega)
      apply Classical.byContradiction
      intro hn
      have hz : (tal l).sum = 0 := by
        have : ∀ (t : List Nat), (∀ x ∈ t, x = 0) → t.sum = 0 := by
          intro t
          induction t with
          | nil => simp
          | cons a r ih => intro q; simp [q a List.mem_cons_self, ih (fun x hx => q x (List.mem_cons_of_mem _ hx))]
        exact this _ (fun x hx => Classical.byContradiction fun e => hn ⟨x, hx, e⟩)
      rw [tal_good_sum hh.1] at hz
      have := (good_digs hh.1).2.1
      omega
    have hg : goodL m = true := by unfold goodL; rw [hd, decide_eq_true (show 1 ≤ m.length by omega), decide_eq_true (show m.length ≤ 400 by omega)]; rfl
    have htl : toldL m = some (tal l) := by unfold toldL; rw [if_pos hg, ht]
    obtain ⟨q1, _, q3⟩ := told_pairs m 0 zeros9 (tal l) hd rfl ht
    exact ⟨hh.1, hg, htl, by rw [← toldL_isSome, htl]; rfl, q1, hl, q3⟩
  · cases h
theorem invO_some {l : List UInt8} (h : goodL l = true) : (invO l).isSome = okT (tal l) := by
  unfold invO
  rw [h]
  cases okT (tal l) <;> rfl
/-- The greatest of the first counts. -/
def mxT (ts : List Nat) : Nat → Nat
  | 0 => 0
  | k + 1 => if ts.getD k 0 > mxT ts k then ts.getD k 0 else mxT ts k
theorem mxT_ok (ts : List Nat) : ∀ k, k ≤ ts.length → (mxT ts k ≤ 9 ↔ ∀ i, i < k → ts.getD i 0 ≤ 9)
  | 0, _ => ⟨fun _ i h => absurd h (Nat.not_lt_zero _), fun _ => by show 0 ≤ 9; omega⟩
  | k + 1, hk => by
    have ih := mxT_ok ts k (by omega)
    unfold mxT
    constructor
    · intro h i hi
      by_cases e : i = k
      · subst e; split at h <;> omega
      · exact ih.1 (by split at h <;> omega) i (by omega)
    · intro h
      have h1 := ih.2 (fun i hi => h i (by omega))
      have h2 := h k (by omega)
      split <;> omega
theorem mxT_all {ts : List Nat} : decide (mxT ts ts.length ≤ 9) = okT ts := by
  have h := mxT_ok ts ts.length (Nat.le_refl _)
  cases ho : okT ts with
  | true =>
    refine decide_eq_true (h.2 fun i hi => ?_)
    rw [show ts.getD i 0 = ts[i] by simp [List.getD, hi]]
    exact okT_get ho (List.getElem?_eq_getElem hi)
  | false =>
    refine decide_eq_false fun hh => ?_
    have : okT ts = true := by
      unfold okT
      rw [List.all_eq_true]
      intro x hx
      obtain ⟨i, hi, rfl⟩ := List.getElem_of_mem hx
      have := h.1 hh i hi
      rw [show ts.getD i 0 = ts[i] by simp [List.getD, hi]] at this
      simpa using this
    rw [this] at ho; cases ho
theorem mxT_le (ts : List Nat) (M : Nat) (h : ∀ x ∈ ts, x ≤ M) : ∀ k, mxT ts k ≤ M
  | 0 => Nat.zero_le _
  | k + 1 => by
    have ih := mxT_le ts M h k
    have hx : ts.getD k 0 ≤ M := by
      by_cases hl : k < ts.length
      · rw [show ts.getD k 0 = ts[k] by simp [List.getD, hl]]; exact h _ (List.getElem_mem hl)
      · simp [List.getD, List.getElem?_eq_none (Nat.le_of_not_lt hl)]
    unfold mxT
    split <;> omega

/-! ### Loops of inventories -/
theorem run_cyc {cyc : Nat → List UInt8} {c : Nat} (hc : 1 ≤ c) (hinj : ∀ i j, i < c → j < c → cyc i = cyc j → i = j) (hper : cyc c = cyc 0) (hstep : ∀ j, j < c → invO (cyc j) = some (cyc (j + 1))) :
    ∀ (d q m : Nat), q + d = c → d + 1 ≤ m → loopF invO m ((List.range q).map cyc) (cyc q) = some ((List.range c).map cyc, 0)
  | 0, q, m, hq, hm => by
    obtain rfl : q = c := by omega
    obtain ⟨m', rfl⟩ : ∃ m', m = m' + 1 := ⟨m - 1, by omega⟩
    have hmem : cyc q ∈ (List.range q).map cyc := by rw [hper]; exact List.mem_map.2 ⟨0, List.mem_range.2 (by omega), rfl⟩
    rw [loopF, if_pos hmem]
    obtain ⟨q', rfl⟩ : ∃ q', q = q' + 1 := ⟨q - 1, by omega⟩
    congr 2
    rw [List.range_succ_eq_map, List.map_cons]
    unfold posL
    rw [if_pos hper.symm]
  | d + 1, q, m, hq, hm => by
    obtain ⟨m', rfl⟩ : ∃ m', m = m' + 1 := ⟨m - 1, by omega⟩
    have hmem : cyc q ∉ (List.range q).map cyc := fun h => by
      obtain ⟨i, hi, e⟩ := List.mem_map.1 h
      rw [List.mem_range] at hi
      have := hinj i q (by omega) (by omega) e
      omega
    rw [loopF, if_neg hmem, hstep q (by omega)]
    have ih := run_cyc hc hinj hper hstep d (q + 1) m' (by omega) (by omega)
    rw [List.range_succ, List.map_append] at ih
    exact ih
theorem posI_at (x : List UInt8) : ∀ (l : List (List UInt8)), x ∈ l → ∃ h : posL x l < l.length, l[posL x l] = x
  | [], h => by cases h
  | a :: r, h => by
    unfold posL
    by_cases e : a = x
    · simp only [if_pos e]
      exact ⟨by simp, e⟩
    · simp only [if_neg e]
      obtain ⟨h1, h2⟩ := posI_at x r (by rcases List.mem_cons.1 h with rfl | h; (· exact absurd rfl e); (· exact h))
      exact ⟨by simp; exact h1, by simpa using h2⟩
theorem loop_is {x0 : List UInt8} : ∀ (m : Nat) (way : List (List UInt8)) (x : List UInt8) (W : List (List UInt8)) (p : Nat), Way invO x0 way x → loopF invO m way x = some (W, p) →
    ∃ y, Way invO x0 W y ∧ y ∈ W ∧ p = posL y W
  | 0, way, x, W, p, hw, h => by cases h
  | m + 1, way, x, W, p, hw, h => by
    rw [loopF] at h
    split at h
    · rename_i hin
      cases h
      exact ⟨x, hw, hin, rfl⟩
    · rename_i hin
      cases hf : invO x with
      | none => rw [hf] at h; cases h
      | some y =>
        rw [hf] at h
        exact loop_is m (way ++ [x]) y W p (way_snoc hw hin hf) h
theorem mod_next (a c : Nat) (hc : 1 ≤ c) : (a + 1) % c = if a % c + 1 = c then 0 else a % c + 1 := by
  have h1 := Nat.mod_lt a (show 0 < c by omega)
  have h2 := Nat.div_add_mod a c
  generalize a % c = r at h1 h2 ⊢
  generalize a / c = q at h2
  subst h2
  split
  · rename_i e
    rw [Nat.add_assoc, e, Nat.mul_add_mod, Nat.mod_self]
  · rw [Nat.add_assoc, Nat.mul_add_mod, Nat.mod_eq_of_lt (by omega)]
theorem mod_two (x c : Nat) (h : x < 2 * c) : x % c = if x < c then x else x - c := by
  split
  · exact Nat.mod_eq_of_lt ‹_›
  · rw [Nat.mod_eq_sub_mod (by omega), Nat.mod_eq_of_lt (by omega)]
/-- The loop of a word's inventories: W is what comes till one comes again, from place p on it is the loop. -/
theorem inv_loop {l : List UInt8} {K : Nat} (hK : 1000000010 ≤ K) {W : List (List UInt8)} {p : Nat} (h : loopO K l = some (W, p)) :
    ∃ (s : Nat → List UInt8) (c : Nat), 1 ≤ c ∧ p + c = W.length ∧ W.length ≤ 1000000001 ∧ goodL l = true ∧ s 0 = l ∧ (∀ j, goodL (s j) = true) ∧ (∀ j (hj : j < W.length), W[j] = s j) ∧ (∀ j, s (p + (j + c)) = s (p + j)) ∧
      (∀ j, invO (s j) = some (s (j + 1))) ∧ (∀ i, i < c → loopO K (s (p + i)) = some ((List.range c).map fun k => s (p + (i + k)), 0)) := by
  unfold loopO at h
  split at h
  case isFalse => cases h
  rename_i hg
  obtain ⟨y, hw, hy, hp⟩ := loop_is K [] l W p (way_nil _ _) h
  obtain ⟨hpl, hpy⟩ := posI_at y W hy
  have hpl' : p < W.length := by rw [hp]; exact hpl
  have hpy' : W[p] = y := by subst hp; exact hpy
  obtain ⟨c, hc⟩ : ∃ c, c = W.length - p := ⟨_, rfl⟩
  have hc1 : 1 ≤ c := by omega
  obtain ⟨idx, hidx⟩ : ∃ idx : Nat → Nat, ∀ j, idx j = if j < p then j else p + (j - p) % c := ⟨fun j => if j < p then j else p + (j - p) % c, fun _ => rfl⟩
  have hlt : ∀ j, idx j < W.length := fun j => by
    rw [hidx]
    have := Nat.mod_lt (j - p) (show 0 < c by omega)
    split <;> omega
  have hin : ∀ j, j < W.length → idx j = j := fun j hj => by
    rw [hidx]
    split
    · rfl
    · rw [Nat.mod_eq_of_lt (by omega)]; omega
  have hnx : ∀ j, (idx j + 1 < W.length ∧ idx (j + 1) = idx j + 1) ∨ (idx j + 1 = W.length ∧ idx (j + 1) = p) := fun j => by
    rw [hidx j, hidx (j + 1)]
    by_cases h1 : j < p
    · rw [if_pos h1]
      by_cases h2 : j + 1 < p
      · rw [if_pos h2]; exact .inl ⟨by omega, rfl⟩
      · rw [if_neg h2, show j + 1 - p = 0 by omega, Nat.zero_mod]; exact .inl ⟨by omega, by omega⟩
    · rw [if_neg h1, if_neg (by omega), show j + 1 - p = (j - p) + 1 by omega, mod_next _ _ hc1]
      have := Nat.mod_lt (j - p) (show 0 < c by omega)
      split
      · exact .inr ⟨by omega, by omega⟩
      · exact .inl ⟨by omega, by omega⟩
  obtain ⟨s, hs⟩ : ∃ s : Nat → List UInt8, ∀ j, s j = W[idx j]'(hlt j) := ⟨fun j => W[idx j]'(hlt j), fun _ => rfl⟩
  have hsi : ∀ j (hj : j < W.length), W[j] = s j := fun j hj => by
    rw [hs]; congr 1; exact (hin j hj).symm
  have hinj : ∀ i j, i < W.length → j < W.length → s i = s j → i = j := fun i j hi hj e => by
    have hn := List.pairwise_iff_getElem.1 hw.nodup
    rcases Nat.lt_trichotomy i j with q | q | q
    · exact absurd (by rw [hsi i hi, hsi j hj, e]) (hn i j hi hj q)
    · exact q
    · exact absurd (by rw [hsi i hi, hsi j hj, e]) (hn j i hj hi q)
  have hstep : ∀ j, invO (s j) = some (s (j + 1)) := fun j => by
    rw [hs j, hs (j + 1)]
    rcases hnx j with ⟨h1, h2⟩ | ⟨h1, h2⟩
    · have := hw.step (idx j) _ _ (List.getElem?_eq_getElem (hlt j)) (List.getElem?_eq_getElem h1)
      rw [this]
      congr 1
      congr 1
      exact h2.symm
    · have := hw.last (W[idx j]'(hlt j)) (by rw [List.getLast?_eq_getElem?, show W.length - 1 = idx j by omega]; exact List.getElem?_eq_getElem _)
      rw [this, ← hpy']
      congr 1
      congr 1
      exact h2.symm
  have h0 : s 0 = l := by
    rw [← hsi 0 (by omega)]
    exact hw.first _ (List.getElem?_eq_getElem (by omega))
  have hgood : ∀ j, goodL (s j) = true := fun j => by
    cases j with
    | zero => rw [h0]; exact hg
    | succ k => exact (inv_facts (hstep k)).2.1
  have hper : ∀ j, s (p + (j + c)) = s (p + j) := fun j => by
    rw [hs, hs]
    congr 1
    rw [hidx, hidx, if_neg (by omega), if_neg (by omega), show p + (j + c) - p = j + c by omega, show p + j - p = j by omega, Nat.add_mod_right]
  refine ⟨s, c, hc1, by omega, wayI_len hw, hg, h0, hgood, hsi, hper, hstep, fun i hi => ?_⟩
  unfold loopO
  rw [if_pos (hgood _)]
  have hmod : ∀ a, a < c → s (p + (i + a)) = s (p + (if i + a < c then i + a else i + a - c)) := fun a ha => by
    split
    · rfl
    · have := hper (i + a - c)
      rw [show i + a - c + c = i + a by omega] at this
      exact this
  have := run_cyc (cyc := fun k => s (p + (i + k))) (c := c) hc1 (fun a b ha hb e => by
    have e' : s (p + (i + a)) = s (p + (i + b)) := e
    rw [hmod a ha, hmod b hb] at e'
    have := hinj _ _ (by split <;> omega) (by split <;> omega) e'
    split at this <;> split at this <;> omega) (by
    show s (p + (i + c)) = s (p + (i + 0))
    rw [hper, Nat.add_zero]) (fun j _ => hstep _) c 0 K (by omega) (by
      have := wayI_len hw
      omega)
  exact this
theorem wayG_at {f : List UInt8 → Option (List UInt8)} {s : Nat → List UInt8} (h : ∀ j, f (s j) = some (s (j + 1))) : ∀ n, wayG f n (s 0) = some ((List.range (n + 1)).map s)
  | 0 => rfl
  | n + 1 => by
    unfold wayG
    rw [wayG_at h n]
    have e : ((List.range (n + 1)).map s).getLastD [] = s n := by rw [List.range_succ, List.map_append]; simp
    simp only [e, h n]
    rw [List.range_succ (n := n + 1), List.map_append]
    rfl

/-! ### Words that are heard -/
theorem tal_cons (i : Nat) (hi : i < 9) (t : List UInt8) (ts : List Nat) (h9 : ts.length = 9) (h0 : ts.getD i 0 ≠ 0) (h : tal t = ts.set i (ts.getD i 0 - 1)) : tal (dg i :: t) = ts := by
  apply List.ext_getElem (by rw [tal_len, h9])
  intro j h1 h2
  have hj : j < 9 := by rw [tal_len] at h1; exact h1
  have hx := tal_get t j hj
  have hy := tal_get (dg i :: t) j hj
  rw [List.getElem?_eq_getElem h1, Option.some.injEq] at hy
  rw [hy, List.count_cons]
  rw [h] at hx
  by_cases e : i = j
  · subst e
    rw [List.getElem?_set_self (by omega), Option.some.injEq] at hx
    have hg : ts.getD i 0 = ts[i] := by simp [List.getD, h2]
    rw [hg] at hx h0
    simp only [BEq.rfl, if_true]
    omega
  · rw [List.getElem?_set_ne e, List.getElem?_eq_getElem h2, Option.some.injEq] at hx
    have hb : (dg i == dg j) = false := beq_eq_false_iff_ne.2 (fun q => e (dg_inj hi hj q))
    rw [hb, if_neg (by simp)]
    omega
theorem numL_dg (i : Nat) (hi : i < 9) : numL (i + 1) = [dg i] := by
  rw [numL_small (i + 1) (by omega)]
  unfold dg
  rw [show 48 + (i + 1) = 49 + i by omega]
theorem sum_dec {ts : List Nat} {i n : Nat} (hi : i < ts.length) (h0 : ts.getD i 0 ≠ 0) (hs : ts.sum = n + 1) : (ts.set i (ts.getD i 0 - 1)).sum = n := by
  have hg : ts.getD i 0 = ts[i] := by simp [List.getD, hi]
  obtain ⟨m, hm⟩ : ∃ m, ts[i] = m + 1 := ⟨ts[i] - 1, by omega⟩
  have := sum_set ts i m (by rw [List.getElem?_eq_getElem hi, hm])
  rw [hg, hm, Nat.add_sub_cancel]
  omega
theorem heard_mem : ∀ (n : Nat) (ts : List Nat) (b : List UInt8), ts.length = 9 → ts.sum = n → ∀ m ∈ heardL n ts b, ∃ t, m = b ++ t ∧ t.length = n ∧ t.all digB = true ∧ tal t = ts
  | 0, ts, b, h9, hs, m, hm => by
    have hz := (sum_zero h9).1 hs
    subst hz
    simp only [heardL, List.mem_singleton] at hm
    subst hm
    exact ⟨[], by simp, rfl, rfl, rfl⟩
  | n + 1, ts, b, h9, hs, m, hm => by
    unfold heardL heardK at hm
    obtain ⟨i, hi, hm⟩ := List.mem_flatMap.1 hm
    rw [List.mem_range] at hi
    split at hm
    · cases hm
    rename_i h0
    obtain ⟨t, rfl, h1, h2, h3⟩ := heard_mem n (ts.set i (ts.getD i 0 - 1)) (b ++ numL (i + 1)) (by rw [List.length_set]; exact h9) (sum_dec (by omega) h0 hs) m hm
    refine ⟨dg i :: t, by rw [numL_dg i hi]; simp, by simp [h1], ?_, tal_cons i hi t ts h9 h0 h3⟩
    rw [List.all_cons, h2, Bool.and_true]
    unfold digB dg
    simp
    omega
end Go.Proofs.Ytkdoghopbefjfaa

/- Pure facts for the law FnInventoriesLoop: words that are heard come in order; the own inventories up to a digit. -/
namespace Go.Proofs.Ytkdoghopbefjfaa
open Go.RowKit Go.BigFrame
set_option linter.unusedSimpArgs false
set_option linter.unusedVariables false
set_option maxRecDepth 4000

theorem lt_behind (x y : UInt8) (h : x < y) (t u : List UInt8) : ∀ (b : List UInt8), b ++ x :: t < b ++ y :: u
  | [] => by
    show x :: t < y :: u
    rw [List.cons_lt_cons_iff]
    exact .inl h
  | a :: b => by
    show a :: (b ++ x :: t) < a :: (b ++ y :: u)
    rw [List.cons_lt_cons_iff]
    exact .inr ⟨rfl, lt_behind x y h t u b⟩
theorem dg_lt {i j : Nat} (hi : i < 9) (hj : j < 9) (h : i < j) : dg i < dg j := by
  rw [UInt8.lt_iff_toNat_lt]
  simp [dg]
  omega
theorem heard_sorted : ∀ (n : Nat) (ts : List Nat) (b : List UInt8), ts.length = 9 → ts.sum = n → (heardL n ts b).Pairwise (· < ·)
  | 0, ts, b, _, _ => by simp [heardL]
  | n + 1, ts, b, h9, hs => by
    unfold heardL heardK
    rw [List.pairwise_flatMap]
    refine ⟨fun i hi => ?_, ?_⟩
    · rw [List.mem_range] at hi
      split
      · exact List.Pairwise.nil
      · rename_i h0
        exact heard_sorted n _ _ (by rw [List.length_set]; exact h9) (sum_dec (by omega) h0 hs)
    · refine List.Pairwise.imp_of_mem ?_ List.pairwise_lt_range
      intro i j hi hj hij x hx y hy
      rw [List.mem_range] at hi hj
      split at hx
      · cases hx
      rename_i h0
      split at hy
      · cases hy
      rename_i h1
      obtain ⟨t, rfl, _⟩ := heard_mem n _ _ (by rw [List.length_set]; exact h9) (sum_dec (by omega) h0 hs) x hx
      obtain ⟨u, rfl, _⟩ := heard_mem n _ _ (by rw [List.length_set]; exact h9) (sum_dec (by omega) h1 hs) y hy
      rw [numL_dg i hi, numL_dg j hj, List.append_assoc, List.append_assoc]
      exact lt_behind _ _ (dg_lt hi hj hij) _ _ b
/-- The words that are heard: of each the word is the inventory; in order. -/
theorem heard_facts {l : List UInt8} {L : List (List UInt8)} (h : hearLO l = some L) : (∀ m ∈ L, invO m = some l ∧ m.length ≤ 7) ∧ (∀ i (hi : i < L.length), 0 < i → L[i - 1]'(Nat.lt_of_le_of_lt (Nat.sub_le _ _) hi) < L[i]) := by
  unfold hearLO at h
  cases ht : toldL l with
  | none => rw [ht] at h; cases h
  | some ts =>
    rw [ht] at h
    simp only at h
    split at h
    case isFalse => cases h
    rename_i hh
    cases h
    obtain ⟨hg, h9, hle⟩ := toldL_facts ht
    have hl : l = prF 0 ts := by
      have h1 := ht
      unfold toldL at h1
      rw [if_pos hg] at h1
      have := (pr_of_told l 0 zeros9 ts (good_digs hg).1 rfl (by omega) (fun i _ hi => zeros9_get i hi) h1).2.2.2
      simpa using this
    refine ⟨fun m hm => ?_, fun i hi h0 => ?_⟩
    · obtain ⟨t, e, h1, h2, h3⟩ := heard_mem ts.sum ts [] h9 rfl m hm
      rw [List.nil_append] at e
      subst e
      have hpos : 1 ≤ ts.sum := by
        apply Classical.byContradiction
        intro hn
        have hz := (sum_zero h9).1 (by omega)
        have h5 := (good_digs hg).2.1
        rw [hl, hz] at h5
        have : prF 0 zeros9 = [] := prF_nil 9 0
        rw [this] at h5
        simp at h5
      have hgm : goodL m = true := by unfold goodL; rw [h2, decide_eq_true (show 1 ≤ m.length by omega), decide_eq_true (show m.length ≤ 400 by omega)]; rfl
      have hok : okT (tal m) = true := by
        rw [h3]
        unfold okT
        rw [List.all_eq_true]
        intro x hx
        exact decide_eq_true (hle x hx)
      refine ⟨?_, by omega⟩
      unfold invO
      rw [if_pos ⟨hgm, hok⟩, h3, invT_prF h9, ← hl]
    · have := List.pairwise_iff_getElem.1 (heard_sorted ts.sum ts [] h9 rfl) (i - 1) i (by omega) hi (by omega)
      exact this

/-! ### Own inventories -/
theorem allS_nodup (mo : Nat) : ∀ (m left : Nat), (allS mo m left).Nodup
  | 0, _ => by simp [allS]
  | m + 1, left => by
    unfold List.Nodup
    rw [allS, List.pairwise_flatMap]
    refine ⟨fun y _ => ?_, ?_⟩
    · rw [List.pairwise_map]
      exact List.Pairwise.imp (fun h e => h (by injection e)) (allS_nodup mo m (left - y))
    · refine List.Pairwise.imp ?_ (List.nodup_range' (s := 0) (n := min mo left + 1))
      intro i j hij x hx y hy e
      obtain ⟨t, _, rfl⟩ := List.mem_map.1 hx
      obtain ⟨u, _, rfl⟩ := List.mem_map.1 hy
      injection e with e1
      exact hij e1
theorem pr_told {c : List Nat} (h9 : c.length ≤ 9) (hn : ∀ n ∈ c, n ≤ 9) : toldF 0 zeros9 (prF 0 c) = some (pad c) := by
  have := told_of_pr (pad c) 0 0 zeros9 (Nat.le_refl _) (by rw [pad_len c h9]) rfl (fun i _ hi => zeros9_get i hi) (fun n hx => by
    unfold pad at hx
    rcases List.mem_append.1 hx with hx | hx
    · exact hn n hx
    · rw [List.eq_of_mem_replicate hx]; omega)
  have e : prF 0 (pad c) = prF 0 c := prF_zeros c _ 0
  rw [e] at this
  simpa using this
theorem prs_nodup (mo : Nat) (h9 : mo ≤ 9) : (prs mo mo 0 []).Nodup := by
  rw [prs_all mo mo 0 (mo * mo) [] (Nat.le_refl _)]
  simp only [List.nil_append]
  unfold List.Nodup
  rw [List.pairwise_map]
  refine List.Pairwise.imp_of_mem ?_ (allS_nodup mo mo (mo * mo))
  intro a b ha hb hab e
  have la := allS_len mo mo _ a ha
  have lb := allS_len mo mo _ b hb
  have h1 := pr_told (c := a) (by omega) (fun n hn => Nat.le_trans (allS_le mo mo _ a ha n hn) h9)
  have h2 := pr_told (c := b) (by omega) (fun n hn => Nat.le_trans (allS_le mo mo _ b hb n hn) h9)
  rw [e, h2, Option.some.injEq] at h1
  exact hab ((pad_inj (by omega)).1 h1.symm)
theorem prF_chars (mo : Nat) : ∀ (c : List Nat) (d : Nat), mo ≤ 9 → (∀ n ∈ c, n ≤ mo) → d + c.length ≤ mo → ∀ ch ∈ prF d c, ch.toNat ≤ 48 + mo
  | [], _, _, _, _, ch, h => by simp [prF] at h
  | n :: r, d, h9, hn, hd, ch, h => by
    simp only [List.length_cons] at hd
    rw [prF, List.mem_append] at h
    have hn1 := hn n List.mem_cons_self
    rcases h with h | h
    · split at h
      · cases h
      · rw [numL_small n (by omega), numL_small (d + 1) (by omega)] at h
        simp only [List.cons_append, List.nil_append, List.mem_cons, List.not_mem_nil, or_false] at h
        rcases h with rfl | rfl
        · simp; omega
        · simp; omega
    · exact prF_chars mo r (d + 1) h9 (fun x hx => hn x (List.mem_cons_of_mem _ hx)) (by omega) ch h
theorem mem_allV (mo : Nat) : ∀ (l : List Nat) (left : Nat), (∀ x ∈ l, x ≤ mo) → l.sum ≤ left → l ∈ allS mo l.length left
  | [], left, _, _ => by simp [allS]
  | y :: t, left, h, hs => by
    rw [List.sum_cons] at hs
    show y :: t ∈ (List.range' 0 (min mo left + 1)).flatMap fun y => (allS mo t.length (left - y)).map (y :: ·)
    refine List.mem_flatMap.2 ⟨y, ?_, List.mem_map.2 ⟨t, mem_allV mo t (left - y) (fun x hx => h x (List.mem_cons_of_mem _ hx)) (by omega), rfl⟩⟩
    have := h y List.mem_cons_self
    rw [List.mem_range'_1]
    omega
theorem sum_leV (m : Nat) : ∀ (l : List Nat), (∀ x ∈ l, x ≤ m) → l.sum ≤ l.length * m
  | [], _ => by simp
  | a :: t, h => by
    have := sum_leV m t (fun x hx => h x (List.mem_cons_of_mem _ hx))
    have := h a List.mem_cons_self
    simp only [List.sum_cons, List.length_cons, Nat.succ_mul]
    omega
/-- A count that is told stands in the text. -/
theorem prF_has : ∀ (c : List Nat) (d i x : Nat), c[i]? = some x → x ≠ 0 → x ≤ 9 → UInt8.ofNat (48 + x) ∈ prF d c
  | [], d, i, x, h, _, _ => by simp at h
  | n :: r, d, 0, x, h, h0, h9 => by
    simp at h
    subst h
    rw [prF, if_neg h0, numL_small n h9]
    simp
  | n :: r, d, i + 1, x, h, h0, h9 => by
    rw [prF]
    exact List.mem_append_right _ (prF_has r (d + 1) i x (by simpa using h) h0 h9)
/-- An own inventory is among those of n exactly if none of its digits is greater than n. -/
theorem own_iff_chars {s : List UInt8} {n : Nat} (h1 : 1 ≤ n) (h6 : n ≤ 6) (hs : isOwnL s = true) : s ∈ (prs n n 0 []).filter isOwnL ↔ ∀ ch ∈ s, ch.toNat ≤ 48 + n := by
  have hinv : invO s = some s := of_decide_eq_true hs
  obtain ⟨hg, _, _, _⟩ := inv_facts hinv
  obtain ⟨htold, hle⟩ := invO_told hinv
  have hsp : s = prF 0 (tal s) := by
    have h2 := hinv
    unfold invO at h2
    split at h2
    · rw [← invT_prF (tal_len s)]; exact (Option.some.inj h2).symm
    · cases h2
  constructor
  · intro h ch hch
    obtain ⟨hm, _⟩ := List.mem_filter.1 h
    rw [prs_all n n 0 (n * n) [] (Nat.le_refl _)] at hm
    obtain ⟨c, hc, e⟩ := List.mem_map.1 hm
    rw [List.nil_append] at e
    subst e
    exact prF_chars n c 0 (by omega) (allS_le n n _ c hc) (by rw [allS_len n n _ c hc]; omega) ch hch
  · intro h
    refine List.mem_filter.2 ⟨?_, hs⟩
    rw [prs_all n n 0 (n * n) [] (Nat.le_refl _)]
    refine List.mem_map.2 ⟨(tal s).take n, ?_, ?_⟩
    · have hl : ((tal s).take n).length = n := by rw [List.length_take, tal_len]; omega
      have hx : ∀ x ∈ (tal s).take n, x ≤ n := by
        intro x hx
        have hx' := List.mem_of_mem_take hx
        have h9 := hle x hx'
        by_cases h0 : x = 0
        · omega
        · obtain ⟨i, hi⟩ := List.mem_iff_getElem?.1 hx'
          have hch := prF_has (tal s) 0 i x hi h0 h9
          rw [← hsp] at hch
          have := h _ hch
          simp at this
          omega
      have := mem_allV n ((tal s).take n) (n * n) hx (by have := sum_leV n _ hx; rw [hl] at this; exact this)
      rwa [hl] at this
    · rw [List.nil_append]
      have hz : (tal s).drop n = List.replicate (9 - n) 0 := by
        apply List.ext_getElem (by simp [tal_len])
        intro i i1 i2
        rw [List.getElem_drop, List.getElem_replicate]
        simp only [List.length_drop, tal_len] at i1
        have hg2 := tal_get s (n + i) (by omega)
        rw [List.getElem?_eq_getElem (by rw [tal_len]; omega), Option.some.injEq] at hg2
        rw [hg2]
        apply List.count_eq_zero_of_not_mem
        intro hmem
        have := h _ hmem
        simp [dg] at this
        omega
      have e : prF 0 ((tal s).take n) = prF 0 (tal s) := by
        conv => rhs; rw [← List.take_append_drop n (tal s), hz]
        exact (prF_zeros _ _ 0).symm
      rw [e, ← hsp]
/-- All own inventories up to a digit, in order. -/
theorem own_facts {n : Nat} (h1 : 1 ≤ n) (h6 : n ≤ 6) {L : List (List UInt8)} (h : ownO (n : Int) = some L) :
    (∀ m ∈ L, goodL m = true ∧ isOwnL m = true ∧ m.length ≤ 18) ∧ (∀ i (hi : i < L.length), 0 < i → L[i - 1]'(Nat.lt_of_le_of_lt (Nat.sub_le _ _) hi) < L[i]) ∧ (∀ s, isOwnL s = true → (s ∈ L ↔ ∀ ch ∈ s, ch.toNat ≤ 48 + n)) := by
  unfold ownO at h
  rw [if_pos ⟨by omega, by omega⟩, Int.toNat_natCast, Option.some.injEq] at h
  have tr : ∀ a b c : List UInt8, decide (a ≤ b) = true → decide (b ≤ c) = true → decide (a ≤ c) = true := fun a b c h1 h2 => by simp only [decide_eq_true_eq] at *; exact List.le_trans h1 h2
  have tot : ∀ a b : List UInt8, (decide (a ≤ b) || decide (b ≤ a)) = true := fun a b => by simp only [Bool.or_eq_true, decide_eq_true_eq]; exact List.le_total a b
  have hp := List.mergeSort_perm ((prs n n 0 []).filter isOwnL) fun x y => decide (x ≤ y)
  have hs := List.pairwise_mergeSort tr tot ((prs n n 0 []).filter isOwnL)
  rw [h] at hp hs
  have hnd : L.Nodup := hp.nodup_iff.2 (List.Pairwise.filter _ (prs_nodup n (by omega)))
  refine ⟨fun m hm => ?_, fun i hi h0 => ?_, fun s hso => ?_⟩
  · have hm' := (List.mem_filter.1 (hp.mem_iff.1 hm)).2
    have hinv : invO m = some m := of_decide_eq_true hm'
    obtain ⟨q1, _, _, _, _, q6, _⟩ := inv_facts hinv
    exact ⟨q1, hm', q6⟩
  · have a1 := List.pairwise_iff_getElem.1 hs (i - 1) i (by omega) hi (by omega)
    have a2 := List.pairwise_iff_getElem.1 hnd (i - 1) i (by omega) hi (by omega)
    rw [decide_eq_true_eq] at a1
    apply Classical.byContradiction
    intro hn
    exact a2 (List.le_antisymm a1 (List.not_lt.1 hn))
  · rw [hp.mem_iff]
    exact own_iff_chars h1 h6 hso
end Go.Proofs.Ytkdoghopbefjfaa

/- Helpers of the law FnInventoriesLoop: rows of texts that lie anywhere. -/
namespace Go.Proofs.Ytkdoghopbefjfaa
open Go.RowKit Go.BigFrame
set_option linter.unusedSimpArgs false
set_option linter.unusedVariables false
set_option maxRecDepth 4000

set_option maxHeartbeats 1000000 in
theorem fTexts_same (w : World) (Ba Bb : Nat) (va vb : Value) (xs : List (List UInt8)) (ha : StrsO w Ba va xs) (hb : StrsO w Bb vb xs) :
    Calls Try.prog 17 #[va, vb] w fun e w' => e = .returned (.bool true) ∧ Below w.heap.size w w' := by
  rcases strsO_open ha with ⟨rfl, rfl⟩ | ⟨g, o, cap, rfl, _, hg, hn, hcp, hca, _⟩
  · rcases strsO_open hb with ⟨rfl, _⟩ | ⟨g, o, cap, rfl, _⟩
    all_goals
      clear ha hb
      go_enter Try.func17, Try.ntmps17
      go_wp2_with fail
      refine wp_loop_rounds 1 ?_
      rw [rounds_succ]
      go_wp2
      go_ret
      exact ⟨rfl, Below.refl _ _⟩
  · rcases strsO_open hb with ⟨rfl, h0⟩ | ⟨g', o', cap', rfl, _, hg', _, hcp', hcb, _⟩
    · subst h0
      clear ha hb
      go_enter Try.func17, Try.ntmps17
      go_wp2_with fail
      refine wp_loop_rounds 1 ?_
      rw [rounds_succ]
      go_wp2
      go_ret
      exact ⟨rfl, Below.refl _ _⟩
    · have HA := Lib.hid hca; have HB := Lib.hid hcb
      obtain ⟨N, hN⟩ : ∃ N, N = xs.length := ⟨_, rfl⟩
      have HN := Lib.hid hN
      rw [← hN] at hn ⊢
      have hne : ((N : Int) != (N : Int)) = false := by simp
      clear ha hb hca hcb hN
      go_enter Try.func17, Try.ntmps17
      go_wp2_with fail
      go_loopw [13] (fun i wr => ∃ (k : Nat), k ≤ N ∧ i = .int .i64 k ∧ Hid (Below w.heap.size w wr)) (fun i _ => N - (intOf i).toNat)
      case atStart => exact ⟨0, Nat.zero_le _, rfl, below_refl _⟩
      case round =>
        obtain ⟨k, hk, rfl, HW⟩ := hrel
        by_cases hlt : k < N
        · have h1 : wr.cell? ⟨g, o + k, none⟩ = some (.string (bs (xs[k]'(by rw [← HN.out]; exact hlt)))) := (HW.out.cell (p := ⟨g, o + k, none⟩) hg).trans (HA.out k (by rw [← HN.out]; exact hlt))
          have h2 : wr.cell? ⟨g', o' + k, none⟩ = some (.string (bs (xs[k]'(by rw [← HN.out]; exact hlt)))) := (HW.out.cell (p := ⟨g', o' + k, none⟩) hg').trans (HB.out k (by rw [← HN.out]; exact hlt))
          generalize bs (xs[k]'(by rw [← HN.out]; exact hlt)) = x at h1 h2
          have hx : (x.toList != x.toList) = false := by simp
          go_wp2_with fail
          go_quiet (fail)
          go_wp2_with fail
          go_roundw
          case rel => exact ⟨k + 1, by omega, by go_num, HW.out.trans (belowN _ _ _)⟩
          case measure => simp [intOf] <;> omega
        · obtain rfl : k = N := by omega
          go_wp2_with fail
          go_ret
          exact ⟨rfl, HW.out⟩
theorem strOk_eq (o : Option (List UInt8)) : strOk o = .tuple #[.string (bs (o.getD [])), .bool o.isSome] := by cases o <;> rfl
theorem sO_at {w : World} {B N : Nat} {v : Value} {ls : List (List UInt8)} (h : StrsO w B v ls) (hN : ls.length = N) :
    ∃ A C, v = .slice A N C ∧ N ≤ 9223372036854775807 ∧ ∀ i x, ls[i]? = some x → ∃ g o, A = some ⟨g, o, none⟩ ∧ g < w.heap.size ∧ w.cell? ⟨g, o + i, none⟩ = some (.string (bs x)) := by
  rcases strsO_open h with ⟨e1, e⟩ | ⟨g, o, cap, e1, _, e4, e2, e3, e5, _⟩
  · subst e
    simp at hN
    subst hN
    exact ⟨none, 0, e1, by omega, fun i x hx => by simp at hx⟩
  · rw [hN] at e1 e2
    refine ⟨_, cap, e1, e2, fun i x hx => ?_⟩
    obtain ⟨hi, rfl⟩ := List.getElem?_eq_some_iff.1 hx
    exact ⟨g, o, rfl, e4, e5 i hi⟩
theorem strsOk_O {o : Option (List (List UInt8))} {w w' : World} {e : Ending} (h : StrsOk o w w' e) : ∃ v, e = .returned (.tuple #[v, .bool o.isSome]) ∧ StrsO w' w.heap.size v (o.getD []) ∧ Below w.heap.size w w' := by
  obtain ⟨v, h1, h2, h3, _⟩ := h
  exact ⟨v, h1, strsO_of h2, h3⟩
theorem goodL_isSome (l : List UInt8) : (if goodL l = true then some (ti (tal l)) else none).isSome = goodL l := by cases goodL l <;> rfl
theorem fSame_selfV (w : World) (Ba Bb : Nat) (va vb : Value) (xs : List Int) (ha : IntsA w Ba va xs) (hb : IntsA w Bb vb xs) :
    Calls Try.prog 18 #[va, vb] w fun e w' => e = .returned (.bool true) ∧ Below w.heap.size w w' := by
  have h := fSame_any w va vb xs xs (argL_of_intsA ha) (argL_of_intsA hb)
  rw [decide_eq_true rfl] at h
  exact h.mono fun e w' ⟨h1, m, hm⟩ => ⟨h1, hm ▸ belowN _ _ _⟩
theorem loopO_inv {K : Nat} {l : List UInt8} (h : (loopO K l).isSome = true) (hK : 1000000010 ≤ K) : goodL l = true ∧ (invO l).isSome = true := by
  obtain ⟨⟨W, p⟩, e⟩ := Option.isSome_iff_exists.1 h
  obtain ⟨s, c, _, _, _, hg, h0, _, _, _, hs, _⟩ := inv_loop hK e
  refine ⟨hg, ?_⟩
  have := hs 0
  rw [h0] at this
  rw [this]; rfl
end Go.Proofs.Ytkdoghopbefjfaa
