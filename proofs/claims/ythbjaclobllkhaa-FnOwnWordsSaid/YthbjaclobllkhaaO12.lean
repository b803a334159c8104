/- Own words keep the rules that they tell of themselves (pure). -/
import Derived.Test.YthbjaclobllkhaaO8
import Derived.Test.YthbjaclobllkhaaD5
import Derived.Test.YthbjaclobllkhaaD6
namespace Go.Proofs.Ythbjaclobllkhaa
open Go.RowKit Go.BigFrame Go.Shelf
set_option linter.unusedSimpArgs false
set_option linter.unusedVariables false
set_option maxRecDepth 4000

theorem gLen_le (a b r : Nat) (ha : a ≤ 9) (hb : b ≤ 9) : gLen a b r ≤ 9 := by
  unfold gLen
  cases h : (gG a b r)[r]? with
  | none => rw [Option.getD_none]; rcases gD_mem a b r with h | h <;> omega
  | some x => rw [Option.getD_some]; rcases gG_mem a b r x (List.mem_of_getElem? h) with h | h <;> omega
/-- The beginning of an own word: whole runs, and a last one. -/
structure OwnP (a b n r m : Nat) : Prop where
  one : 1 ≤ m
  le : m ≤ gLen a b r
  len : n = (gG a b r).length + m
  word : gOwn a b n = gG a b r ++ List.replicate m (gD a b r)
  runs : runsL (sgL (gOwn a b n)) = gRuns a b r ++ [(sgn (gD a b r), m)]
theorem ownP_at (a b n r : Nat) (hab : a ≠ b) (ha : 1 ≤ a ∧ a ≤ 9) (hb : 1 ≤ b ∧ b ≤ 9) (h1 : (gG a b r).length < n) (h2 : n ≤ (gG a b (r + 1)).length) :
    OwnP a b n r (n - (gG a b r).length) := by
  have hl : (gG a b (r + 1)).length = (gG a b r).length + gLen a b r := by rw [gG_succ, List.length_append, List.length_replicate]
  have hw : gOwn a b n = gG a b r ++ List.replicate (n - (gG a b r).length) (gD a b r) := by
    rw [← gG_take a b (r + 1) n ha.1 hb.1 h2, gG_succ, List.take_append, List.take_of_length_le (by omega), List.take_replicate, Nat.min_eq_left (by omega)]
  refine ⟨by omega, by omega, by omega, hw, ?_⟩
  rw [hw, sgL_app, sgL_rep]
  show (sgL (gG a b r) ++ List.replicate (n - (gG a b r).length) (sgn (gD a b r))).foldl stepRun [] = _
  rw [List.foldl_append]
  have h := runs_gG a b hab ha hb r
  unfold runsL at h
  rw [h, runs_rep _ _ (gRuns_last a b hab ha.2 hb.2 r) _ (by omega)]
theorem ownP_ex (a b n : Nat) (hab : a ≠ b) (ha : 1 ≤ a ∧ a ≤ 9) (hb : 1 ≤ b ∧ b ≤ 9) (hn : 1 ≤ n) : ∃ r m, OwnP a b n r m := by
  have key : ∀ k : Nat, n ≤ (gG a b k).length → ∃ r, (gG a b r).length < n ∧ n ≤ (gG a b (r + 1)).length := by
    intro k
    induction k with
    | zero => intro h; simp [gG] at h; omega
    | succ k ih =>
      intro h
      by_cases hk : n ≤ (gG a b k).length
      · exact ih hk
      · exact ⟨k, by omega, h⟩
  obtain ⟨r, h1, h2⟩ := key n (gG_len a b ha.1 hb.1 n)
  exact ⟨r, _, ownP_at a b n r hab ha hb h1 h2⟩
theorem OwnP.run {a b n r m : Nat} (h : OwnP a b n r m) : (runsL (sgL (gOwn a b n))).length = r + 1 := by rw [h.runs, List.length_append, gRuns_len]; rfl
theorem OwnP.r_le {a b n r m : Nat} (h : OwnP a b n r m) (ha : 1 ≤ a) (hb : 1 ≤ b) : r + 1 ≤ n := by
  have := gG_len a b ha hb r; have h1 := h.one; have h2 := h.len; omega
theorem OwnP.last {a b n r m : Nat} (h : OwnP a b n r m) : (gOwn a b n).getD (n - 1) 0 = gD a b r := by
  rw [h.word, h.len, List.getD_eq_getElem?_getD, List.getElem?_append_right (by have := h.one; omega), List.getElem?_replicate, if_pos (by have := h.one; omega)]; rfl
theorem gD_odd (a b r : Nat) (h : (r + 1) % 2 = 1) : gD a b r = a := by unfold gD; rw [if_neg (by omega)]
theorem gD_even (a b r : Nat) (h : (r + 1) % 2 = 0) : gD a b r = b := by unfold gD; rw [if_pos (by omega)]
theorem gOwn_head (a b n : Nat) (ha : 1 ≤ a) (hb : 1 ≤ b) (hn : 1 ≤ n) : (gOwn a b n)[0]? = some a := by
  have h1 := gG_len a b ha hb 1
  have h : gG a b 1 = List.replicate a a := by rw [gG_succ]; rfl
  unfold gOwn
  rw [List.getElem?_take_of_lt (by omega)]
  obtain ⟨k, rfl⟩ := Nat.le.dest hn
  obtain ⟨t, ht⟩ := gG_pre a b 1 k
  rw [← ht, h, List.getElem?_append_left (by simp; omega), List.getElem?_replicate, if_pos (by omega)]
/-- The length of a run, told by the word. -/
theorem gOwn_tells (a b n i : Nat) (ha : 1 ≤ a) (hb : 1 ≤ b) (hi : i < n) : (gOwn a b n)[i]? = some (gLen a b i) := by
  unfold gOwn
  rw [List.getElem?_take_of_lt hi]
  exact gG_more a b i n ha hb hi
theorem gRuns_at (a b : Nat) : ∀ (r i : Nat), i < r → (gRuns a b r)[i]? = some (sgn (gD a b i), gLen a b i)
  | r + 1, i, h => by
    rw [gRuns]
    by_cases hi : i < r
    · rw [List.getElem?_append_left (by rw [gRuns_len]; exact hi)]; exact gRuns_at a b r i hi
    · obtain rfl : i = r := by omega
      rw [List.getElem?_append_right (by rw [gRuns_len]; exact Nat.le_refl _), gRuns_len, Nat.sub_self]; rfl
theorem gRuns_long (a b : Nat) (ha : a ≤ 9) (hb : b ≤ 9) : ∀ r, longR (gRuns a b r) ≤ 9
  | 0 => by simp [gRuns, longR]
  | r + 1 => by
    rw [gRuns, longR_snoc]
    have := gRuns_long a b ha hb r
    have h2 := gLen_le a b r ha hb
    exact Nat.max_le.2 ⟨this, h2⟩
/-- A word of the own ones can be said, and all but its last length are its own digits. -/
theorem own_long (a b n : Nat) (hab : a ≠ b) (ha : 1 ≤ a ∧ a ≤ 9) (hb : 1 ≤ b ∧ b ≤ 9) (hn : 1 ≤ n) : longL (sgL (gOwn a b n)) ≤ 9 := by
  obtain ⟨r, m, h⟩ := ownP_ex a b n hab ha hb hn
  unfold longL
  rw [h.runs, longR_snoc]
  have h1 := gRuns_long a b ha.2 hb.2 r
  have h2 := gLen_le a b r ha.2 hb.2
  have h3 := h.le
  exact Nat.max_le.2 ⟨h1, Nat.le_trans h3 h2⟩
theorem own_lens (a b n i : Nat) (hab : a ≠ b) (ha : 1 ≤ a ∧ a ≤ 9) (hb : 1 ≤ b ∧ b ≤ 9) (hn : 1 ≤ n) (hi : i + 1 < (lensL (sgL (gOwn a b n))).length) :
    (lensL (sgL (gOwn a b n)))[i]? = (sgL (gOwn a b n))[i]? := by
  obtain ⟨r, m, h⟩ := ownP_ex a b n hab ha hb hn
  unfold lensL lensR at hi ⊢
  rw [List.length_map, h.run] at hi
  have hrn := h.r_le ha.1 hb.1
  rw [List.getElem?_map, h.runs, List.getElem?_append_left (by rw [gRuns_len]; omega), gRuns_at a b r i (by omega)]
  unfold sgL
  rw [List.getElem?_map, gOwn_tells a b n i ha.1 hb.1 (by omega)]
  rfl
/-- One digit more. -/
theorem own_snoc (a b n : Nat) (ha : 1 ≤ a) (hb : 1 ≤ b) : gOwn a b (n + 1) = gOwn a b n ++ [(gOwn a b (n + 1)).getD n 0] := by
  have hl := gOwn_len a b (n + 1) ha hb
  have h1 : (gOwn a b (n + 1)).take n = gOwn a b n := by
    rw [← gG_take a b (n + 1) n ha hb (Nat.le_trans (Nat.le_succ n) (gG_len a b ha hb (n + 1)))]
    unfold gOwn
    rw [List.take_take, Nat.min_eq_left (Nat.le_succ n)]
  conv => lhs; rw [← List.take_append_drop n (gOwn a b (n + 1))]
  rw [h1]
  congr 1
  rw [List.drop_eq_getElem_cons (by omega), List.drop_eq_nil_of_le (by omega), List.getD_eq_getElem?_getD, List.getElem?_eq_getElem (by omega)]; rfl
theorem own_counts (a b : Nat) (hab : a ≠ b) : ∀ l : List Nat, (∀ x ∈ l, x = a ∨ x = b) → l.count a + l.count b = l.length
  | [], _ => rfl
  | x :: l, h => by
    have ih := own_counts a b hab l (fun y hy => h y (List.mem_cons_of_mem _ hy))
    rcases h x List.mem_cons_self with rfl | rfl
    · rw [List.count_cons_self, List.count_cons_of_ne (fun e => hab e), List.length_cons]; omega
    · rw [List.count_cons_self, List.count_cons_of_ne (fun e => hab e.symm), List.length_cons]; omega
/-- The run of a place and that of the one before it. -/
theorem own_run_before (a b n r m : Nat) (hab : a ≠ b) (ha : 1 ≤ a ∧ a ≤ 9) (hb : 1 ≤ b ∧ b ≤ 9) (h : OwnP a b (n + 1) r m) (hn : 1 ≤ n) :
    (runsL (sgL (gOwn a b n))).length = r + 1 ∨ (runsL (sgL (gOwn a b n))).length = r := by
  have h1 := h.one; have h2 := h.le; have h3 := h.len
  by_cases hm : 1 < m
  · refine .inl (ownP_at a b n r hab ha hb (by omega) ?_).run
    rw [gG_succ, List.length_append, List.length_replicate]; omega
  · cases r with
    | zero => simp [gG] at h3; omega
    | succ r =>
      have hp := gLen_pos a b r ha.1 hb.1
      refine .inr (ownP_at a b n r hab ha hb ?_ ?_).run
      · have e : (gG a b (r + 1)).length = (gG a b r).length + gLen a b r := by rw [gG_succ, List.length_append, List.length_replicate]
        omega
      · omega

/-! words of told lengths -/
theorem dgw_inj {x y : Int} (hx : 0 ≤ x ∧ x ≤ 9) (hy : 0 ≤ y ∧ y ≤ 9) (h : dgw x = dgw y) : x = y := by
  have h1 := dgw_nat x hx.1 hx.2
  have h2 := dgw_nat y hy.1 hy.2
  rw [h] at h1; omega
/-- The runs of a word with these lengths. -/
theorem flat_runs {l : List UInt8} (hd : l.all digB = true) (a b : Int) (h : twoD a b = true) : ∀ k, k ≤ l.length → runsL (flatW l a b k) = (List.range k).map fun i => (dgw (alt a b i), lenN l i)
  | 0, _ => rfl
  | k + 1, hk => by
    obtain ⟨ha, hb, hab⟩ := twoD_iff.1 h
    have ih := flat_runs hd a b h k (by omega)
    rw [flatW]
    show (flatW l a b k ++ List.replicate (lenN l k) (dgw (alt a b k))).foldl stepRun [] = _
    rw [List.foldl_append]
    unfold runsL at ih
    rw [ih, runs_rep _ _ ?_ _ (dig_len hd k (by omega)).1, List.range_succ, List.map_append]; rfl
    intro p hp
    cases k with
    | zero => simp at hp
    | succ j =>
      rw [List.range_succ, List.map_append, List.getLast?_append] at hp
      simp at hp
      subst hp
      intro e
      have h1 := alt_ne hab j
      have h2 := alt_mem a b j
      have h3 := alt_mem a b (j + 1)
      exact h1 (dgw_inj (by omega) (by omega) e.symm)
theorem nDig_len {l : List UInt8} (hd : l.all digB = true) (k : Nat) (hk : k < l.length) : nDig (lenN l k) = l[k] := by
  have h := dig_len hd k hk
  apply UInt8.toNat_inj.1
  rw [nDig_nat h.2]
  have h2 := List.all_eq_true.1 hd l[k] (List.getElem_mem hk)
  unfold digB at h2
  rw [decide_eq_true_eq] at h2
  unfold lenN
  rw [List.getD_eq_getElem?_getD, List.getElem?_eq_getElem hk, Option.getD_some]
  omega
theorem flat_lens {l : List UInt8} (hd : l.all digB = true) (a b : Int) (h : twoD a b = true) : lensL (flatW l a b l.length) = l := by
  unfold lensL lensR
  rw [flat_runs hd a b h l.length (Nat.le_refl _), List.map_map]
  refine List.ext_getElem (by simp) fun i h1 h2 => ?_
  simp only [List.getElem_map, List.getElem_range, Function.comp]
  exact nDig_len hd i h2
theorem flat_long {l : List UInt8} (hd : l.all digB = true) (a b : Int) (h : twoD a b = true) : longL (flatW l a b l.length) ≤ 9 := by
  unfold longL
  rw [flat_runs hd a b h l.length (Nat.le_refl _)]
  have key : ∀ k, k ≤ l.length → longR ((List.range k).map fun i => (dgw (alt a b i), lenN l i)) ≤ 9 := by
    intro k
    induction k with
    | zero => intro _; simp [longR]
    | succ k ih =>
      intro hk
      rw [List.range_succ, List.map_append]
      show longR (((List.range k).map fun i => (dgw (alt a b i), lenN l i)) ++ [(dgw (alt a b k), lenN l k)]) ≤ 9
      rw [longR_snoc]
      exact Nat.max_le.2 ⟨ih (by omega), (dig_len hd k (by omega)).2⟩
  exact key l.length (Nat.le_refl _)
theorem flat_head {l : List UInt8} (hd : l.all digB = true) (a b : Int) (h : twoD a b = true) (hl : 1 ≤ l.length) : ∀ k, 1 ≤ k → k ≤ l.length → (flatW l a b k)[0]? = some (dgw a)
  | 1, _, hk => by
    have h1 := (dig_len hd 0 (by omega)).1
    show ([] ++ List.replicate (lenN l 0) (dgw (alt a b 0)))[0]? = _
    rw [List.nil_append, List.getElem?_replicate, if_pos (by omega)]; rfl
  | k + 2, _, hk => by
    have ih := flat_head hd a b h hl (k + 1) (by omega) (by omega)
    rw [flatW, List.getElem?_append_left (List.getElem?_eq_some_iff.1 ih).1]
    exact ih
end Go.Proofs.Ythbjaclobllkhaa
