/- Chapter 8 (pure): texts cut at one byte; names read by the model. -/
import Derived.Test.YtbggbdoanahlmaaDoorm4
namespace Go.Proofs.YtbggbdoanahlmaaDoor
open Go.RowKit
set_option linter.unusedSimpArgs false
set_option linter.unusedVariables false
set_option maxRecDepth 4000

/-- A text cut at each c. -/
def splitL (c : UInt8) : List UInt8 → List (List UInt8)
  | [] => [[]]
  | a :: t => if a = c then [] :: splitL c t else match splitL c t with
    | h :: r => (a :: h) :: r
    | [] => [[a]]
theorem splitL_ne (c : UInt8) : ∀ l, splitL c l ≠ []
  | [] => by simp [splitL]
  | a :: t => by
    rw [splitL]
    split
    · simp
    · split <;> simp
theorem splitL_not {c : UInt8} : ∀ {l : List UInt8}, c ∉ l → splitL c l = [l]
  | [], _ => rfl
  | a :: t, h => by
    have h1 : ¬ a = c := fun e => h (by simp [e])
    have h2 : c ∉ t := fun e => h (by simp [e])
    rw [splitL, if_neg h1, splitL_not h2]
theorem splitL_one {c : UInt8} : ∀ {l b : List UInt8}, splitL c l = [b] → c ∉ l ∧ b = l
  | [], b, h => by simp [splitL] at h; exact ⟨by simp, h⟩
  | a :: t, b, h => by
    rw [splitL] at h
    by_cases h1 : a = c
    · rw [if_pos h1] at h
      have := splitL_ne c t
      simp at h
      exact absurd h.2 this
    · rw [if_neg h1] at h
      cases hs : splitL c t with
      | nil => exact absurd hs (splitL_ne c t)
      | cons x r =>
        rw [hs] at h
        simp at h
        obtain ⟨i1, i2⟩ := splitL_one (l := t) (b := x) (by rw [hs, h.2])
        refine ⟨fun e => ?_, by rw [← h.1, i2]⟩
        rcases List.mem_cons.1 e with e | e
        · exact h1 e.symm
        · exact i1 e
/-- The first c. -/
theorem splitL_at {c : UInt8} : ∀ {l : List UInt8} (k : Nat) (hk : k < l.length), l[k] = c → (∀ j (hj : j < l.length), j < k → l[j] ≠ c) → splitL c l = l.take k :: splitL c (l.drop (k + 1))
  | [], k, hk, _, _ => by simp at hk
  | a :: t, 0, _, h, _ => by
    simp at h
    rw [splitL, if_pos h]; simp
  | a :: t, k + 1, hk, h, hn => by
    have h0 : ¬ a = c := hn 0 (by simp) (by omega)
    have ih := splitL_at (c := c) (l := t) k (by simpa using hk) (by simpa using h) (fun j hj hjk => hn (j + 1) (by simpa using hj) (by omega))
    rw [splitL, if_neg h0, ih]
    simp
theorem splitL_len (c : UInt8) : ∀ l, (splitL c l).length = l.count c + 1
  | [] => rfl
  | a :: t => by
    have ih := splitL_len c t
    rw [splitL]
    by_cases e : a = c
    · rw [if_pos e, List.length_cons, ih, e, List.count_cons_self]
    · rw [if_neg e, List.count_cons_of_ne (fun x => e x)]
      cases hs : splitL c t with
      | nil => exact absurd hs (splitL_ne c t)
      | cons x r => rw [hs] at ih; simpa using ih

theorem joinS_cons (x : List UInt8) (r : List (List UInt8)) (h : r ≠ []) : joinS (x :: r) = x ++ [32] ++ joinS r := by
  cases r with
  | nil => exact absurd rfl h
  | cons a t => rfl
theorem join_split : ∀ s : List UInt8, joinS (splitL 32 s) = s
  | [] => rfl
  | a :: t => by
    have ih := join_split t
    rw [splitL]
    by_cases h : a = 32
    · rw [if_pos h, joinS_cons _ _ (splitL_ne 32 t), ih, h]; rfl
    · rw [if_neg h]
      cases hs : splitL 32 t with
      | nil => exact absurd hs (splitL_ne 32 t)
      | cons x r =>
        rw [hs] at ih
        cases r with
        | nil => simp only [joinS] at ih ⊢; rw [ih]
        | cons y r' => simp only [joinS] at ih ⊢; rw [← ih]; simp
theorem split_word (x t : List UInt8) (hx : (32 : UInt8) ∉ x) : splitL 32 (x ++ 32 :: t) = x :: splitL 32 t := by
  induction x with
  | nil => simp [splitL]
  | cons a x ih =>
    have h1 : ¬ a = 32 := fun e => hx (by simp [e])
    rw [List.cons_append, splitL, if_neg h1, ih (fun h => hx (by simp [h]))]
theorem split_join : ∀ ws : List (List UInt8), ws ≠ [] → (∀ x ∈ ws, (32 : UInt8) ∉ x) → splitL 32 (joinS ws) = ws
  | [], h, _ => absurd rfl h
  | [a], _, h => splitL_not (h a (by simp))
  | a :: b :: t, _, h => by
    have ih := split_join (b :: t) (by simp) (fun x hx => h x (by simp at hx ⊢; right; exact hx))
    rw [joinS_cons _ _ (by simp), List.append_assoc, List.singleton_append, split_word a _ (h a (by simp)), ih]
theorem word_no32 {x : List UInt8} (h : wordB x = true) : (32 : UInt8) ∉ x := by
  intro hm
  unfold wordB at h
  simp only [Bool.and_eq_true, List.all_eq_true] at h
  have := h.2 32 hm
  revert this; decide
theorem split_name (n : Nat) (h : n < 1000000) : splitL 32 (nmN n) = wdsN n := by
  rw [← joinN, split_join _ (wdsN_ne n) (fun x hx => word_no32 (wdsN_word n h x hx))]

/-- The number below 1000 with a name. -/
def hundF (s : List UInt8) : Int := match (List.range 1000).find? (fun n => nm1000 n = s) with
  | some n => (n : Int)
  | none => -1
theorem nmN_small {n : Nat} (h : n < 1000) : nmN n = nm1000 n := by unfold nmN; rw [if_pos h]
theorem hundF_name (n : Nat) (h : n < 1000) : hundF (nm1000 n) = (n : Int) := by
  unfold hundF
  cases hf : (List.range 1000).find? (fun m => nm1000 m = nm1000 n) with
  | none =>
    have := List.find?_eq_none.1 hf n (List.mem_range.2 h)
    simp at this
  | some m =>
    have h1 := List.find?_some hf
    have h2 := List.mem_range.1 (List.mem_of_find?_eq_some hf)
    have h3 : nm1000 m = nm1000 n := by simpa using h1
    have := nmN_inj (n := m) (m := n) (by omega) (by omega) (by rw [nmN_small h2, nmN_small h, h3])
    rw [this]
theorem hundF_some {s : List UInt8} (h : 0 ≤ hundF s) : ∃ n : Nat, n < 1000 ∧ nm1000 n = s ∧ hundF s = (n : Int) := by
  unfold hundF at h ⊢
  cases hf : (List.range 1000).find? (fun m => nm1000 m = s) with
  | none => rw [hf] at h; simp at h
  | some m => exact ⟨m, List.mem_range.1 (List.mem_of_find?_eq_some hf), by simpa using List.find?_some hf, rfl⟩
theorem hundF_le (s : List UInt8) : -1 ≤ hundF s ∧ hundF s < 1000 := by
  by_cases h : 0 ≤ hundF s
  · obtain ⟨n, h1, _, h3⟩ := hundF_some h; omega
  · unfold hundF at h ⊢
    cases hf : (List.range 1000).find? (fun m => nm1000 m = s) with
    | none => simp
    | some m => rw [hf] at h; simp at h
/-- Words behind the first i, none of the first i 'thousand': what the model makes of them. -/
def readW (ws : List (List UInt8)) : Nat → Int
  | 0 => hundF (joinS ws)
  | k + 1 =>
    let i := ws.length - (k + 1)
    if ws.getD i [] = thousandL then
      let hi := hundF (joinS (ws.take i))
      let lo := if i + 1 < ws.length then hundF (joinS (ws.drop (i + 1))) else 0
      if i + 1 < ws.length ∧ lo = 0 then -1 else if hi < 1 ∨ lo < 0 then -1 else 1000 * hi + lo
    else readW ws k
def readZ (s : List UInt8) : Int := if 120 < s.length then -1 else readW (splitL 32 s) (splitL 32 s).length
theorem take_drop_join (ws : List (List UInt8)) (i : Nat) (hi : i < ws.length) (h : ws.getD i [] = thousandL) (hne : ws.take i ≠ []) :
    joinS ws = joinS (ws.take i) ++ [32] ++ thousandL ++ (if i + 1 < ws.length then [32] ++ joinS (ws.drop (i + 1)) else []) := by
  have e : ws = ws.take i ++ (thousandL :: ws.drop (i + 1)) := by
    conv => lhs; rw [← List.take_append_drop i ws, List.drop_eq_getElem_cons hi]
    rw [← h]; simp [List.getD, hi]
  conv => lhs; rw [e]
  rw [joinS_append _ _ hne (by simp)]
  by_cases h2 : i + 1 < ws.length
  · rw [if_pos h2, joinS_cons _ _ (by intro e; have := congrArg List.length e; simp at this; omega)]; simp
  · rw [if_neg h2, List.drop_of_length_le (by omega)]; simp [joinS]
theorem nm1000_ne (n : Nat) (h : n < 1000) : nm1000 n ≠ [] := by
  intro e
  have h1 := split_name n (by omega)
  rw [nmN_small h, e] at h1
  have h2 := wdsN_word n (by omega) [] (by rw [← h1]; decide)
  revert h2; decide
theorem readW_sound (ws : List (List UInt8)) : ∀ k, k ≤ ws.length → 0 ≤ readW ws k → ∃ m : Nat, m < 1000000 ∧ readW ws k = (m : Int) ∧ nmN m = joinS ws
  | 0, _, h => by
    obtain ⟨n, h1, h2, h3⟩ := hundF_some (show 0 ≤ hundF (joinS ws) from h)
    exact ⟨n, by omega, h3, by rw [nmN_small h1, h2]⟩
  | k + 1, hk, h => by
    unfold readW at h ⊢
    simp only at h ⊢
    by_cases ht : ws.getD (ws.length - (k + 1)) [] = thousandL
    · rw [if_pos ht] at h ⊢
      obtain ⟨i, hi⟩ : ∃ i, i = ws.length - (k + 1) := ⟨_, rfl⟩
      rw [← hi] at h ht ⊢
      have hil : i < ws.length := by omega
      obtain ⟨lo, hlo⟩ : ∃ lo : Int, lo = if i + 1 < ws.length then hundF (joinS (ws.drop (i + 1))) else 0 := ⟨_, rfl⟩
      rw [← hlo] at h ⊢
      by_cases h1 : i + 1 < ws.length ∧ lo = 0
      · rw [if_pos h1] at h; omega
      · rw [if_neg h1] at h ⊢
        by_cases h2 : hundF (joinS (ws.take i)) < 1 ∨ lo < 0
        · rw [if_pos h2] at h; omega
        · rw [if_neg h2] at h ⊢
          have h3 : 1 ≤ hundF (joinS (ws.take i)) := by omega
          obtain ⟨a, a1, a2, a3⟩ := hundF_some (show 0 ≤ hundF (joinS (ws.take i)) by omega)
          have hne : ws.take i ≠ [] := by intro e; rw [e] at a2; exact nm1000_ne a a1 a2
          have hj := take_drop_join ws i hil ht hne
          by_cases h4 : i + 1 < ws.length
          · rw [if_pos h4] at hlo hj
            obtain ⟨b, b1, b2, b3⟩ := hundF_some (show 0 ≤ hundF (joinS (ws.drop (i + 1))) by omega)
            have hb0 : b ≠ 0 := fun e => h1 ⟨h4, by rw [hlo, b3, e]; rfl⟩
            refine ⟨1000 * a + b, by omega, by rw [a3, hlo, b3]; omega, ?_⟩
            unfold nmN
            rw [if_neg (by omega), show (1000 * a + b) / 1000 = a by omega, show (1000 * a + b) % 1000 = b by omega, if_neg hb0, a2, b2, hj]
          · rw [if_neg h4] at hlo hj
            refine ⟨1000 * a, by omega, by rw [a3, hlo]; omega, ?_⟩
            unfold nmN
            rw [if_neg (by omega), show (1000 * a) / 1000 = a by omega, show (1000 * a) % 1000 = 0 by omega, if_pos rfl, a2, hj]
    · rw [if_neg ht] at h ⊢
      exact readW_sound ws k (by omega) h
theorem readW_skip (ws : List (List UInt8)) (i : Nat) (h : ∀ j, j < i → ws.getD j [] ≠ thousandL) (hi : i ≤ ws.length) : readW ws ws.length = readW ws (ws.length - i) := by
  induction i with
  | zero => rfl
  | succ i ih =>
    rw [ih (fun j hj => h j (by omega)) (by omega)]
    obtain ⟨k, hk⟩ : ∃ k, ws.length - i = k + 1 := ⟨ws.length - i - 1, by omega⟩
    rw [hk, show ws.length - (i + 1) = k by omega]
    conv => lhs; unfold readW
    simp only
    rw [if_neg (by rw [show ws.length - (k + 1) = i by omega]; exact h i (by omega))]
theorem wd1000_not (n : Nat) (h : n < 1000) : ∀ x ∈ wd1000 n, x ≠ thousandL := by
  intro x hx e
  have key : ∀ n, n < 100 → wd100 n ≠ thousandL := by decide +kernel
  unfold wd1000 at hx
  split at hx
  · simp at hx; subst hx; exact key n (by omega) e
  · simp only [List.mem_append, List.mem_cons, List.not_mem_nil, or_false] at hx
    rcases hx with (rfl | rfl) | hx
    · exact (smN_worth _ (by omega)).2.1 e
    · revert e; decide
    · split at hx
      · simp at hx
      · simp at hx; subst hx; exact key _ (by omega) e
theorem readZ_name (m : Nat) (h : m < 1000000) : readZ (nmN m) = (m : Int) := by
  unfold readZ
  have hl := nmN_len m h
  rw [if_neg (by omega), split_name m h]
  by_cases h1 : m < 1000
  · have hw : wdsN m = wd1000 m := by unfold wdsN; rw [if_pos h1]
    rw [hw]
    have hn := wd1000_not m h1
    rw [readW_skip (wd1000 m) (wd1000 m).length (fun j hj => by
      rw [show (wd1000 m).getD j [] = (wd1000 m)[j] from by simp [List.getD, hj]]
      exact hn _ (List.getElem_mem hj)) (Nat.le_refl _), Nat.sub_self]
    show hundF (joinS (wd1000 m)) = _
    rw [join1000, hundF_name m h1]
  · obtain ⟨A, hA⟩ : ∃ A, A = wd1000 (m / 1000) := ⟨_, rfl⟩
    obtain ⟨R, hR⟩ : ∃ R, R = (if m % 1000 = 0 then [] else wd1000 (m % 1000)) := ⟨_, rfl⟩
    have hw : wdsN m = A ++ thousandL :: R := by unfold wdsN; rw [if_neg h1, ← hA, ← hR]; simp
    have hn := wd1000_not (m / 1000) (by omega)
    rw [← hA] at hn
    rw [hw]
    obtain ⟨W, hW⟩ : ∃ W, W = A ++ thousandL :: R := ⟨_, rfl⟩
    have hlen : W.length = A.length + 1 + R.length := by rw [hW]; simp; omega
    rw [← hW, readW_skip W A.length (fun j hj => by
      rw [hW, show (A ++ thousandL :: R).getD j [] = A[j] from by simp [List.getD, List.getElem?_append_left hj, hj]]
      exact hn _ (List.getElem_mem hj)) (by omega)]
    obtain ⟨k, hk⟩ : ∃ k, W.length - A.length = k + 1 := ⟨R.length, by omega⟩
    rw [hk]
    unfold readW
    simp only
    rw [show W.length - (k + 1) = A.length by omega, if_pos (by rw [hW]; simp [List.getD])]
    have ht : W.take A.length = A := by rw [hW]; simp
    have hd : W.drop (A.length + 1) = R := by rw [hW, List.drop_append]; simp
    rw [ht, hd, hA, join1000, hundF_name _ (by omega)]
    by_cases h0 : m % 1000 = 0
    · have : R = [] := by rw [hR, if_pos h0]
      rw [if_neg (show ¬ (wd1000 (m / 1000)).length + 1 < W.length by rw [hlen, this, hA]; simp)]
      rw [if_neg (by intro e; rw [← hA] at e; rw [hlen, this] at e; simp at e), if_neg (by omega)]
      omega
    · have hr : R = wd1000 (m % 1000) := by rw [hR, if_neg h0]
      have hrl : 0 < R.length := by
        rw [hr]; exact List.length_pos_iff.2 (wd1000_ne _)
      have hc : (wd1000 (m / 1000)).length + 1 < W.length := by rw [hlen, hA]; omega
      rw [if_pos hc, hr, join1000, hundF_name _ (by omega), if_neg (by omega), if_neg (by omega)]
      omega
/-- The number with a name, if there is one. -/
def readO (s : List UInt8) : Option Nat := if 0 ≤ readZ s then some (readZ s).toNat else none
theorem readO_iff (s : List UInt8) (m : Nat) : readO s = some m ↔ (m < 1000000 ∧ nmN m = s) := by
  unfold readO
  constructor
  · intro h
    split at h
    · rename_i h0
      simp at h
      unfold readZ at h0 h
      by_cases hl : 120 < s.length
      · rw [if_pos hl] at h0; omega
      · rw [if_neg hl] at h0 h
        obtain ⟨m', e1, e2, e3⟩ := readW_sound _ _ (Nat.le_refl _) h0
        rw [e2] at h
        simp at h
        subst h
        exact ⟨e1, by rw [e3, join_split]⟩
    · cases h
  · rintro ⟨h1, rfl⟩
    rw [readZ_name m h1, if_pos (by omega)]
    simp
end Go.Proofs.YtbggbdoanahlmaaDoor
