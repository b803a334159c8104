/- Inventories as plain lists: how often each digit is in a word, the text that tells it, and what a text tells. No condition. -/
import Derived.Test.YtkdoghopbefjfaaA5
namespace Go.Proofs.Ytkdoghopbefjfaa
open Go.RowKit Go.BigFrame
set_option linter.unusedSimpArgs false
set_option linter.unusedVariables false

def dg (i : Nat) : UInt8 := UInt8.ofNat (49 + i)
def tal (l : List UInt8) : List Nat := (List.range 9).map fun i => l.count (dg i)
theorem tal_len (l : List UInt8) : (tal l).length = 9 := by simp [tal]
theorem tal_get (l : List UInt8) (i : Nat) (h : i < 9) : (tal l)[i]? = some (l.count (dg i)) := by simp [tal, h]
theorem dg_inj {i j : Nat} (hi : i < 9) (hj : j < 9) (h : dg i = dg j) : i = j := by
  have := congrArg UInt8.toNat h
  simp [dg] at this
  omega
theorem dg_of {c : UInt8} (h1 : 49 ≤ c.toNat) (h2 : c.toNat ≤ 57) : dg (c.toNat - 49) = c := by
  apply UInt8.toNat_inj.1
  simp [dg]
  omega
theorem tal_snoc (l : List UInt8) (c : UInt8) (h1 : 49 ≤ c.toNat) (h2 : c.toNat ≤ 57) : tal (l ++ [c]) = (tal l).set (c.toNat - 49) (l.count c + 1) := by
  apply List.ext_getElem (by simp [tal])
  intro i h3 h4
  simp only [tal, List.length_map, List.length_range] at h3
  rw [List.getElem_set]
  simp only [tal, List.getElem_map, List.getElem_range, List.count_append]
  split
  · rename_i e
    subst e
    rw [dg_of h1 h2]
    simp
  · rename_i e
    have hne : dg i ≠ c := fun h => e (by rw [← dg_of h1 h2] at h; exact (dg_inj h3 (by omega) h).symm)
    have hne' : c ≠ dg i := fun h => hne h.symm
    simp [List.count_singleton, hne, hne']
theorem tal_at (l : List UInt8) (c : UInt8) (h1 : 49 ≤ c.toNat) (h2 : c.toNat ≤ 57) : (tal l)[c.toNat - 49]? = some (l.count c) := by
  rw [tal_get _ _ (by omega), dg_of h1 h2]
theorem tal_le (l : List UInt8) : ∀ n ∈ tal l, n ≤ l.length := by
  intro n hn
  simp only [tal, List.mem_map] at hn
  obtain ⟨i, _, rfl⟩ := hn
  exact List.count_le_length

/-! ### The text that tells counts -/
def pairAt (ts : List Nat) (i : Nat) : List UInt8 := if ts.getD i 0 = 0 then [] else numL (ts.getD i 0) ++ numL (i + 1)
def invK (ts : List Nat) (k : Nat) : List UInt8 := (List.range k).flatMap (pairAt ts)
def invT (ts : List Nat) : List UInt8 := invK ts 9
theorem invK_succ (ts : List Nat) (k : Nat) : invK ts (k + 1) = invK ts k ++ pairAt ts k := by simp [invK, List.range_succ]
def okT (ts : List Nat) : Bool := ts.all (fun n => decide (n ≤ 9))
theorem okT_get {ts : List Nat} (h : okT ts = true) {i n : Nat} (hi : ts[i]? = some n) : n ≤ 9 := by
  have := List.all_eq_true.1 h n (List.mem_of_getElem? hi)
  simpa using this
theorem numL_small (n : Nat) (h : n ≤ 9) : numL n = [UInt8.ofNat (48 + n)] := by rw [numL_one _ (by omega)]
theorem pairAt_len (ts : List Nat) (i : Nat) (h : okT ts = true) (hi : i < 9) : (pairAt ts i).length ≤ 2 := by
  unfold pairAt
  split
  · simp
  · have h1 : ts.getD i 0 ≤ 9 := by
      rw [List.getD_eq_getElem?_getD]
      cases e : ts[i]? with
      | none => simp
      | some n => simpa using okT_get h e
    rw [numL_small _ h1, numL_small (i + 1) (by omega)]
    simp
theorem invK_len (ts : List Nat) (h : okT ts = true) : ∀ k, k ≤ 9 → (invK ts k).length ≤ 2 * k
  | 0, _ => by simp [invK]
  | k + 1, hk => by
    have h1 := invK_len ts h k (by omega)
    have h2 := pairAt_len ts k h (by omega)
    rw [invK_succ, List.length_append]
    omega
/-- The inventory of a word, if there is one. -/
def invO (l : List UInt8) : Option (List UInt8) := if goodL l = true ∧ okT (tal l) = true then some (invT (tal l)) else none
theorem invO_len {l m : List UInt8} (h : invO l = some m) : m.length ≤ 18 := by
  unfold invO at h
  split at h
  · rename_i hh
    cases h
    exact invK_len _ hh.2 9 (Nat.le_refl _)
  · cases h

/-! ### What a text tells -/
def toldF : Nat → List Nat → List UInt8 → Option (List Nat)
  | _, acc, [] => some acc
  | _, _, [_] => none
  | b, acc, x :: y :: r => if y.toNat - 48 ≤ b then none else toldF (y.toNat - 48) (acc.set (y.toNat - 49) (x.toNat - 48)) r
def incF : Nat → List UInt8 → Bool
  | _, [] => true
  | _, [_] => false
  | b, _ :: y :: r => if y.toNat - 48 ≤ b then false else incF (y.toNat - 48) r
theorem told_inc : ∀ (l : List UInt8) (b : Nat) (acc : List Nat), (toldF b acc l).isSome = incF b l
  | [], _, _ => rfl
  | [_], _, _ => rfl
  | x :: y :: r, b, acc => by
    unfold toldF incF
    split
    · rfl
    · exact told_inc r _ _
def zeros9 : List Nat := List.replicate 9 0
def toldL (l : List UInt8) : Option (List Nat) := if goodL l = true then toldF 0 zeros9 l else none
def isInvL (l : List UInt8) : Bool := goodL l && incF 0 l
theorem toldL_isSome (l : List UInt8) : (toldL l).isSome = isInvL l := by
  unfold toldL isInvL
  split
  · rename_i h; rw [told_inc, h]; rfl
  · rename_i h; simp [h]

def prF : Nat → List Nat → List UInt8
  | _, [] => []
  | d, n :: r => (if n = 0 then [] else numL n ++ numL (d + 1)) ++ prF (d + 1) r
theorem prF_snoc : ∀ (ts : List Nat) (d n : Nat), prF d (ts ++ [n]) = prF d ts ++ (if n = 0 then [] else numL n ++ numL (d + ts.length + 1))
  | [], d, n => by simp [prF]
  | a :: r, d, n => by
    simp only [List.cons_append, prF, prF_snoc r (d + 1) n, List.append_assoc, List.length_cons]
    rw [show d + 1 + r.length + 1 = d + (r.length + 1) + 1 from by omega]
theorem invK_prF (ts : List Nat) : ∀ k, k ≤ ts.length → invK ts k = prF 0 (ts.take k)
  | 0, _ => by simp [invK, prF]
  | k + 1, h => by
    rw [invK_succ, invK_prF ts k (by omega), List.take_succ_eq_append_getElem (by omega), prF_snoc]
    congr 1
    unfold pairAt
    rw [List.getD_eq_getElem?_getD, List.getElem?_eq_getElem (by omega)]
    simp [Nat.min_eq_left (show k ≤ ts.length by omega)]
theorem invT_prF {ts : List Nat} (h : ts.length = 9) : invT ts = prF 0 ts := by
  unfold invT
  rw [invK_prF ts 9 (by omega), List.take_of_length_le (by omega)]

/-- What is told is read again. -/
theorem told_of_pr : ∀ (ts : List Nat) (d b : Nat) (acc : List Nat), b ≤ d → d + ts.length = 9 → acc.length = 9 → (∀ i, d ≤ i → i < 9 → acc[i]? = some 0) → (∀ n ∈ ts, n ≤ 9) →
    toldF b acc (prF d ts) = some (acc.take d ++ ts)
  | [], d, b, acc, hb, hd, hl, hz, hn => by
    simp at hd; subst hd
    simp [prF, toldF, List.take_of_length_le (by omega : acc.length ≤ 9)]
  | n :: r, d, b, acc, hb, hd, hl, hz, hn => by
    simp only [List.length_cons] at hd
    have h0 := hz d (Nat.le_refl _) (by omega)
    obtain ⟨hdl, h0'⟩ := List.getElem?_eq_some_iff.1 h0
    unfold prF
    by_cases e : n = 0
    · subst e
      rw [if_pos rfl, List.nil_append, told_of_pr r (d + 1) b acc (by omega) (by omega) hl (fun i h1 h2 => hz i (by omega) h2) (fun m hm => hn m (List.mem_cons_of_mem _ hm))]
      rw [List.take_succ_eq_append_getElem hdl, h0']
      simp
    · have hn9 := hn n List.mem_cons_self
      rw [if_neg e, numL_small n hn9, numL_small (d + 1) (by omega)]
      simp only [List.cons_append, List.nil_append]
      unfold toldF
      have hy : (UInt8.ofNat (48 + (d + 1))).toNat = 48 + (d + 1) := by simp; omega
      have hx : (UInt8.ofNat (48 + n)).toNat = 48 + n := by simp; omega
      rw [hx, hy, if_neg (by omega), show 48 + (d + 1) - 48 = d + 1 from by omega, show 48 + (d + 1) - 49 = d from by omega, show 48 + n - 48 = n from by omega]
      rw [told_of_pr r (d + 1) (d + 1) (acc.set d n) (Nat.le_refl _) (by omega) (by simpa using hl) (fun i h1 h2 => by rw [List.getElem?_set_ne (by omega)]; exact hz i (by omega) h2) (fun m hm => hn m (List.mem_cons_of_mem _ hm))]
      congr 1
      rw [List.take_succ_eq_append_getElem (by simpa using hdl)]
      have e5 : (acc.take d).set d n = acc.take d := List.set_eq_of_length_le (by simp; omega)
      simp [List.take_set, e5]
theorem prF_zero (ts : List Nat) (b c : Nat) (hbc : b ≤ c) (hc : c ≤ ts.length) (h : ∀ i, b ≤ i → i < c → ts[i]? = some 0) : prF b (ts.drop b) = prF c (ts.drop c) := by
  obtain ⟨k, rfl⟩ : ∃ k, c = b + k := ⟨c - b, by omega⟩
  clear hbc
  induction k with
  | zero => rfl
  | succ k ih =>
    rw [ih (by omega) (fun i h1 h2 => h i h1 (by omega))]
    obtain ⟨h1, h2⟩ := List.getElem?_eq_some_iff.1 (h (b + k) (by omega) (by omega))
    rw [List.drop_eq_getElem_cons h1, h2]
    simp [prF, Nat.add_assoc]
/-- What is read is told so. -/
theorem pr_of_told : ∀ (l : List UInt8) (b : Nat) (acc ts : List Nat), l.all digB = true → acc.length = 9 → b ≤ 9 → (∀ i, b ≤ i → i < 9 → acc[i]? = some 0) → toldF b acc l = some ts →
    ts.length = 9 ∧ (∀ i, i < b → ts[i]? = acc[i]?) ∧ (∀ i n, b ≤ i → ts[i]? = some n → n ≤ 9) ∧ l = prF b (ts.drop b)
  | [], b, acc, ts, _, hl, hb, hz, h => by
    simp only [toldF, Option.some.injEq] at h
    subst h
    refine ⟨hl, fun _ _ => rfl, fun i n h1 h2 => ?_, ?_⟩
    · have := get_lt h2
      rw [hz i h1 (by omega)] at h2; cases h2; omega
    · rw [prF_zero acc b 9 hb (by omega) hz, List.drop_of_length_le (by omega)]; rfl
  | [_], b, acc, ts, _, hl, hb, hz, h => by simp [toldF] at h
  | x :: y :: r, b, acc, ts, ha, hl, hb, hz, h => by
    unfold toldF at h
    simp only [List.all_cons, Bool.and_eq_true, digB, decide_eq_true_eq] at ha
    obtain ⟨⟨hx1, hx2⟩, ⟨hy1, hy2⟩, hr⟩ := ha
    split at h
    · cases h
    rename_i hyb
    obtain ⟨h1, h2, h3, h4⟩ := pr_of_told r (y.toNat - 48) (acc.set (y.toNat - 49) (x.toNat - 48)) ts hr (by simpa using hl) (by omega)
      (fun i i1 i2 => by rw [List.getElem?_set_ne (by omega)]; exact hz i (by omega) i2) h
    have hat : ts[y.toNat - 49]? = some (x.toNat - 48) := by
      rw [h2 _ (by omega), List.getElem?_set_self (by omega)]
    have hother : ∀ i, i < y.toNat - 49 → ts[i]? = acc[i]? := fun i hi => by
      rw [h2 i (by omega), List.getElem?_set_ne (by omega)]
    refine ⟨h1, fun i hi => hother i (by omega), fun i n i1 i2 => ?_, ?_⟩
    · by_cases e : i < y.toNat - 49
      · rw [hother i e, hz i i1 (by omega)] at i2; cases i2; omega
      · by_cases e2 : i = y.toNat - 49
        · subst e2; rw [hat] at i2; cases i2; omega
        · exact h3 i n (by omega) i2
    · rw [prF_zero ts b (y.toNat - 49) (by omega) (by omega) (fun i i1 i2 => by rw [hother i i2]; exact hz i i1 (by omega))]
      obtain ⟨k1, k2⟩ := List.getElem?_eq_some_iff.1 hat
      rw [List.drop_eq_getElem_cons k1, k2]
      unfold prF
      rw [if_neg (by omega), numL_small _ (by omega), numL_small _ (by omega), show y.toNat - 49 + 1 = y.toNat - 48 from by omega, ← h4]
      have ex : UInt8.ofNat (48 + (x.toNat - 48)) = x := by apply UInt8.toNat_inj.1; simp; omega
      have ey : UInt8.ofNat (48 + (y.toNat - 48)) = y := by apply UInt8.toNat_inj.1; simp; omega
      rw [ex, ey]; rfl
theorem zeros9_get (i : Nat) (h : i < 9) : zeros9[i]? = some 0 := by
  unfold zeros9; rw [List.getElem?_replicate, if_pos h]
/-- A word is its own inventory just where what it tells is what is in it. -/
theorem own_iff {l : List UInt8} (h : goodL l = true) : toldL l = some (tal l) ↔ invO l = some l := by
  have hd : l.all digB = true := by unfold goodL at h; simp only [Bool.and_eq_true] at h; exact h.2
  unfold toldL invO
  rw [if_pos h]
  constructor
  · intro ht
    obtain ⟨h1, _, h3, h4⟩ := pr_of_told l 0 zeros9 (tal l) hd rfl (by omega) (fun i _ hi => zeros9_get i hi) ht
    have hok : okT (tal l) = true := by
      apply List.all_eq_true.2
      intro n hn
      obtain ⟨i, hi⟩ := List.mem_iff_getElem?.1 hn
      simpa using h3 i n (Nat.zero_le _) hi
    rw [if_pos ⟨h, hok⟩, invT_prF (tal_len l)]
    simp only [List.drop_zero] at h4
    rw [← h4]
  · intro ho
    split at ho
    · rename_i hh
      rw [invT_prF (tal_len l)] at ho
      have := told_of_pr (tal l) 0 0 zeros9 (Nat.le_refl _) (by rw [tal_len]) rfl (fun i _ hi => zeros9_get i hi) (fun n hn => by simpa using List.all_eq_true.1 hh.2 n hn)
      rw [Option.some.inj ho] at this
      simpa using this
    · cases ho
/-- What an own inventory's Boolean is on either side. -/
def isOwnL (l : List UInt8) : Bool := decide (invO l = some l)
end Go.Proofs.Ytkdoghopbefjfaa
