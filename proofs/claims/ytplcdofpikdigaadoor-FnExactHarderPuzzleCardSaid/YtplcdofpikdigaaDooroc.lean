/- Chapter 9: the model's search (pure part; pzLook, pzAll, pzAsked). -/

import Derived.Test.YtplcdofpikdigaaDooroa
import Derived.Test.YtplcdofpikdigaaDoorq3
namespace Go.Proofs.YtplcdofpikdigaaDoor
open Go.RowKit Go.BigFrame
set_option linter.unusedSimpArgs false
set_option linter.unusedVariables false
set_option maxRecDepth 4000
attribute [local irreducible] wpStill wpAny wpList

theorem grD_snoc : ∀ (n : Nat) (x : UInt8), grD (n + 1) x = grD n x ++ [x + 1 + UInt8.ofNat n]
  | 0, x => by simp [grD]
  | n + 1, x => by
    have h := grD_snoc n (x + 1)
    rw [grD, h, grD, List.cons_append]
    congr 2
    have : UInt8.ofNat (n + 1) = 1 + UInt8.ofNat n := by
      rw [UInt8.ofNat_add]; 
      exact UInt8.add_comm _ _
    rw [this, ← UInt8.add_assoc]
/-- The words that begin with one of the first d digits. -/
def tryL (D : Nat) (c : UInt8) (W : List UInt8) : Nat → List (List UInt8)
  | 0 => []
  | d + 1 => tryL D c W d ++ (if c = 46 ∨ c = 49 + UInt8.ofNat d then (compl D W).map ((49 + UInt8.ofNat d) :: ·) else [])
theorem tryL_gap (D : Nat) (W : List UInt8) : ∀ d, tryL D 46 W d = (grD d 48).flatMap fun y => (compl D W).map (y :: ·)
  | 0 => rfl
  | d + 1 => by
    rw [tryL, tryL_gap D W d, if_pos (.inl rfl), grD_snoc, List.flatMap_append]
    congr 1
    simp only [List.flatMap_cons, List.flatMap_nil, List.append_nil]
    rfl
theorem d49 {a : Nat} (h : a < 200) : (49 + UInt8.ofNat a : UInt8).toNat = 49 + a := by
  rw [UInt8.toNat_add]
  have h1 : (49 : UInt8).toNat = 49 := rfl
  have h2 : (UInt8.ofNat a).toNat = a := by simp; omega
  rw [h1, h2]; omega
theorem ofNat_ne {a b : Nat} (ha : a < 200) (hb : b < 200) (h : a ≠ b) : (49 + UInt8.ofNat a : UInt8) ≠ 49 + UInt8.ofNat b := fun e => h (by
  have := congrArg UInt8.toNat e
  rw [d49 ha, d49 hb] at this
  omega)
theorem tryL_dig (D : Nat) (W : List UInt8) (j : Nat) (hj : j < 100) (h46 : (49 + UInt8.ofNat j : UInt8) ≠ 46) : ∀ d, d ≤ 100 → tryL D (49 + UInt8.ofNat j) W d = if j < d then (compl D W).map ((49 + UInt8.ofNat j) :: ·) else []
  | 0, _ => by simp [tryL]
  | d + 1, hd => by
    rw [tryL, tryL_dig D W j hj h46 d (by omega)]
    by_cases e : j = d
    · subst e
      rw [if_neg (Nat.lt_irrefl _), if_pos (.inr rfl), if_pos (Nat.lt_succ_self _), List.nil_append]
    · have hn : ¬ ((49 + UInt8.ofNat j : UInt8) = 46 ∨ (49 + UInt8.ofNat j : UInt8) = 49 + UInt8.ofNat d) := fun h => by
        rcases h with h | h
        · exact h46 h
        · exact ofNat_ne (by omega) (by omega) e h
      rw [if_neg hn, List.append_nil]
      by_cases h : j < d
      · rw [if_pos h, if_pos (by omega)]
      · rw [if_neg h, if_neg (by omega)]
/-- All digits tried. -/
theorem tryL_all {D : Nat} (hD : D ≤ 9) (c : UInt8) (W : List UInt8) (hc : sgB (D : Int) c = true) : tryL D c W D = compl D (c :: W) := by
  unfold sgB at hc
  simp only [Bool.or_eq_true, decide_eq_true_eq] at hc
  by_cases h46 : c = 46
  · subst h46
    rw [tryL_gap, compl, if_pos rfl]
  · have h46' : c.toNat ≠ 46 := fun e => h46 (UInt8.toNat_inj.1 (by have : (46 : UInt8).toNat = 46 := rfl; omega))
    obtain ⟨j, hj⟩ : ∃ j, j = c.toNat - 49 := ⟨_, rfl⟩
    have hjD : j < D := by omega
    have hcj : c = 49 + UInt8.ofNat j := by
      apply UInt8.toNat_inj.1
      rw [d49 (by omega)]
      omega
    rw [compl, if_neg h46]
    rw [hcj] at h46 ⊢
    rw [tryL_dig D W j (by omega) h46 D (by omega), if_pos hjD]
    simp

/-- The solutions that are kept: no more than 201. -/
def keepL (acc X : List (List UInt8)) : List (List UInt8) := acc ++ X.take (201 - acc.length)
theorem keepL_len {acc X : List (List UInt8)} (h : acc.length ≤ 201) : (keepL acc X).length ≤ 201 := by
  unfold keepL; rw [List.length_append, List.length_take]; omega
theorem keepL_app (acc X Y : List (List UInt8)) : keepL (keepL acc X) Y = keepL acc (X ++ Y) := by
  unfold keepL
  rw [List.length_append, List.length_take, List.take_append, List.append_assoc]
  congr 3
  omega
theorem keepL_full {acc X : List (List UInt8)} (h : 200 < acc.length) : keepL acc X = acc := by
  unfold keepL; rw [show 201 - acc.length = 0 by omega]; simp
theorem keepL_nil (acc : List (List UInt8)) : keepL acc [] = acc := by simp [keepL]
/-- The solutions that begin so. -/
def begL (D : Nat) (W S pre : List UInt8) : List (List UInt8) := ((compl D (W.drop pre.length)).map (pre ++ ·)).filter (solB W S (D : Int))
def begT (D : Nat) (W S pre : List UInt8) (c : UInt8) (W' : List UInt8) (d : Nat) : List (List UInt8) := ((tryL D c W' d).map (pre ++ ·)).filter (solB W S (D : Int))
theorem begT_zero (D : Nat) (W S pre : List UInt8) (c : UInt8) (W' : List UInt8) : begT D W S pre c W' 0 = [] := rfl
theorem begT_succ (D : Nat) (W S pre : List UInt8) (c : UInt8) (d : Nat) (hp : pre.length < W.length) (hW : W.drop pre.length = c :: W.drop (pre.length + 1)) :
    begT D W S pre c (W.drop (pre.length + 1)) (d + 1) = begT D W S pre c (W.drop (pre.length + 1)) d ++ (if c = 46 ∨ c = 49 + UInt8.ofNat d then begL D W S (pre ++ [49 + UInt8.ofNat d]) else []) := by
  unfold begT begL
  rw [tryL, List.map_append, List.filter_append]
  congr 1
  by_cases h : c = 46 ∨ c = 49 + UInt8.ofNat d
  · rw [if_pos h, if_pos h, List.length_append, List.length_singleton, List.map_map]
    congr 2
    funext x
    simp
  · rw [if_neg h, if_neg h]; rfl
theorem begT_all {D : Nat} (hD : D ≤ 9) (W S pre : List UInt8) (c : UInt8) (hp : pre.length < W.length) (hW : W.drop pre.length = c :: W.drop (pre.length + 1)) (hc : sgB (D : Int) c = true) :
    begT D W S pre c (W.drop (pre.length + 1)) D = begL D W S pre := by
  unfold begT begL
  rw [tryL_all hD c _ hc, hW]
theorem begL_end (D : Nat) (W S pre : List UInt8) (hp : pre.length = W.length) : begL D W S pre = if solB W S (D : Int) pre = true then [pre] else [] := by
  unfold begL
  rw [hp, List.drop_length]
  cases h : solB W S (D : Int) pre <;> simp [compl, h]
theorem begL_nil (D : Nat) (W S : List UInt8) : begL D W S [] = solsL W S D := by
  unfold begL solsL
  simp
end Go.Proofs.YtplcdofpikdigaaDoor
