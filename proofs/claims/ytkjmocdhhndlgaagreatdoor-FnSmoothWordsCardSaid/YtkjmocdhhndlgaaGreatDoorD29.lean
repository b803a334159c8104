/- What the laws on smooth words ask, put together (pure). -/
import Derived.Test.YtkjmocdhhndlgaaGreatDoorD28
import Derived.Test.YtkjmocdhhndlgaaGreatDoorD18
import Derived.Test.YtkjmocdhhndlgaaGreatDoorD15
import Derived.Test.YtkjmocdhhndlgaaGreatDoorO10
import Derived.Test.YtkjmocdhhndlgaaGreatDoorO6
namespace Go.Proofs.YtkjmocdhhndlgaaGreatDoor
open Go.RowKit Go.BigFrame Go.Shelf
set_option linter.unusedSimpArgs false
set_option linter.unusedVariables false
set_option maxRecDepth 4000

theorem depV_eq (o : Option Nat) : depV o = .tuple #[.int .i64 ((o.getD 0 : Nat) : Int), .bool o.isSome] := by cases o <;> rfl
theorem strOk_eqD (o : Option (List UInt8)) : strOk o = .tuple #[.string (bs (o.getD [])), .bool o.isSome] := by cases o <;> rfl
theorem ex_some (l : List UInt8) : (exO l).isSome = lowB l := by unfold exO; cases lowB l <;> rfl
theorem dep_lowB {l : List UInt8} (h : (depO l).isSome = true) : lowB l = true := by
  cases e : lowB l with
  | true => rfl
  | false => rw [dep_low e] at h; cases h
theorem der_of_dep {l : List UInt8} (h : (depO l).isSome = true) : (derO l).isSome = true := by
  have hl := dep_lowB h
  by_cases h0 : l = []
  · subst h0; decide
  · cases e : derO l with
    | some m => rfl
    | none => rw [depO_none h0 e] at h; cases h
theorem low_of_der {l : List UInt8} (h : (derO l).isSome = true) : lowB l = true := by
  obtain ⟨m, hm⟩ := Option.isSome_iff_exists.1 h
  exact (derO_low hm).1
theorem derO_xc {l : List UInt8} (h : lowB l = true) : derO (xcL l) = derO l := by
  unfold derO; rw [if_pos h, if_pos (low_xc h), der_xc (low_on h)]
theorem exO_xc {l : List UInt8} (h : lowB l = true) : exO (xcL l) = some l := by
  unfold exO; rw [if_pos (low_xc h), xcL_xcL (low_on h)]
theorem low_good {l : List UInt8} (h : lowB l = true) (h1 : 1 ≤ l.length) : goodL l = true := by
  unfold goodL
  rw [onB_digB (low_on h), decide_eq_true h1, decide_eq_true (by have := low_len h; omega : l.length ≤ 400)]; rfl
theorem lt_of_le_ne {a b : List UInt8} (h : a ≤ b) (hn : a ≠ b) : a < b := by
  rcases Classical.em (a < b) with h2 | h2
  · exact h2
  · exact absurd (List.le_antisymm h (List.not_lt.1 h2)) hn
theorem wdO_facts {l : List UInt8} {ws : List (List UInt8)} (h : wdO l = some ws) : 2 ≤ ws.length ∧ ws.length ≤ 8 ∧ (∀ x ∈ ws, lowB x = true ∧ derO x = some l ∧ (depO x).isSome = (depO l).isSome) ∧ ws.Pairwise (· < ·) := by
  unfold wdO at h
  split at h
  · rename_i hc
    obtain ⟨hl, h1, h25⟩ := hc
    cases h
    have hon := low_on hl
    rw [List.length_mergeSort]
    refine ⟨wd_two l h1, wd_len l, fun x hx => ?_, ?_⟩
    · rw [List.mem_mergeSort] at hx
      obtain ⟨e1, e2⟩ := wd_each hon h1 h25 x hx
      exact ⟨e1, by unfold derO; rw [if_pos e1, e2], by rw [dep_of_der e1 e2 h1 hl, Option.isSome_map]⟩
    · have tr : ∀ a b c : List UInt8, decide (a ≤ b) = true → decide (b ≤ c) = true → decide (a ≤ c) = true := fun a b c h1 h2 => by simp only [decide_eq_true_eq] at *; exact List.le_trans h1 h2
      have tot : ∀ a b : List UInt8, (decide (a ≤ b) || decide (b ≤ a)) = true := fun a b => by simp only [Bool.or_eq_true, decide_eq_true_eq]; exact List.le_total a b
      have hs := List.pairwise_mergeSort tr tot (wdL l)
      have hn : ((wdL l).mergeSort fun x y => decide (x ≤ y)).Nodup := (List.mergeSort_perm (wdL l) _).nodup_iff.2 (wd_nodup hon h1 h25)
      refine (hs.and hn).imp ?_
      intro a b ⟨h1, h2⟩
      exact lt_of_le_ne (by simpa using h1) h2
  · cases h
def kolW : List UInt8 := [50, 50, 49, 49, 50, 49, 50, 50, 49, 50, 50, 49, 49, 50]
theorem kol_sm : smB kolW = true := by decide +kernel
/-- There are smooth words of each length. -/
theorem smAll_pos (n : Nat) (h : n ≤ 14) : 0 < (smAll n).length := by
  have hm : kolW.take n ∈ smAll n := smAll_iff.2 ⟨by rw [List.length_take]; show min n 14 = n; omega, by
    have : kolW.all onB = true := by decide
    rw [List.all_eq_true] at this ⊢
    exact fun x hx => this x (List.mem_of_mem_take hx), sm_pre kolW.length kolW _ (Nat.le_refl _) (List.take_prefix _ _) kol_sm⟩
  exact List.length_pos_of_mem hm
theorem smO_facts {n : Int} {ws : List (List UInt8)} (h : smO n = some ws) : ∃ N : Nat, n = (N : Int) ∧ N ≤ 14 ∧ ws.length ≤ 16384 ∧ (∀ x ∈ ws, x.length = N ∧ (depO x).isSome = true) ∧ ws.Pairwise (· < ·) ∧ (0 < N → ws.length % 2 = 0) ∧ 0 < ws.length := by
  have h16 := smO_len n
  rw [h] at h16
  unfold smO at h
  split at h
  · rename_i hc
    cases h
    refine ⟨n.toNat, by omega, by omega, h16, fun x hx => ?_, smAll_sorted _, fun h => smAll_even _ h, smAll_pos _ (by omega)⟩
    obtain ⟨e1, e2, e3⟩ := smAll_mem hx
    refine ⟨e1, ?_⟩
    have : lowB x = true := by unfold lowB; rw [e2, decide_eq_true (by omega : x.length ≤ 60)]; rfl
    unfold depO; rw [if_pos this]; exact e3
  · cases h
theorem occ_one (c : UInt8) (T : List UInt8) : ∀ k, k ≤ T.length → occ [c] T k = (T.take k).count c
  | 0, _ => by simp [occ]
  | k + 1, hk => by
    have hd : T.drop k = T[k] :: T.drop (k + 1) := List.drop_eq_getElem_cons (by omega)
    rw [occ, occ_one c T k (by omega), List.take_succ_eq_append_getElem (by omega), List.count_append]
    congr 1
    have key : ∀ (t : UInt8) (R : List UInt8), [c].isPrefixOf (t :: R) = (c == t) := fun t R => by simp [List.isPrefixOf]
    unfold hitB
    rw [hd, key, List.count_singleton]
    by_cases e : c = T[k]
    · rw [if_pos (by rw [← e]; simp), if_pos (by rw [← e]; simp)]
    · rw [if_neg (by simpa using e), if_neg (by simpa using fun h => e h.symm)]
theorem own_times {l : List UInt8} {most : Int} (h : soB l most = true) (h1 : l.length = 1) (hm : 0 < most) : ∃ d : Nat, (d = 1 ∨ d = 2) ∧ l = [sgn d] ∧ ctB 1 2 (d : Int) most = true ∧ ownCt 1 2 most (d : Int) = soN l most := by
  unfold soB at h
  simp only [Bool.and_eq_true, decide_eq_true_eq] at h
  have hl := dep_lowB h.1.1
  obtain ⟨d, hd, e⟩ := low_at hl 0 (by omega)
  have hl1 : l = [sgn d] := by
    match l, h1, e with
    | [x], _, e => rw [← e]; rfl
  refine ⟨d, hd, hl1, ?_, ?_⟩
  · unfold ctB
    rw [Bool.and_eq_true]
    exact ⟨askB_iff.2 ⟨by omega, by omega⟩, decide_eq_true (by omega)⟩
  · unfold ownCt soN ownW
    have hlen := gOwn_len 1 2 most.toNat (by omega) (by omega)
    rw [hl1, occ_one _ _ _ (by rw [show (sgL (gOwn 1 2 most.toNat)).length = (gOwn 1 2 most.toNat).length by simp [sgL], hlen]; exact Nat.le_refl _), List.take_of_length_le (by rw [show (sgL (gOwn 1 2 most.toNat)).length = (gOwn 1 2 most.toNat).length by simp [sgL], hlen]; exact Nat.le_refl _)]
    rw [count_sg (fun x hx => by rcases gOwn_mem 1 2 _ x hx with e | e <;> omega) d (by omega)]
    rfl
end Go.Proofs.YtkjmocdhhndlgaaGreatDoor
