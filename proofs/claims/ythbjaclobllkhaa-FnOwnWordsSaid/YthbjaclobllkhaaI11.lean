/- What is heard: the pure side, and the model's woTimes. -/
import Derived.Test.YthbjaclobllkhaaI10
import Derived.Test.YthbjaclobllkhaaA4
namespace Go.Proofs.Ythbjaclobllkhaa
open Go.RowKit Go.BigFrame
set_option linter.unusedSimpArgs false
set_option linter.unusedVariables false
set_option maxRecDepth 4000

/-- The runs that a word tells, two digits each. -/
def rowsH (l : List UInt8) : List (List Int) := (List.range (l.length / 2)).map (fun k => [((l.getD (2 * k + 1) 0).toNat : Int) - 48, ((l.getD (2 * k) 0).toNat : Int) - 48])
theorem rowsH_len (l : List UInt8) : (rowsH l).length = l.length / 2 := by simp [rowsH]
theorem rowsH_get (l : List UInt8) (k : Nat) (h : k < (rowsH l).length) : (rowsH l)[k] = [((l.getD (2 * k + 1) 0).toNat : Int) - 48, ((l.getD (2 * k) 0).toNat : Int) - 48] := by simp [rowsH]
def hearStep (st : Option (List UInt8 × Int)) (row : List Int) : Option (List UInt8 × Int) :=
  match st with
  | none => none
  | some (t, b) => if row.getD 0 0 ≠ b then some (t ++ List.replicate (row.getD 1 0).toNat (dgw (row.getD 0 0)), row.getD 0 0) else none
def hearL (nss : List (List Int)) : Option (List UInt8 × Int) := nss.foldl hearStep (some ([], 0))
theorem hearL_succ (nss : List (List Int)) (k : Nat) (h : k < nss.length) : hearL (nss.take (k + 1)) = hearStep (hearL (nss.take k)) nss[k] := by
  unfold hearL; rw [List.take_succ_eq_append_getElem h, List.foldl_append]; rfl
theorem foldH_none (l : List (List Int)) : l.foldl hearStep none = none := by
  induction l with
  | nil => rfl
  | cons a r ih => simpa [hearStep] using ih
theorem hearL_none (nss : List (List Int)) (k : Nat) (h : hearL (nss.take k) = none) : hearL nss = none := by
  conv => lhs; rw [← List.take_append_drop k nss]
  unfold hearL at *
  rw [List.foldl_append, h, foldH_none]
/-- The two states: the same, or the one has stopped and the other has stopped or holds too much. -/
def Near (a b : Option (List UInt8 × Int)) : Prop := a = b ∨ (a = none ∧ (b = none ∨ ∃ t c, b = some (t, c) ∧ 400 < t.length))
theorem near_step {a b : Option (List UInt8 × Int)} {row : List Int} (hr : isRunB row = true) (h : Near a b) : Near (worStep a row) (hearStep b row) := by
  rcases h with rfl | ⟨rfl, rfl | ⟨t, c, rfl, h4⟩⟩
  · cases a with
    | none => exact .inl rfl
    | some p =>
      obtain ⟨t, c⟩ := p
      unfold worStep hearStep
      simp only [hr, true_and]
      by_cases h1 : row.getD 0 0 = c
      · rw [if_neg (fun h => h.1 h1), if_neg (fun h => h h1)]; exact .inl rfl
      · rw [if_pos h1]
        by_cases h2 : row.getD 1 0 ≤ 400 - (t.length : Int)
        · rw [if_pos ⟨h1, h2⟩]; exact .inl rfl
        · rw [if_neg (fun h => h2 h.2)]
          exact .inr ⟨rfl, .inr ⟨_, _, rfl, by simp only [List.length_append, List.length_replicate]; omega⟩⟩
  · exact .inl rfl
  · refine .inr ⟨rfl, ?_⟩
    unfold hearStep
    by_cases h1 : row.getD 0 0 = c
    · exact .inl (if_neg (fun h => h h1))
    · exact .inr ⟨_, _, if_pos h1, by simp only [List.length_append, List.length_replicate]; omega⟩
theorem near_fold (nss : List (List Int)) : ∀ (a b : Option (List UInt8 × Int)), (∀ r ∈ nss, isRunB r = true) → Near a b → Near (nss.foldl worStep a) (nss.foldl hearStep b) := by
  induction nss with
  | nil => intro a b _ h; exact h
  | cons r rs ih =>
    intro a b hr h
    exact ih _ _ (fun q hq => hr q (List.mem_cons_of_mem _ hq)) (near_step (hr r List.mem_cons_self) h)
/-- The word of runs that are runs, told by the fold without the bound. -/
theorem wordO_hear (nss : List (List Int)) (hr : ∀ r ∈ nss, isRunB r = true) : wordO nss = match hearL nss with
    | some (t, _) => if goodL t = true then some t else none
    | none => none := by
  have h := near_fold nss (some ([], 0)) (some ([], 0)) hr (.inl rfl)
  unfold wordO
  change Near (worL nss) (hearL nss) at h
  rcases h with h | ⟨h, h2 | ⟨t, c, h2, h4⟩⟩
  · rw [h]; cases hearL nss <;> rfl
  · rw [h, h2]
  · rw [h, h2]
    have : ¬ goodL t = true := by unfold goodL; simp; omega
    simp only [if_neg this]
def hearO (l : List UInt8) : Option (List UInt8) := if goodL l = true ∧ l.length % 2 = 0 then wordO (rowsH l) else none

set_option maxHeartbeats 1000000 in
theorem woTimes_any (d : Int) (n : Nat) (w : World) (hd0 : 1 ≤ d) (hd9 : d ≤ 9) (hn : n ≤ 400) :
    Calls Try.prog 48 #[.int .i64 d, .int .i64 n] w fun e w' => e = .returned (.string (bs (List.replicate n (dgw d)))) ∧ Below w.heap.size w w' := by
  have hnum := fun (W : World) => l1Num_any 9 d W (by omega) (by omega) (by omega)
  rw [numL_one d.toNat (by omega)] at hnum
  change ∀ W : World, Calls Try.prog 31 #[.int .i64 d] W fun e w' => e = .returned (.string (bs [dgw d])) ∧ Below W.heap.size W w' at hnum
  have HNUM := Lib.hid hnum; clear hnum
  go_enter Try.func48, Try.ntmps48
  go_wp2_with fail
  go_loopw [1, 5] (fun i o wr => ∃ (k m : Nat), k + m = n ∧ i = .int .i64 (k : Int) ∧ o = .string (bs (List.replicate m (dgw d))) ∧ Hid (Below w.heap.size w wr)) (fun i _ _ => (intOf i).toNat)
  case atStart => exact ⟨n, 0, rfl, rfl, rfl, below_refl _⟩
  case round =>
    obtain ⟨k, m, hk, rfl, rfl, HW⟩ := hrel
    have hsz : (bs (List.replicate m (dgw d))).size = m := by rw [bs_size, List.length_replicate]
    have hs1 : (bs [dgw d]).size = 1 := by rw [bs_size]; rfl
    cases k with
    | zero =>
      obtain rfl : m = n := by omega
      go_wp2_with fail
      go_ret
      exact ⟨rfl, HW.out⟩
    | succ j =>
      have hj : (0 : Int) ≤ (j : Int) + 1 := by omega
      have hj2 : (0 : Int) < (j : Int) + 1 := by omega
      go_wp2_with (go_at_call 31; refine (HNUM.out _).mono ?_; rintro e w2 ⟨rfl, hb2⟩)
      go_roundw
      case rel => exact ⟨j, m + 1, by omega, by go_num, by rw [bs_append, List.replicate_succ'], below_trans HW.out hb2⟩
      case measure => simp [intOf] <;> omega
end Go.Proofs.Ythbjaclobllkhaa
