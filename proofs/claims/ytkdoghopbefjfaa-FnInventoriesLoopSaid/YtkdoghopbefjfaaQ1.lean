/- Tallies in lexicographic order (pure): all of them, those after one, and the odometer's steps; self-told lists. -/
import Derived.Test.YtkdoghopbefjfaaU1
namespace Go.Proofs.Ytkdoghopbefjfaa
set_option linter.unusedSimpArgs false
set_option linter.unusedVariables false

/-- All lists of m numbers, each at most mo, with a sum of at most left, in order. -/
def allS (mo : Nat) : Nat → Nat → List (List Nat)
  | 0, _ => [[]]
  | m + 1, left => (List.range' 0 (min mo left + 1)).flatMap fun y => (allS mo m (left - y)).map (y :: ·)
/-- Those after all that begin with p, m numbers behind it. -/
def aftP (mo m : Nat) : List Nat → Nat → List (List Nat)
  | [], _ => []
  | x :: p, left => (aftP mo m p (left - x)).map (x :: ·) ++ (List.range' (x + 1) (min mo left - x)).flatMap fun y => (allS mo (p.length + m) (left - y)).map (y :: ·)
theorem allS_zero (mo : Nat) : ∀ (m left : Nat), allS mo m left = List.replicate m 0 :: aftP mo 0 (List.replicate m 0) left
  | 0, _ => rfl
  | m + 1, left => by
    rw [List.replicate_succ, allS, aftP, List.range'_succ, List.flatMap_cons, Nat.sub_zero, allS_zero mo m left]
    simp only [List.length_replicate, Nat.add_zero, Nat.zero_add, Nat.sub_zero, List.map_cons, List.cons_append]
theorem aftP_append (mo : Nat) (r : List Nat) : ∀ (p : List Nat) (left : Nat), aftP mo 0 (p ++ r) left = (aftP mo 0 r (left - p.sum)).map (p ++ ·) ++ aftP mo r.length p left
  | [], left => by simp [aftP]
  | x :: p, left => by
    rw [List.cons_append, aftP, aftP_append mo r p (left - x), aftP, List.map_append, List.map_map, List.append_assoc, List.length_append, Nat.add_zero, List.sum_cons, Nat.sub_sub]
    congr 1
theorem aftP_up (mo m x : Nat) : ∀ (q : List Nat) (left : Nat), aftP mo m (q ++ [x]) left = ((List.range' (x + 1) (min mo (left - q.sum) - x)).flatMap fun y => (allS mo m (left - q.sum - y)).map fun t => q ++ y :: t) ++ aftP mo (m + 1) q left
  | [], left => by simp [aftP]
  | z :: q, left => by
    rw [List.cons_append, aftP, aftP_up mo m x q (left - z), aftP, List.map_append, List.append_assoc, List.sum_cons, ← Nat.sub_sub, List.map_flatMap]
    congr 1
    · congr 1; funext y; rw [List.map_map]; rfl
    · rw [List.length_append, List.length_singleton, Nat.add_assoc, Nat.add_comm 1 m]
theorem aftP_back (mo m x : Nat) (q : List Nat) (left : Nat) (h : min mo (left - q.sum) ≤ x) : aftP mo m (q ++ [x]) left = aftP mo (m + 1) q left := by
  rw [aftP_up, Nat.sub_eq_zero_of_le h]; simp
theorem aftP_step (mo m x : Nat) (q : List Nat) (left : Nat) (h : x < min mo (left - q.sum)) :
    aftP mo m (q ++ [x]) left = (q ++ (x + 1) :: List.replicate m 0) :: aftP mo 0 (q ++ (x + 1) :: List.replicate m 0) left := by
  have e : q ++ (x + 1) :: List.replicate m 0 = (q ++ [x + 1]) ++ List.replicate m 0 := by simp
  rw [e, aftP_append, List.length_replicate, aftP_up mo m (x + 1) q left, aftP_up mo m x q left]
  obtain ⟨d, hd⟩ : ∃ d, min mo (left - q.sum) - x = d + 1 := ⟨min mo (left - q.sum) - x - 1, by omega⟩
  have hd' : min mo (left - q.sum) - (x + 1) = d := by omega
  rw [hd, hd', List.range'_succ, List.flatMap_cons, allS_zero mo m (left - q.sum - (x + 1))]
  have hs : left - (q ++ [x + 1]).sum = left - q.sum - (x + 1) := by rw [List.sum_append]; simp; omega
  rw [hs]
  simp [List.append_assoc]
theorem allS_len (mo : Nat) : ∀ (m left : Nat), ∀ l ∈ allS mo m left, l.length = m
  | 0, _, l, h => by simp [allS] at h; subst h; rfl
  | m + 1, left, l, h => by
    simp only [allS, List.mem_flatMap, List.mem_map] at h
    obtain ⟨y, _, t, ht, rfl⟩ := h
    simp [allS_len mo m _ t ht]
theorem aftP_len (mo n left : Nat) : ∀ l ∈ aftP mo 0 (List.replicate n 0) left, l.length = n := fun l h =>
  allS_len mo n left l (by rw [allS_zero]; exact List.mem_cons_of_mem _ h)
/-- How many. -/
def cntS (mo : Nat) : Nat → Nat → Nat
  | 0, _ => 1
  | m + 1, left => ((List.range' 0 (min mo left + 1)).map fun y => cntS mo m (left - y)).sum
theorem allS_cnt (mo : Nat) : ∀ (m left : Nat), (allS mo m left).length = cntS mo m left
  | 0, _ => rfl
  | m + 1, left => by
    rw [allS, cntS, List.length_flatMap]
    congr 1
    apply List.map_congr_left
    intro y _
    rw [List.length_map, allS_cnt mo m]
theorem cntS_le (mo : Nat) (h9 : mo ≤ 9) : ∀ (m left : Nat), cntS mo m left ≤ 10 ^ m
  | 0, _ => Nat.le_refl _
  | m + 1, left => by
    rw [cntS]
    have : ∀ (l : List Nat), (l.map fun y => cntS mo m (left - y)).sum ≤ l.length * 10 ^ m := by
      intro l
      induction l with
      | nil => simp
      | cons y l ih =>
        have := cntS_le mo h9 m (left - y)
        simp only [List.map_cons, List.sum_cons, List.length_cons, Nat.succ_mul]
        omega
    have h1 := this (List.range' 0 (min mo left + 1))
    rw [List.length_range'] at h1
    have h2 : (min mo left + 1) * 10 ^ m ≤ 10 * 10 ^ m := Nat.mul_le_mul_right _ (by omega)
    rw [Nat.pow_succ, Nat.mul_comm]
    omega
theorem cnt9 : ∀ n, n ≤ 9 → cntS n n n ≤ 50000 := by
  intro n hn
  match n, hn with
  | 0, _ => decide +kernel
  | 1, _ => decide +kernel
  | 2, _ => decide +kernel
  | 3, _ => decide +kernel
  | 4, _ => decide +kernel
  | 5, _ => decide +kernel
  | 6, _ => decide +kernel
  | 7, _ => decide +kernel
  | 8, _ => decide +kernel
  | 9, _ => decide +kernel
  | n + 10, h => omega
/-- A list that is told of itself. -/
def selfT (l : List Nat) : Bool := decide (tel l.length l = l)
/-- The self-told lists with a beginning. -/
def selfs (n : Nat) (b : List Nat) (left : Nat) : List (List Nat) := ((allS n (n - b.length) left).map (b ++ ·)).filter selfT
def selfK (n : Nat) (b : List Nat) (left k : Nat) : List (List Nat) := (List.range' 0 k).flatMap fun x => selfs n (b ++ [x]) (left - x)
theorem selfs_end (n : Nat) (b : List Nat) (left : Nat) (h : b.length = n) : selfs n b left = if selfT b = true then [b] else [] := by
  unfold selfs
  rw [h, Nat.sub_self]
  simp [allS, List.filter_cons]
theorem selfs_go (n : Nat) (b : List Nat) (left : Nat) (h : b.length < n) (hl : left ≤ n) : selfs n b left = selfK n b left (left + 1) := by
  obtain ⟨m, hm⟩ : ∃ m, n - b.length = m + 1 := ⟨n - b.length - 1, by omega⟩
  unfold selfs selfK
  rw [hm, allS, Nat.min_eq_right hl, List.map_flatMap, List.filter_flatMap]
  congr 1
  funext y
  unfold selfs
  rw [List.length_append, List.length_singleton, show n - (b.length + 1) = m from by omega, List.map_map]
  congr 1
  apply List.map_congr_left
  intro t _
  simp
theorem selfK_succ (n : Nat) (b : List Nat) (left k : Nat) : selfK n b left (k + 1) = selfK n b left k ++ selfs n (b ++ [k]) (left - k) := by
  unfold selfK
  rw [List.range'_concat, List.flatMap_append]
  simp
theorem selfs_cnt (n : Nat) (b : List Nat) (left : Nat) (h9 : n ≤ 9) : (selfs n b left).length ≤ 10 ^ (n - b.length) := by
  refine Nat.le_trans (List.length_filter_le _ _) ?_
  rw [List.length_map, allS_cnt]
  exact cntS_le n h9 _ _
theorem selfs_len (n : Nat) (b : List Nat) (left : Nat) (h : b.length ≤ n) : ∀ l ∈ selfs n b left, l.length = n := by
  intro l hl
  unfold selfs at hl
  obtain ⟨t, ht, rfl⟩ := List.mem_map.1 (List.mem_filter.1 hl).1
  rw [List.length_append, allS_len _ _ _ t ht]; omega
theorem self_zeros (n : Nat) (h : 1 ≤ n) : selfT (List.replicate n 0) = false := by
  unfold selfT
  apply decide_eq_false
  intro e
  have := congrArg (fun l => l[0]?) e
  rw [List.length_replicate] at this
  simp only [tel_at n (List.replicate n 0) 0 (by omega), List.getElem?_replicate, if_pos (by omega : 0 < n), List.count_replicate_self] at this
  simp at this; omega
/-- The odometer's lists that are told of themselves are all of them. -/
theorem selfs_odo (n : Nat) (h : 1 ≤ n) : selfs n [] n = (aftP n 0 (List.replicate n 0) n).filter selfT := by
  unfold selfs
  rw [List.length_nil, Nat.sub_zero, allS_zero]
  simp [self_zeros n h]
theorem selfs_all (n : Nat) (h9 : n ≤ 9) : (selfs n [] n).length ≤ 50000 := by
  refine Nat.le_trans (List.length_filter_le _ _) ?_
  rw [List.length_map, allS_cnt]
  simpa using cnt9 n h9
end Go.Proofs.Ytkdoghopbefjfaa
