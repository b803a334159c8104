/- How many there are later: the counts, pure; a row of numbers that is laid anew place by place. -/
import Derived.Test.YtgmknehioadjhaaM1
import Derived.Test.YtgmknehioadjhaaE2
import Derived.IntWalk
namespace Go.Proofs.Ytgmknehioadjhaa
open Go.RowKit Go.BigFrame
set_option linter.unusedSimpArgs false
set_option linter.unusedVariables false
set_option maxRecDepth 4000

def bumpL (c : List Int) (j : Nat) (x : Int) : List Int := c.set j (wrap64 (c.getD j 0 + x))
theorem bump_len (c : List Int) (j : Nat) (x : Int) : (bumpL c j x).length = c.length := by unfold bumpL; simp
def addRow (c : List Int) (row : List Nat) (x : Int) : List Int := row.foldl (fun a j => bumpL a j x) c
theorem addRow_len (x : Int) : ∀ (row : List Nat) (c : List Int), (addRow c row x).length = c.length
  | [], _ => rfl
  | j :: r, c => by unfold addRow; rw [List.foldl_cons]; exact (addRow_len x r _).trans (bump_len c j x)
theorem addRow_take (c : List Int) (row : List Nat) (x : Int) {k : Nat} (hk : k < row.length) : addRow c (row.take (k + 1)) x = bumpL (addRow c (row.take k) x) row[k] x := by
  unfold addRow
  rw [List.take_succ_eq_append_getElem hk, List.foldl_append]; rfl
/-- The counts of the word's own parts. -/
def cnt0 (n : Nat) (beg : List Nat) : List Int := addRow (List.replicate n 0) beg 1
/-- All of the first k decayed once. -/
def accK (rows : Nat → List Nat) (c : List Int) : Nat → List Int
  | 0 => List.replicate c.length 0
  | k + 1 => addRow (accK rows c k) (rows k) (c.getD k 0)
theorem accK_len (rows : Nat → List Nat) (c : List Int) : ∀ k, (accK rows c k).length = c.length
  | 0 => by unfold accK; simp
  | k + 1 => by unfold accK; rw [addRow_len, accK_len rows c k]
def stepC (rows : Nat → List Nat) (c : List Int) : List Int := accK rows c c.length
theorem stepC_len (rows : Nat → List Nat) (c : List Int) : (stepC rows c).length = c.length := accK_len rows c _
def laterC (rows : Nat → List Nat) (c : List Int) : Nat → List Int
  | 0 => c
  | t + 1 => stepC rows (laterC rows c t)
theorem laterC_len (rows : Nat → List Nat) (c : List Int) : ∀ t, (laterC rows c t).length = c.length
  | 0 => rfl
  | t + 1 => by unfold laterC; rw [stepC_len, laterC_len rows c t]
/-- Row k of a table with these names. -/
def rowN (ns : List (List UInt8)) (k : Nat) : List Nat := linkL ns (ns.getD k [])
def begN (P ns : List (List UInt8)) : List Nat := P.map fun p => posN p ns
def cntsL (P ns : List (List UInt8)) (t : Nat) : List Int := laterC (rowN ns) (cnt0 ns.length (begN P ns)) t
theorem cnt0_len (n : Nat) (beg : List Nat) : (cnt0 n beg).length = n := by unfold cnt0; rw [addRow_len]; simp
theorem cnts_len (P ns : List (List UInt8)) (t : Nat) : (cntsL P ns t).length = ns.length := by unfold cntsL; rw [laterC_len, cnt0_len]
theorem beg_lt {P ns : List (List UInt8)} (h : ∀ p ∈ P, p ∈ ns) : ∀ x ∈ begN P ns, x < ns.length := fun x hx => by
  unfold begN at hx
  obtain ⟨p, hp, rfl⟩ := List.mem_map.1 hx
  exact posN_mem.2 (h p hp)
theorem rowN_get {ns : List (List UInt8)} {k : Nat} {p : List UInt8} (h : ns[k]? = some p) : rowN ns k = linkL ns p := by
  unfold rowN; simp [List.getD, h]

/-! ### a row of numbers -/
theorem ints_put {W : World} {B g n c : Nat} {xs : List Int} (h : Ints W B (.slice (some ⟨g, 0, none⟩) n c) xs) (j : Nat) (x : Int) : Ints (W.setCell ⟨g, j, none⟩ (.int .i64 x)) B (.slice (some ⟨g, 0, none⟩) n c) (xs.set j x) := by
  obtain ⟨hl, h2⟩ := h
  rcases h2 with ⟨e, _⟩ | ⟨g', cap, cur, e, hB, hg, hn, hm, hs, ht⟩
  · cases e
  · injection e with e1 e2 e3
    injection e1 with e1
    injection e1 with e1
    subst e1; subst e3
    refine ⟨by simp, .inr ⟨g, c, cur.setIfInBounds j (.int .i64 x), by rw [e2, List.length_set], hB, set_obj hg, by rw [List.length_set]; exact hn, hm, by simpa using hs, ?_⟩⟩
    rw [Array.toList_setIfInBounds, List.take_set, List.length_set, ht, List.map_set]
theorem ints_len {W : World} {B g n c : Nat} {xs : List Int} (h : Ints W B (.slice (some ⟨g, 0, none⟩) n c) xs) : n = xs.length ∧ g < W.heap.size ∧ B ≤ g := by
  rcases ints_open h with ⟨e, _⟩ | ⟨g', cap, e, h1, h2, _⟩
  · cases e
  · injection e with e1 e2 e3
    injection e1 with e1
    injection e1 with e1
    subst e1
    exact ⟨e2, h2, h1⟩
theorem ints_at {W : World} {B g n c : Nat} {xs : List Int} (h : Ints W B (.slice (some ⟨g, 0, none⟩) n c) xs) {j : Nat} (hj : j < n) : W.cell? ⟨g, j, none⟩ = some (.int .i64 (xs.getD j 0)) ∧ W.frozen? ⟨g, j, none⟩ = false := by
  have hn := (ints_len h).1
  rcases ints_open h with ⟨e, _⟩ | ⟨g', cap, e, h1, h2, _, _, h3, h4⟩
  · cases e
  · injection e with e1 e2 e3
    injection e1 with e1
    injection e1 with e1
    subst e1
    refine ⟨?_, h4 j⟩
    rw [h3 j (by omega)]
    simp [List.getD, List.getElem?_eq_getElem (show j < xs.length by omega)]
theorem ints_made {W : World} {B g n : Nat} (h : W.ownsRow B 3 1 (.slice (some ⟨g, 0, none⟩) n n) n (madeCells (Value.int .i64 0).cells (n * 1)).toList) : Ints W B (.slice (some ⟨g, 0, none⟩) n n) (List.replicate n 0) := by
  have e : (madeCells (Value.int .i64 0).cells (n * 1)).toList = List.replicate n (.int .i64 0) := by
    rw [Nat.mul_one]; exact toList_madeCells_one _ _
  rw [e] at h
  unfold Ints
  simpa using h
theorem ints_posI {W : World} {B : Nat} {v : Value} {xs : List Int} (h : Ints W B v xs) (h0 : xs ≠ []) : ∃ g c, v = .slice (some ⟨g, 0, none⟩) xs.length c ∧ B ≤ g ∧ g < W.heap.size := by
  rcases ints_open h with ⟨_, e⟩ | ⟨g, c, rfl, h1, h2, _⟩
  · exact absurd e h0
  · exact ⟨g, c, rfl, h1, h2⟩
/-- The row of a name, in the model's table. -/
theorem RowsX.rowM {W : World} {n₀ top K : Nat} {v : Value} {ns : List (List UInt8)} (h : RowsM W n₀ top v K ns) {k : Nat} (hk : k < K) : ∃ gD cD gr cr, v = .slice (some ⟨gD, 0, none⟩) K cD ∧ gD < W.heap.size ∧ W.cell? ⟨gD, k, none⟩ = some (.slice (some ⟨gr, 0, none⟩) (rowN ns k).length cr) ∧ gr < W.heap.size ∧
    (∀ i (hi : i < (rowN ns k).length), W.cell? ⟨gr, i, none⟩ = some (.int .i64 ((rowN ns k)[i] : Nat)) ∧ (rowN ns k)[i] < ns.length) ∧ n₀ ≤ gD ∧ n₀ ≤ gr := by
  obtain ⟨xd, h1, h2⟩ := h
  obtain ⟨p, u, e1, e2, e3, e4⟩ := h2 k hk
  obtain ⟨gr, cr, rfl, hr1, hr2, hr3⟩ := e3.cell
  rw [rowN_get e1]
  rcases own_open h1 with ⟨_, h0, _⟩ | ⟨gD, cD, rfl, hB, hlt, _, _, hl, hc, _⟩
  · omega
  · refine ⟨gD, cD, gr, cr, rfl, hlt, ?_, hr2, fun i hi => ⟨?_, ?_⟩, hB, hr1⟩
    · rw [hc k (by omega), linkL_len]
      rw [List.getElem?_eq_getElem (by omega)] at e2
      exact congrArg some (Option.some.inj e2)
    · have := hr3 i (by simp [encM, natsI]; exact hi)
      rw [this]
      simp [encM, natsI]
    · have : (linkL ns p)[i] ∈ linkL ns p := List.getElem_mem hi
      unfold linkL at this
      obtain ⟨q, hq, e⟩ := List.mem_map.1 this
      have hh : posN q ns < ns.length := posN_mem.2 (e4 q hq)
      rw [e] at hh
      exact hh
end Go.Proofs.Ytgmknehioadjhaa
