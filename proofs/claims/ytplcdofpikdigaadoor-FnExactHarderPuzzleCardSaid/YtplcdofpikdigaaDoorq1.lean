/- Chapter 9: puzzles (pure); the laws' helpers on them. -/
import Derived.Test.YtplcdofpikdigaaDoorA1
namespace Go.Proofs.YtplcdofpikdigaaDoor
open Go.RowKit Go.BigFrame
set_option linter.unusedSimpArgs false
set_option linter.unusedVariables false
set_option maxRecDepth 4000

/-- A sign of a puzzle: a gap, or a digit up to d. -/
def sgB (d : Int) (c : UInt8) : Bool := decide (c.toNat = 46) || decide ((1 : Int) ≤ (c.toNat : Int) - 48 ∧ (c.toNat : Int) - 48 ≤ d)
/-- The sizes of a puzzle. -/
def pzS (n m : Nat) (D : Int) : Bool := decide ((1 : Int) ≤ D ∧ D ≤ 4) && decide (1 ≤ n ∧ n ≤ 8) && decide (m % 2 = 0) && decide (2 ≤ m ∧ m ≤ 2 * n)
def pzB (W S : List UInt8) (D : Int) : Bool := pzS W.length S.length D && W.all (sgB D) && S.all (sgB 9)
def pzV (W S : List UInt8) (D : Int) : Value := .agg #[.string (bs W), .string (bs S), .int .i64 D]
def pzZ : Value := .agg #[.string ⟨#[]⟩, .string ⟨#[]⟩, .int .i64 0]
theorem pzS_parts {n m : Nat} {D : Int} (h : pzS n m D = true) : 1 ≤ D ∧ D ≤ 4 ∧ 1 ≤ n ∧ n ≤ 8 ∧ m % 2 = 0 ∧ 2 ≤ m ∧ m ≤ 2 * n := by
  unfold pzS at h
  simp only [Bool.and_eq_true, decide_eq_true_eq] at h
  omega
theorem pzB_parts {W S : List UInt8} {D : Int} (h : pzB W S D = true) : pzS W.length S.length D = true ∧ W.all (sgB D) = true ∧ S.all (sgB 9) = true := by
  unfold pzB at h
  simp only [Bool.and_eq_true] at h
  exact ⟨h.1.1, h.1.2, h.2⟩

/-- A block of three cells. -/
def ThreeAt (w : World) (g : Nat) (a b c : Value) (T : TypeId) : Prop := w.heap[g]? = some (.cells #[a, b, c] T (0, 0))
structure ThreeC (w : World) (g : Nat) (a b c : Value) : Prop where
  c0 : w.cell? ⟨g, 0, none⟩ = some a
  c1 : w.cell? ⟨g, 1, none⟩ = some b
  c2 : w.cell? ⟨g, 2, none⟩ = some c
  f0 : w.frozen? ⟨g, 0, none⟩ = false
  f1 : w.frozen? ⟨g, 1, none⟩ = false
  f2 : w.frozen? ⟨g, 2, none⟩ = false
theorem ThreeAt.cells {w : World} {g : Nat} {a b c : Value} {T : TypeId} (h : ThreeAt w g a b c T) : ThreeC w g a b c := by
  unfold ThreeAt at h
  refine ⟨?_, ?_, ?_, ?_, ?_, ?_⟩
  · simp only [World.cell?, h]; rfl
  · simp only [World.cell?, h]; rfl
  · simp only [World.cell?, h]; rfl
  · simp only [World.frozen?, h]; simp
  · simp only [World.frozen?, h]; simp
  · simp only [World.frozen?, h]; simp
theorem ThreeAt.lt {w : World} {g : Nat} {a b c : Value} {T : TypeId} (h : ThreeAt w g a b c T) : g < w.heap.size := (Array.getElem?_eq_some_iff.1 h).1
theorem ThreeAt.below {w w' : World} {g : Nat} {a b c : Value} {T : TypeId} (h : ThreeAt w g a b c T) (hb : Below w.heap.size w w') : ThreeAt w' g a b c T := (hb.block g h.lt).trans h
theorem ThreeAt.drew {w : World} {g : Nat} {a b c : Value} {T : TypeId} (h : ThreeAt w g a b c T) : ThreeAt w.drew g a b c T := h
theorem threeAt_new (w : World) (a b c : Value) (T : TypeId) : ThreeAt (w.alloc (.cells #[a, b, c] T)) w.heap.size a b c T := heap_alloc_new w _
/-- The world behind a box of three cells. -/
def BoxP (w : World) (a b c : Value) (T : TypeId) (wr : World) : Prop := Below (w.heap.size + 1) (w.alloc (.cells #[a, b, c] T)) wr
theorem boxP_new (w : World) (a b c : Value) (T : TypeId) : BoxP w a b c T (w.alloc (.cells #[a, b, c] T)) := Below.refl _ _
theorem BoxP.at {w wr : World} {a b c : Value} {T : TypeId} (h : BoxP w a b c T wr) : ThreeAt wr w.heap.size a b c T := (Below.block h _ (by omega)).trans (heap_alloc_new w _)
theorem BoxP.below {w wr : World} {a b c : Value} {T : TypeId} (h : BoxP w a b c T wr) : Below w.heap.size w wr := (below_alloc w _).trans (Below.mono h (by omega))
theorem BoxP.size {w wr : World} {a b c : Value} {T : TypeId} (h : BoxP w a b c T wr) : w.heap.size + 1 ≤ wr.heap.size := by have := Below.size h; simpa using this
theorem BoxP.trans {w wr w2 : World} {a b c : Value} {T : TypeId} (h : BoxP w a b c T wr) (k : Below wr.heap.size wr w2) : BoxP w a b c T w2 := Below.trans h (k.mono h.size)
theorem BoxP.drewN {w wr : World} {a b c : Value} {T : TypeId} (h : BoxP w a b c T wr) (n : Nat) : BoxP w a b c T (wr.drewN n) := h.trans (belowN _ _ n)
/-- Three cells of the call's own, written over. -/
theorem three_below {w w1 : World} {B g : Nat} (h : Below B w w1) (hg : B ≤ g) (a b c : Value) : Below B w (((w1.setCell ⟨g, 0, none⟩ a).setCell ⟨g, 1, none⟩ b).setCell ⟨g, 2, none⟩ c) := ((h.setCell hg _).setCell hg _).setCell hg _

set_option maxHeartbeats 1000000 in
theorem szPuzzle_any (w : World) (W S : List UInt8) (D : Int) (hW : W.length ≤ maxLen) (hS : S.length ≤ maxLen) :
    Calls Tryd.prog 11 #[pzV W S D, .int .i64 1048576] w fun e w' => e = .returned (.int .i64 (if W.length + S.length ≤ 1048576 then ((1048576 - (W.length + S.length) : Nat) : Int) else -1)) ∧ Below w.heap.size w w' := by
  obtain ⟨n, hn⟩ : ∃ n, n = W.length := ⟨_, rfl⟩
  obtain ⟨m, hm⟩ : ∃ m, m = S.length := ⟨_, rfl⟩
  obtain ⟨t, ht⟩ : ∃ t, t = bs W := ⟨_, rfl⟩
  obtain ⟨u, hu⟩ : ∃ u, u = bs S := ⟨_, rfl⟩
  have htn : t.size = n := by rw [ht, bs_size, hn]
  have hum : u.size = m := by rw [hu, bs_size, hm]
  unfold pzV
  unfold maxLen at hW hS
  rw [← ht, ← hu, ← hn, ← hm]
  rw [← hn] at hW; rw [← hm] at hS
  clear hn hm ht hu
  by_cases h1 : n ≤ 1048576
  · obtain ⟨k, hk⟩ : ∃ k : Nat, (1048576 : Int) - (n : Int) = (k : Int) := ⟨1048576 - n, by omega⟩
    by_cases h2 : n + m ≤ 1048576
    · have hl : ¬ ((k : Int) - (m : Int) < 0) := by omega
      go_enter Tryd.func11, Tryd.ntmps11
      go_wp2_with fail
      go_ret
      exact ⟨ret_int (by first | omega | (rw [if_pos h2]; omega)), below_alloc _ _⟩
    · have hl : ((k : Int) - (m : Int) < 0) := by omega
      go_enter Tryd.func11, Tryd.ntmps11
      go_wp2_with fail
      go_ret
      exact ⟨ret_int (by first | rfl | rw [if_neg h2]), below_alloc _ _⟩
  · have h2 : ¬ (n + m ≤ 1048576) := by omega
    have hl : (1048576 : Int) - (n : Int) < 0 := by omega
    go_enter Tryd.func11, Tryd.ntmps11
    go_wp2_with fail
    go_ret
    exact ⟨ret_int (by first | rfl | rw [if_neg h2]), below_alloc _ _⟩

set_option maxHeartbeats 1000000 in
theorem toPuzzle_any (w : World) (W S : List UInt8) (D : Int) :
    Calls Tryd.prog 13 #[pzV W S D] w fun e w' => e = .returned (pzV W S D) ∧ Below w.heap.size w w' := by
  obtain ⟨t, ht⟩ : ∃ t, t = bs W := ⟨_, rfl⟩
  obtain ⟨u, hu⟩ : ∃ u, u = bs S := ⟨_, rfl⟩
  unfold pzV
  rw [← ht, ← hu]
  clear ht hu
  go_enter Tryd.func13, Tryd.ntmps13
  go_wp2_with fail
  refine bodyPost_ret (v := .agg #[.string t, .string u, .int .i64 D]) ?_ rfl ?_
  · simp [results, Tryd.results13, go_sem]
  · refine ⟨rfl, ?_⟩
    exact (((below_alloc w _).alloc (by simp) _).alloc (by simp; omega) _)

set_option maxHeartbeats 1000000 in
theorem eqPuzzle_same (w : World) (W S : List UInt8) (D : Int) :
    Calls Tryd.prog 30 #[pzV W S D, pzV W S D] w fun e w' => e = .returned (.bool true) ∧ Below w.heap.size w w' := by
  obtain ⟨t, ht⟩ : ∃ t, t = bs W := ⟨_, rfl⟩
  obtain ⟨u, hu⟩ : ∃ u, u = bs S := ⟨_, rfl⟩
  unfold pzV
  rw [← ht, ← hu]
  clear ht hu
  have hx : (t.toList != t.toList) = false := by simp
  have hy : (u.toList != u.toList) = false := by simp
  have hz : (D != D) = false := by simp
  go_enter Tryd.func30, Tryd.ntmps30
  go_wp2_with fail
  go_ret
  exact ⟨rfl, (below_alloc w _).alloc (by simp) _⟩
end Go.Proofs.YtplcdofpikdigaaDoor
