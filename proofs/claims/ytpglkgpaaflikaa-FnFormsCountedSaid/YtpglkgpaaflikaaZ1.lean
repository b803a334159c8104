/- Chapter 6: Eck sequences (pure), the closure that tells their numbers, and the call that makes it. -/
import Derived.Test.YtpglkgpaaflikaaY6
import Derived.Laws.EntriesVeiled
namespace Go.Proofs.Ytpglkgpaaflikaa
open Go.RowKit Go.BigFrame Go.Maps
set_option linter.unusedSimpArgs false
set_option linter.unusedVariables false
set_option maxRecDepth 4000

/-! ### Pure -/
/-- The first numbers of the Eck sequence of a list. -/
def eckL (ns : List Int) : Nat → List Int
  | 0 => []
  | k + 1 => eckL ns k ++ [if k < ns.length then sq ns k else ((bk (sq (eckL ns k)) (k - 1) : Nat) : Int)]
theorem eckL_len (ns : List Int) : ∀ k, (eckL ns k).length = k
  | 0 => rfl
  | k + 1 => by unfold eckL; rw [List.length_append, eckL_len ns k]; rfl
def eckS (ns : List Int) (k : Nat) : Int := sq (eckL ns (k + 1)) k
theorem sq_snoc_lt {l : List Int} {x : Int} {i : Nat} (h : i < l.length) : sq (l ++ [x]) i = sq l i := by
  rw [sq_at (by simp; omega), sq_at h, List.getElem_append_left h]
theorem sq_snoc {l : List Int} {x : Int} {i : Nat} (h : i = l.length) : sq (l ++ [x]) i = x := by
  subst h
  rw [sq_at (by simp)]; simp
theorem eckL_at (ns : List Int) {i : Nat} : ∀ d, sq (eckL ns (i + 1 + d)) i = eckS ns i
  | 0 => rfl
  | d + 1 => by
    rw [← eckL_at ns d]
    show sq (eckL ns (i + 1 + d) ++ _) i = _
    exact sq_snoc_lt (by rw [eckL_len]; omega)
theorem eckL_sq (ns : List Int) {i n : Nat} (h : i < n) : sq (eckL ns n) i = eckS ns i := by
  obtain ⟨d, rfl⟩ : ∃ d, n = i + 1 + d := ⟨n - i - 1, by omega⟩
  exact eckL_at ns d
theorem eckL_up (ns : List Int) (n : Nat) : eckL ns n = upL (eckS ns) n := by
  refine List.ext_getElem (by rw [eckL_len, upL_len]) fun i h1 h2 => ?_
  rw [upL_len] at h2
  rw [upL_at h2, ← eckL_sq ns h2, sq_at]
/-- What comes behind k numbers if the list is over. -/
def nx (ns : List Int) (k : Nat) : Nat := if k = 0 then 0 else bk (eckS ns) (k - 1)
theorem nx_succ (ns : List Int) (k : Nat) : nx ns (k + 1) = bk (eckS ns) k := by unfold nx; rw [if_neg (by omega)]; rfl
theorem nx_le (ns : List Int) (k : Nat) : nx ns k ≤ k := by
  unfold nx; split
  · omega
  · have := bk_le (eckS ns) (k - 1); omega
theorem eckS_in {ns : List Int} {k : Nat} (h : k < ns.length) : eckS ns k = ns[k] := by
  unfold eckS
  show sq (eckL ns k ++ [_]) k = _
  rw [sq_snoc (eckL_len ns k).symm, if_pos h, sq_at h]
theorem eckS_out {ns : List Int} {k : Nat} (h0 : 1 ≤ ns.length) (h : ¬ k < ns.length) : eckS ns k = ((nx ns k : Nat) : Int) := by
  unfold eckS
  show sq (eckL ns k ++ [_]) k = _
  rw [sq_snoc (eckL_len ns k).symm, if_neg h]
  unfold nx
  rw [if_neg (by omega)]
  congr 1
  exact bk_congr _ (fun j hj => eckL_sq ns (by omega))
theorem eckS_bd {ns : List Int} (hp : plL ns = true) (k : Nat) : 0 ≤ eckS ns k ∧ (eckS ns k ≤ 1000 ∨ eckS ns k ≤ (k : Int)) := by
  obtain ⟨h1, _, hin⟩ := plL_open hp
  by_cases h : k < ns.length
  · rw [eckS_in h]; have := hin k h; omega
  · rw [eckS_out h1 h]; have := nx_le ns k; omega

/-! ### The closure -/
/-- The variables of the closure, behind k numbers; B: the first of their blocks. -/
def EckAt (w : World) (B k : Nat) (ns : List Int) (a0 : Value) : Prop :=
  LastAt w B (B + 3) (B + 2) (B + 1) k (eckS ns) ∧ B + 7 ≤ w.heap.size ∧ w.cell? ⟨B, 0, none⟩ = some a0 ∧ w.cell? ⟨B + 4, 0, none⟩ = some (lastV (B + 3) (B + 2)) ∧
  w.cell? ⟨B + 5, 0, none⟩ = some (.int .i64 (k : Nat)) ∧ w.cell? ⟨B + 6, 0, none⟩ = some (.int .i64 (nx ns k : Nat)) ∧ w.frozen? ⟨B + 5, 0, none⟩ = false ∧ w.frozen? ⟨B + 6, 0, none⟩ = false
abbrev eckV (B : Nat) : Value := .func (.func 89) #[] #[.pointer (some ⟨B + 6, 0, none⟩), .pointer (some ⟨B + 5, 0, none⟩), .pointer (some ⟨B, 0, none⟩), .pointer (some ⟨B + 4, 0, none⟩)]
theorem cell_same {w w' : World} {g : Nat} (h : w'.heap[g]? = w.heap[g]?) (i : Nat) : w'.cell? ⟨g, i, none⟩ = w.cell? ⟨g, i, none⟩ := by simp only [World.cell?, h]
theorem frozen_same {w w' : World} {g : Nat} (h : w'.heap[g]? = w.heap[g]?) (i : Nat) : w'.frozen? ⟨g, i, none⟩ = w.frozen? ⟨g, i, none⟩ := by simp only [World.frozen?, h]
theorem EckAt.keep {w w' : World} {B k : Nat} {ns : List Int} {a0 : Value} (h : EckAt w B k ns a0) (hs : w.heap.size ≤ w'.heap.size) (hb : ∀ g, B ≤ g → g < w.heap.size → w'.heap[g]? = w.heap[g]?) : EckAt w' B k ns a0 := by
  obtain ⟨hL, h7, c0, c4, c5, c6, f5, f6⟩ := h
  refine ⟨hL.keep hs (fun g h1 h2 _ => hb g h1 h2), by omega, ?_, ?_, ?_, ?_, ?_, ?_⟩
  · rw [cell_same (hb B (by omega) (by omega))]; exact c0
  · rw [cell_same (hb (B + 4) (by omega) (by omega))]; exact c4
  · rw [cell_same (hb (B + 5) (by omega) (by omega))]; exact c5
  · rw [cell_same (hb (B + 6) (by omega) (by omega))]; exact c6
  · rw [frozen_same (hb (B + 5) (by omega) (by omega))]; exact f5
  · rw [frozen_same (hb (B + 6) (by omega) (by omega))]; exact f6

set_option maxHeartbeats 4000000 in
theorem eck1_any (w : World) (B k : Nat) (ns : List Int) (a0 : Value) (h : EckAt w B k ns a0) (ha : ArgL w a0 ns) (hp : plL ns = true) (hk : k ≤ 100000) :
    Calls Try.prog 89 #[.pointer (some ⟨B + 6, 0, none⟩), .pointer (some ⟨B + 5, 0, none⟩), .pointer (some ⟨B, 0, none⟩), .pointer (some ⟨B + 4, 0, none⟩)] w fun e w' => e = .returned (.int .i64 (eckS ns k)) ∧ EckAt w' B (k + 1) ns a0 ∧ Below B w w' := by
  obtain ⟨h1, h60, _⟩ := plL_open hp
  have hbd := eckS_bd hp k
  obtain ⟨hL, h7, c0, c4, c5, c6, f5, f6⟩ := h
  obtain ⟨A, C, rfl, hC, hC9, hca⟩ := ha
  have hw1 : ∀ g, g ≠ B + 5 → (w.setCell ⟨B + 5, 0, none⟩ (.int .i64 ((k : Int) + 1))).heap[g]? = w.heap[g]? := fun g hg => Below.heap_setCell _ _ _ _ (by simpa using hg)
  have c5' : (w.setCell ⟨B + 5, 0, none⟩ (.int .i64 ((k : Int) + 1))).cell? ⟨B + 5, 0, none⟩ = some (.int .i64 ((k : Int) + 1)) := World.cell?_setCell_same _ _ _ c5
  have hL1 := hL.keep (w' := w.setCell ⟨B + 5, 0, none⟩ (.int .i64 ((k : Int) + 1))) (by simp) (fun g _ _ hg => hw1 g (by omega))
  have hsz : (w.setCell ⟨B + 5, 0, none⟩ (.int .i64 ((k : Int) + 1))).heap.size = w.heap.size := by simp
  have c4' : (w.setCell ⟨B + 5, 0, none⟩ (.int .i64 ((k : Int) + 1))).cell? ⟨B + 4, 0, none⟩ = some (lastV (B + 3) (B + 2)) := (cell_same (hw1 (B + 4) (by omega)) 0).trans c4
  have f5' : (w.setCell ⟨B + 5, 0, none⟩ (.int .i64 ((k : Int) + 1))).frozen? ⟨B + 5, 0, none⟩ = false := by rw [World.frozen?_setCell]; exact f5
  obtain ⟨W, hW⟩ : ∃ W, W = w.setCell ⟨B + 5, 0, none⟩ (.int .i64 ((k : Int) + 1)) := ⟨_, rfl⟩
  obtain ⟨x, hx⟩ : ∃ x, x = eckS ns k := ⟨_, rfl⟩
  have hcall := last1_any (w.setCell ⟨B + 5, 0, none⟩ (.int .i64 ((k : Int) + 1))) B (B + 3) (B + 2) (B + 1) k (eckS ns) x hL1 hx.symm (by omega) (by omega) (by omega) (by rw [hsz]; omega)
  have hend : ∀ w2 : World, LastAt w2 B (B + 3) (B + 2) (B + 1) (k + 1) (eckS ns) → Below B (w.setCell ⟨B + 5, 0, none⟩ (.int .i64 ((k : Int) + 1))) w2 → (∀ g, g ≠ B + 3 → g ≠ B + 1 → g < (w.setCell ⟨B + 5, 0, none⟩ (.int .i64 ((k : Int) + 1))).heap.size → w2.heap[g]? = (w.setCell ⟨B + 5, 0, none⟩ (.int .i64 ((k : Int) + 1))).heap[g]?) →
      (∃ y, w2.cell? ⟨B + 6, 0, none⟩ = some (.int .i64 y)) ∧ w2.frozen? ⟨B + 6, 0, none⟩ = false ∧ EckAt (w2.setCell ⟨B + 6, 0, none⟩ (.int .i64 ((bk (eckS ns) k : Nat) : Int))) B (k + 1) ns (.slice A ns.length C) ∧ Below B w (w2.setCell ⟨B + 6, 0, none⟩ (.int .i64 ((bk (eckS ns) k : Nat) : Int))) := by
    intro w2 k1 k2 k3
    have hs2 := k2.size
    rw [hsz] at k3 hs2
    have q : ∀ g, g ≠ B + 3 → g ≠ B + 1 → g ≠ B + 5 → g < w.heap.size → w2.heap[g]? = w.heap[g]? := fun g g1 g2 g3 g4 => (k3 g g1 g2 g4).trans (hw1 g g3)
    have q5 := k3 (B + 5) (by omega) (by omega) (by omega)
    have q6 : w2.frozen? ⟨B + 6, 0, none⟩ = false := (frozen_same (q (B + 6) (by omega) (by omega) (by omega) (by omega)) 0).trans f6
    have d6 : w2.cell? ⟨B + 6, 0, none⟩ = some (.int .i64 (nx ns k : Nat)) := (cell_same (q (B + 6) (by omega) (by omega) (by omega) (by omega)) 0).trans c6
    have hw2 : ∀ g, g ≠ B + 6 → (w2.setCell ⟨B + 6, 0, none⟩ (.int .i64 ((bk (eckS ns) k : Nat) : Int))).heap[g]? = w2.heap[g]? := fun g hg => Below.heap_setCell _ _ _ _ (by simpa using hg)
    refine ⟨⟨_, d6⟩, q6, ⟨k1.keep (by simp) (fun g _ _ hg => hw2 g (by omega)), by simp; omega, ?_, ?_, ?_, ?_, ?_, ?_⟩, (((Below.refl B w).setCell (p := ⟨B + 5, 0, none⟩) (by simp) _).trans k2).setCell (p := ⟨B + 6, 0, none⟩) (by simp) _⟩
    · rw [cell_same (hw2 B (by omega)), cell_same (q B (by omega) (by omega) (by omega) (by omega))]; exact c0
    · rw [cell_same (hw2 (B + 4) (by omega)), cell_same (q (B + 4) (by omega) (by omega) (by omega) (by omega))]; exact c4
    · rw [cell_same (hw2 (B + 5) (by omega)), cell_same q5, c5']; simp
    · rw [nx_succ]; exact World.cell?_setCell_same _ _ _ d6
    · rw [frozen_same (hw2 (B + 5) (by omega)), frozen_same q5]; exact f5'
    · rw [World.frozen?_setCell]; exact q6
  have HCALL := Lib.hid hcall; have HEND := Lib.hid hend
  obtain ⟨N, hN⟩ : ∃ N, N = ns.length := ⟨_, rfl⟩
  rw [← hN] at c0 hC
  have HX := Lib.hid hx; have HN := Lib.hid hN
  by_cases hlt : k < ns.length
  · obtain ⟨b, o, rfl, hb1, hb2⟩ := hca k hlt
    rw [← eckS_in hlt, ← hx] at hb2
    rw [← hN] at hlt
    clear hca hcall hend hL hL1 hbd hx hw1 hW hN hsz
    rw [← HX.out, ← HN.out]
    rw [← HN.out] at HEND
    go_enter Try.func89, Try.ntmps89
    go_wp2_with fail
    refine HCALL.out.mono ?_
    rintro e w2 ⟨rfl, k1, k2, k3⟩
    obtain ⟨⟨y6, e0⟩, e1, e2, e3⟩ := HEND.out w2 k1 k2 k3
    have E2 := Lib.hid e2; have E3 := Lib.hid e3
    clear k1 k2 k3 e2 e3
    go_wp2_with fail
    go_ret
    exact ⟨rfl, E2.out, E3.out⟩
  · have hxn : x = ((nx ns k : Nat) : Int) := hx.trans (eckS_out h1 hlt)
    rw [← hN] at hlt
    rw [← hxn] at c6
    clear hca hcall hend hL hL1 hbd hx hw1 hW hN hsz hxn
    rw [← HX.out, ← HN.out]
    rw [← HN.out] at HEND
    go_enter Try.func89, Try.ntmps89
    go_wp2_with fail
    refine HCALL.out.mono ?_
    rintro e w2 ⟨rfl, k1, k2, k3⟩
    obtain ⟨⟨y6, e0⟩, e1, e2, e3⟩ := HEND.out w2 k1 k2 k3
    have E2 := Lib.hid e2; have E3 := Lib.hid e3
    clear k1 k2 k3 e2 e3
    go_wp2_with fail
    go_ret
    exact ⟨rfl, E2.out, E3.out⟩

theorem LastAt.mono {w : World} {B B' pb vb mb k : Nat} {s : Nat → Int} (h : LastAt w B pb vb mb k s) (hB : B' ≤ B) : LastAt w B' pb vb mb k s := by
  obtain ⟨n, D, hn, hD, hO, ⟨a1, a2, a3, rest⟩, c⟩ := h
  exact ⟨n, D, hn, hD, hO, ⟨by omega, by omega, by omega, rest⟩, c⟩
theorem alloc3 (w2 : World) (a b c : Obj) : (((w2.alloc a).alloc b).alloc c).heap[w2.heap.size]? = some a ∧ (((w2.alloc a).alloc b).alloc c).heap[w2.heap.size + 1]? = some b ∧ (((w2.alloc a).alloc b).alloc c).heap[w2.heap.size + 2]? = some c ∧
    (∀ g, g < w2.heap.size → (((w2.alloc a).alloc b).alloc c).heap[g]? = w2.heap[g]?) ∧ (((w2.alloc a).alloc b).alloc c).heap.size = w2.heap.size + 3 := by
  have s1 : (w2.alloc a).heap.size = w2.heap.size + 1 := by simp
  have s2 : ((w2.alloc a).alloc b).heap.size = w2.heap.size + 2 := by simp
  have n0 := heap_alloc_new w2 a
  have n1 := heap_alloc_new (w2.alloc a) b
  have n2 := heap_alloc_new ((w2.alloc a).alloc b) c
  rw [s1] at n1
  rw [s2] at n2
  refine ⟨?_, ?_, n2, fun g hg => ?_, by simp⟩
  · rw [heap_alloc_old _ _ (by omega), heap_alloc_old _ _ (by omega)]; exact n0
  · rw [heap_alloc_old _ _ (by omega)]; exact n1
  · rw [heap_alloc_old _ _ (by omega), heap_alloc_old _ _ (by omega), heap_alloc_old _ _ hg]

set_option maxHeartbeats 1000000 in
theorem lastPlacesN_any (w : World) (s : Nat → Int) :
    Calls Try.prog 82 #[] w fun e w' => e = .returned (lastV (w.heap.size + 2) (w.heap.size + 1)) ∧ LastAt w' w.heap.size (w.heap.size + 2) (w.heap.size + 1) w.heap.size 0 s ∧ Below w.heap.size w w' ∧ w'.heap.size = w.heap.size + 3 := by
  have hmm := @run_makeMap Try.prog
  have hmf : ∀ (fn : Fn) (first cap : Array Value) (w : World), (Instr.makeFunc fn first cap).run Try.prog w = .ok (.func fn first cap) w := fun _ _ _ _ => rfl
  go_enter Try.func82, Try.ntmps82
  go_wp2_with fail
  go_ret
  have e0 : ((w.alloc (.map #[] 0)).alloc (.cells #[.map (some w.heap.size)] 75)).heap.size = w.heap.size + 2 := by simp
  have e1 : (w.alloc (.map #[] 0)).heap.size = w.heap.size + 1 := by simp
  have hv : ((w.alloc (.map #[] 0)).alloc (.cells #[.map (some w.heap.size)] 75)).heap[w.heap.size + 1]? = some (.cells #[.map (some w.heap.size)] 75) := by
    have := heap_alloc_new (w.alloc (.map #[] 0)) (.cells #[.map (some w.heap.size)] 75)
    rwa [e1] at this
  have hp := heap_alloc_new ((w.alloc (.map #[] 0)).alloc (.cells #[.map (some w.heap.size)] 75)) (.cells #[.int .i64 0] 3)
  rw [e0] at hp
  have hv2 := (heap_alloc_old ((w.alloc (.map #[] 0)).alloc (.cells #[.map (some w.heap.size)] 75)) (.cells #[.int .i64 0] 3) (r := w.heap.size + 1) (by rw [e0]; omega)).trans hv
  refine ⟨rfl, ⟨0, .map [], Nat.le_refl _, lstD_empty s, ((World.ownsMap_made w Try.prog 3 (plainElem Try.prog 3)).alloc _).alloc _, ⟨by omega, by omega, by omega, by omega, by omega, by omega, by simp, by simp⟩, ?_, ?_, ?_⟩, ((below_alloc w _).alloc (by simp) _).alloc (by simp; omega) _, by simp⟩
  · simp only [World.cell?, hp]; rfl
  · simp only [World.cell?, hv2]; rfl
  · simp only [World.frozen?, hp]; simp

set_option maxHeartbeats 2000000 in
theorem eckFrom_any (w : World) (A : Option Addr) (n c : Nat) (ns : List Int) :
    Calls Try.prog 79 #[.slice A n c] w fun e w' => e = .returned (eckV w.heap.size) ∧ EckAt w' w.heap.size 0 ns (.slice A n c) ∧ Below w.heap.size w w' := by
  have hmf : ∀ (fn : Fn) (first cap : Array Value) (w : World), (Instr.makeFunc fn first cap).run Try.prog w = .ok (.func fn first cap) w := fun _ _ _ _ => rfl
  go_enter Try.func79, Try.ntmps79
  go_wp2_with fail
  have hlp := lastPlacesN_any (w.alloc (.cells #[.slice A n c] 22)) (eckS ns)
  rw [show (w.alloc (.cells #[.slice A n c] 22)).heap.size = w.heap.size + 1 by simp] at hlp
  refine hlp.mono ?_
  rintro e w2 ⟨rfl, hl, hb, hs⟩
  have hc0 : w2.cell? ⟨w.heap.size, 0, none⟩ = some (.slice A n c) := by
    have h0 := heap_alloc_new w (.cells #[.slice A n c] 22)
    have h1 := hb.block w.heap.size (by omega)
    rw [cell_same h1]; simp only [World.cell?, h0]; rfl
  have HL := Lib.hid hl; have HB := Lib.hid hb; have HS := Lib.hid hs; have HC0 := Lib.hid hc0; clear hl hb hlp hs hc0
  unfold lastV
  go_wp2_with fail
  go_ret
  have hb3 := ((HB.out.mono (show w.heap.size ≤ w.heap.size + 1 by omega)).alloc (by have := HS.out; omega) (.cells #[.func (.func 90) #[] #[.pointer (some ⟨w.heap.size + 1 + 2, 0, none⟩), .pointer (some ⟨w.heap.size + 1 + 1, 0, none⟩)]] 62)).alloc (by have := HS.out; simp; omega) (.cells #[.int .i64 0] 3) |>.alloc (by have := HS.out; simp; omega) (.cells #[.int .i64 0] 3)
  obtain ⟨n0, n1, n2, n3, n4⟩ := alloc3 w2 (.cells #[.func (.func 90) #[] #[.pointer (some ⟨w.heap.size + 1 + 2, 0, none⟩), .pointer (some ⟨w.heap.size + 1 + 1, 0, none⟩)]] 62) (.cells #[.int .i64 0] 3) (.cells #[.int .i64 0] 3)
  have hs := HS.out
  rw [hs] at n0 n1 n2 n4
  refine ⟨?_, ⟨(HL.out.keep (by rw [n4, hs]; omega) (fun g _ h2 _ => n3 g h2)).mono (by omega), by rw [n4]; omega, ?_, ?_, ?_, ?_, ?_, ?_⟩, (below_alloc w _).trans hb3⟩
  · show Ending.returned _ = _
    rw [hs]; rfl
  · rw [cell_same (n3 w.heap.size (by omega))]; exact HC0.out
  · simp only [World.cell?, n0]; rfl
  · simp only [World.cell?, n1]; rfl
  · simp only [World.cell?, n2]; rfl
  · simp only [World.frozen?, n1]; simp
  · simp only [World.frozen?, n2]; simp
end Go.Proofs.Ytpglkgpaaflikaa
