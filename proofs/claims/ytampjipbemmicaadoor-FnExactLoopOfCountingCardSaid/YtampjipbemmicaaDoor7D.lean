/- Chapter 7: a language copied, compared, marked and found again. -/
import Derived.Test.YtampjipbemmicaaDoor7C
namespace Go.Proofs.YtampjipbemmicaaDoor
open Go.RowKit Go.BigFrame
set_option linter.unusedSimpArgs false
set_option linter.unusedVariables false
set_option maxRecDepth 4000

/-- A block of two cells. -/
theorem two_obj {w : World} {g : Nat} {a b : Value} {T : TypeId} (h : w.heap[g]? = some (.cells #[a, b] T (0, 0))) :
    w.cell? ⟨g, 0, none⟩ = some a ∧ w.cell? ⟨g, 1, none⟩ = some b ∧ w.frozen? ⟨g, 0, none⟩ = false ∧ w.frozen? ⟨g, 1, none⟩ = false := by
  refine ⟨?_, ?_, ?_, ?_⟩
  · simp only [World.cell?, h]; rfl
  · simp only [World.cell?, h]; rfl
  · simp only [World.frozen?, h]; simp
  · simp only [World.frozen?, h]; simp

set_option maxHeartbeats 1000000 in
theorem toLanguage_any (w : World) (u : Value) (ns : List (List UInt8)) (fr : List UInt8) (h : ArgS w u ns) (hn : ns.length ≤ 1048576) :
    Calls Tryd.prog 16 #[.agg #[u, .string (bs fr)]] w fun e w' => ∃ v, e = .returned (.agg #[v, .string (bs fr)]) ∧ Strs w' w.heap.size v ns ∧ Below w.heap.size w w' := by
  obtain ⟨N, hN⟩ : ∃ N, N = ns.length := ⟨_, rfl⟩
  have H1 := Lib.hid (fun (W : World) (hb : Below w.heap.size w W) => toStringS_any W u ns (argS_below h hb) hn)
  rw [← hN] at H1
  clear h hN
  go_enter Tryd.func16, Tryd.ntmps16
  go_wp2_with fail
  refine (H1.out _ ?_).mono ?_
  · exact ((below_alloc w _).alloc (by simp) _).alloc (by simp; omega) _
  rintro e w1 ⟨rfl, h1, h2, h3⟩
  simp only [World.size_alloc] at h1 h2 h3 ⊢
  obtain ⟨a0, a1, _, _⟩ := two_obj (w := w1) (g := w.heap.size) ((h2.block w.heap.size (by omega)).trans ((heap_alloc_old _ _ (by simp; omega)).trans ((heap_alloc_old _ _ (by simp)).trans (heap_alloc_new w _))))
  obtain ⟨b0, b1, b2, b3⟩ := two_obj (w := w1) (g := w.heap.size + 1) ((h2.block (w.heap.size + 1) (by omega)).trans ((heap_alloc_old _ _ (by simp)).trans (by
    have := heap_alloc_new (w.alloc (.cells #[u, .string (bs fr)] 24)) (.cells #[.slice none 0 0, .string ⟨#[]⟩] 27)
    simpa using this)))
  obtain ⟨c0, c1, c2, c3⟩ := two_obj (w := w1) (g := w.heap.size + 1 + 1) ((h2.block (w.heap.size + 1 + 1) (by omega)).trans (by
    have := heap_alloc_new ((w.alloc (.cells #[u, .string (bs fr)] 24)).alloc (.cells #[.slice none 0 0, .string ⟨#[]⟩] 27)) (.cells #[.slice none 0 0, .string ⟨#[]⟩] 27)
    simpa using this))
  have H := Lib.hid h1; have HB := Lib.hid h2; have H3 := Lib.hid h3
  clear h1 h2 h3
  go_wp2_with fail
  refine bodyPost_ret (v := .agg #[.slice (some ⟨w.heap.size + 1 + 1 + 1, 0, none⟩) N N, .string (bs fr)]) ?_ rfl ?_
  · simp [results, Tryd.results16, go_sem, b0, b1]
  · refine ⟨_, rfl, ?_, ?_⟩
    · refine own_mono (own_block H.out fun g hg => ?_) (by omega)
      obtain rfl : w.heap.size + 1 + 1 + 1 = g := by simpa [Value.ownBlock] using hg
      rw [Below.heap_setCell _ _ _ _ (by show w.heap.size + 1 + 1 + 1 ≠ w.heap.size + 1; omega), Below.heap_setCell _ _ _ _ (by show w.heap.size + 1 + 1 + 1 ≠ w.heap.size + 1; omega), Below.heap_setCell _ _ _ _ (by show w.heap.size + 1 + 1 + 1 ≠ w.heap.size + 1 + 1; omega), Below.heap_setCell _ _ _ _ (by show w.heap.size + 1 + 1 + 1 ≠ w.heap.size + 1 + 1; omega)]
    · exact (((((((below_alloc w _).alloc (by simp) _).alloc (by simp; omega) _).trans (HB.out.mono (by omega))).setCell (by simp; omega) _).setCell (by simp; omega) _).setCell (by simp) _).setCell (by simp) _

set_option maxHeartbeats 1000000 in
theorem eqLanguage_same (w : World) (Ba Bb : Nat) (va vb : Value) (ns : List (List UInt8)) (fr : List UInt8) (ha : StrsO w Ba va ns) (hb : StrsO w Bb vb ns) :
    Calls Tryd.prog 18 #[.agg #[va, .string (bs fr)], .agg #[vb, .string (bs fr)]] w fun e w' => e = .returned (.bool true) ∧ Below w.heap.size w w' := by
  have H1 := Lib.hid (fun (W : World) (hw : Below w.heap.size w W) => eqStringO_same W Ba Bb va vb ns (strsO_below ha hw) (strsO_below hb hw))
  have hx : ((bs fr).toList != (bs fr).toList) = false := by simp
  clear ha hb
  go_enter Tryd.func18, Tryd.ntmps18
  go_wp2_with fail
  refine (H1.out _ ((below_alloc w _).alloc (by simp) _)).mono ?_
  rintro e w1 ⟨rfl, h2⟩
  simp only [World.size_alloc] at h2
  obtain ⟨_, a1, _, _⟩ := two_obj (w := w1) (g := w.heap.size) ((h2.block w.heap.size (by omega)).trans ((heap_alloc_old _ _ (by simp)).trans (heap_alloc_new w _)))
  obtain ⟨_, b1, _, _⟩ := two_obj (w := w1) (g := w.heap.size + 1) ((h2.block (w.heap.size + 1) (by omega)).trans (by
    have := heap_alloc_new (w.alloc (.cells #[va, .string (bs fr)] 27)) (.cells #[vb, .string (bs fr)] 27)
    simpa using this))
  have HB := Lib.hid h2
  clear h2
  go_wp2_with fail
  go_ret
  exact ⟨rfl, ((below_alloc w _).alloc (by simp) _).trans (HB.out.mono (by omega))⟩

set_option maxHeartbeats 1000000 in
theorem markLanguage_any (w : World) (B k0 : Nat) (v : Value) (ns : List (List UInt8)) (fr : List UInt8) (ha : StrsO w B v ns) (hB : B ≤ w.heap.size) (hk0 : k0 + ns.length ≤ 3000000000) :
    Calls Tryd.prog 25 #[.agg #[v, .string (bs fr)], .int .i64 k0] w fun e w' => e = .returned (.int .i64 ((k0 + ns.length : Nat) : Int)) ∧ StrsO w' B v (markTS k0 ns.length) ∧ Below B w w' := by
  obtain ⟨K, hK⟩ : ∃ K, K = k0 + ns.length := ⟨_, rfl⟩
  have H1 := Lib.hid (fun (W : World) (hw : Below w.heap.size w W) => markStringO_any W B k0 v ns (strsO_below ha hw) (Nat.le_trans hB hw.size) hk0)
  rw [← hK] at H1 ⊢
  clear ha hK
  go_enter Tryd.func25, Tryd.ntmps25
  go_wp2_with fail
  refine (H1.out _ (below_alloc w _)).mono ?_
  rintro e w1 ⟨rfl, h1, h2⟩
  have H := Lib.hid h1; have HB := Lib.hid h2
  clear h1 h2
  go_wp2_with fail
  go_ret
  exact ⟨rfl, H.out, ((Below.refl B w).alloc hB _).trans HB.out⟩

set_option maxHeartbeats 1000000 in
theorem heldLanguage_any (w : World) (B k0 n : Nat) (v : Value) (fr : List UInt8) (ha : StrsO w B v (markTS k0 n)) (hk0 : k0 + n ≤ 3000000000) :
    Calls Tryd.prog 47 #[.agg #[v, .string (bs fr)], .int .i64 k0] w fun e w' => e = .returned (.int .i64 ((k0 + n : Nat) : Int)) ∧ Below w.heap.size w w' := by
  obtain ⟨K, hK⟩ : ∃ K, K = k0 + n := ⟨_, rfl⟩
  have H1 := Lib.hid (fun (W : World) (hw : Below w.heap.size w W) => heldStringO_any W B k0 n v (strsO_below ha hw) hk0)
  rw [← hK] at H1 hk0 ⊢
  have hneg : ¬ (K : Int) < 0 := by omega
  clear ha hK
  go_enter Tryd.func47, Tryd.ntmps47
  go_wp2_with fail
  refine (H1.out _ (below_alloc w _)).mono ?_
  rintro e w1 ⟨rfl, h2⟩
  have HB := Lib.hid h2
  clear h2
  go_wp2_with fail
  go_ret
  exact ⟨rfl, (below_alloc w _).trans (HB.out.mono (by simp))⟩
end Go.Proofs.YtampjipbemmicaaDoor
