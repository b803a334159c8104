/- A loop over talliesUpTo: its law. -/
import Derived.Test.YtkdoghopbefjfaaQ5
import Derived.Test.YtkdoghopbefjfaaI1
namespace Go.Proofs.Ytkdoghopbefjfaa
open Go.RowKit Go.BigFrame Go.Shelf
set_option linter.unusedSimpArgs false
set_option linter.unusedVariables false
set_option maxRecDepth 4000
attribute [local go_sem] Oper.semAt_some

theorem talliesUpTo_is (n mo sm : Int) (w : World) :
    Calls Try.prog 70 #[.int .i64 n, .int .i64 mo, .int .i64 sm] w fun e w' =>
      e = .returned (.func (.func 100) #[] #[.pointer (some ⟨w.heap.size, 0, none⟩), .pointer (some ⟨w.heap.size + 1, 0, none⟩), .pointer (some ⟨w.heap.size + 2, 0, none⟩)]) ∧
      w' = ((w.alloc (.cells #[.int .i64 n] 3)).alloc (.cells #[.int .i64 mo] 3)).alloc (.cells #[.int .i64 sm] 3) := by
  go_enter Try.func70, Try.ntmps70
  go_wp2
  go_ret
  first | exact ⟨rfl, rfl⟩ | (refine ⟨by simp, rfl⟩)

theorem keepsFour_t {B1 B2 B3 m : Nat} {A B C : World} (h : KeepsFour B1 B2 B3 m A B) (k : KeepsFour B1 B2 B3 m B C) : KeepsFour B1 B2 B3 m A C := fun i hi => (k i hi).trans (h i hi)
theorem keepsFour_put {B1 B2 B3 m : Nat} {W : World} {l : Nat} (o : Obj) (h : ∀ k, (k = B1 ∨ k = B2 ∨ k = B3 ∨ k = m) → k ≠ l) : KeepsFour B1 B2 B3 m W (W.putObj l o) := fun k hk => World.putObj_heap_other (h k hk)

set_option maxHeartbeats 1000000 in
theorem wp_talliesM {Q : Exit → Act → World → Prop} {a : Act} {W0 : World} {g : Operand} {t : Tmp} {assign body : Code} (n mo sm : Nat) (h1 : 1 ≤ n) (h9 : n ≤ 9) (hmo : mo ≤ 9) (hsm : sm ≤ 100) (B1 B2 B3 : Nat)
    (all : List (List Nat)) (hall : all = aftP mo 0 (List.replicate n 0) sm) (hB : BoxN B1 B2 B3 n mo sm W0)
    (hg : a.eval g = .func (.func 100) #[] #[.pointer (some ⟨B1, 0, none⟩), .pointer (some ⟨B2, 0, none⟩), .pointer (some ⟨B3, 0, none⟩)])
    (I : List (List Nat) → World → Prop) (hI : ∀ s A C row, I s A → A.grownBy C row → (∀ r, row = some r → W0.heap.size ≤ r ∧ r ≤ W0.heap.size + 2) → I s C) (h0 : I [] W0)
    (Ax : List Nat → Act → World → Prop) (hAx : ∀ x a' A C row, Ax x a' A → A.grownBy C row → (∀ r, row = some r → r = W0.heap.size + 1) → Ax x a' C)
    (hassign : ∀ (lp : Nat) (pre : List (List Nat)) (x : List Nat) (W : World) (K : Act → World → Prop), I pre W → W0.heap.size + 3 ≤ W.heap.size → x.length = n →
      (∀ a' W', KeepsFrom W0.heap.size W W' → KeepsFour B1 B2 B3 (W0.heap.size + 2) W W' → I pre W' → Ax x a' W' → K a' W') →
      assign.wpIn (Fence.wide.inRound lp) 7 Try.prog (Exit.then K (fun _ _ _ => False)) { tmps := a.tmps.setIfInBounds t (aggT (pad x)), defers := [] } W)
    (hbody : ∀ (lp : Nat) (pre : List (List Nat)) (x : List Nat) (a' : Act) (W : World) (Q2 : Exit → Act → World → Prop), (¬ LetsOut Q2 ∧ ∀ c a w, ¬ Q2 (.panic c) a w) →
      (∀ a'' W', KeepsFrom W0.heap.size W W' → KeepsFour B1 B2 B3 (W0.heap.size + 2) W W' → I (pre ++ [x]) W' → Q2 .normal a'' W') → I pre W → Ax x a' W → W0.heap.size + 3 ≤ W.heap.size → pre.length < all.length → x.length = n → (∀ y ∈ x, y ≤ mo) →
      body.wpIn (Fence.wide.inRound lp) 7 Try.prog Q2 a' W)
    (hdone : ∀ (D : Nat) (W : World), D = W0.heap.size → I all W → W.heap[D]? = some (.deferred (some [])) → Q .normal { a with defers := { target := .collected D, args := #[] } :: a.defers } W) :
    (Code.rangeFunc g #[t] assign body).wp Try.prog Q a W0 := by
  have hlt := boxN_lt hB
  refine (wpIn_wide (n := 9)).1 (wpIn_rangeFunc fun fn hfn => ?_)
  obtain ⟨R, hR⟩ : ∃ R : LoopState → Option Code → Loop, R = fun st pe => { state := st, pending := pe, fn, tmps := a.tmps, params := #[t], assign, body, defers := W0.heap.size } := ⟨_, rfl⟩
  obtain ⟨W1, hW1⟩ : ∃ W1, W1 = (W0.alloc (.deferred (some []))).alloc (.loop (R .ready none)) := ⟨_, rfl⟩
  have hs1 : W1.heap.size = W0.heap.size + 2 := by rw [hW1]; simp
  have hb1 : Below W0.heap.size W0 W1 := by rw [hW1]; exact below_trans (below_alloc _ _) (below_alloc _ _)
  have hl1 : W1.heap[W0.heap.size + 1]? = some (.loop (R .ready none)) := by
    rw [hW1]; have := World.alloc_heap_new (W0.alloc (.deferred (some []))) (.loop (R .ready none)); rwa [World.size_alloc] at this
  have hd1 : W1.heap[W0.heap.size]? = some (.deferred (some [])) := by
    rw [hW1]; exact (Below.heap_alloc _ _ _ (by simp)).trans (World.alloc_heap_new W0 _)
  have hi1 : I [] W1 := hI _ _ _ none h0 (grown_of_below' hb1) (fun r e => by cases e)
  refine ⟨W0.heap.size + 1, [{ target := .collected W0.heap.size, args := #[] }], W1, { target := .fn (.func 100) #[.pointer (some ⟨B1, 0, none⟩), .pointer (some ⟨B2, 0, none⟩), .pointer (some ⟨B3, 0, none⟩)], args := #[.func (.yield (W0.heap.size + 1)) #[] #[]] }, W1, 100,
    #[.func (.yield (W0.heap.size + 1)) #[] #[], .pointer (some ⟨B1, 0, none⟩), .pointer (some ⟨B2, 0, none⟩), .pointer (some ⟨B3, 0, none⟩)], W1, ?_, ?_, fun _ _ => trivial, ?_, fun _ => by omega, ?_⟩
  · rw [hW1, hR]; exact run_enterLoop_outer _ _ _ _ _
  · simp only [resolve, hg]
    simp [go_sem]
  · have eg := enters_of (f := 100) Try.func100 (by kernel_rfl) rfl
    simp [invoke, go_sem, eg]
  · have keepB : ∀ l, W0.heap.size ≤ l → l < W0.heap.size + 2 → ∀ k, (k = B1 ∨ k = B2 ∨ k = B3 ∨ k = W0.heap.size + 2) → k ≠ l := by
      intro l h1 h2 k hk
      rcases hk with rfl | rfl | rfl | rfl <;> omega
    refine (tallies_in 8 (by omega) n mo sm h1 h9 hmo hsm (W0.heap.size + 1) B1 B2 B3 all hall W1
      (fun pre W => I pre W ∧ W.heap[W0.heap.size + 1]? = some (.loop (R .ready none)) ∧ W.heap[W0.heap.size]? = some (.deferred (some [])))
      (fun s A C row hs hg' hr => ⟨hI s A C row hs.1 hg' (fun r e => by have := hr r e; omega),
        (hg'.block _ (get_lt (l := A.heap.toList) (x := .loop (R .ready none)) (by simpa using hs.2.1) |> fun h => by simpa using h) (fun e => by have := hr _ e.symm; omega)).trans hs.2.1,
        (hg'.block _ (get_lt (l := A.heap.toList) (x := .deferred (some [])) (by simpa using hs.2.2) |> fun h => by simpa using h) (fun e => by have := hr _ e.symm; omega)).trans hs.2.2⟩)
      ?_ (boxN_below hB hb1) ⟨hi1, hl1, hd1⟩).mono ?_
    · rintro pre x W ⟨hi, hl, hd⟩ hsz hpl hxl hxm
      rw [hs1] at hsz ⊢
      have hy := run_yield (P := Try.prog) (args := tyEnc x) hl (by rw [hR]; rfl)
      rw [hR] at hy
      refine ⟨fn, _, assign, body, hy, roundIn_of_wpIn hfn ?_⟩
      clear hy
      have hh2 : ∀ K : Act → World → Prop, (∀ a' W', KeepsFrom W0.heap.size W W' → KeepsFour B1 B2 B3 (W0.heap.size + 2) W W' → I pre W' → Ax x a' W' → K a' W') →
          assign.wpIn (Fence.wide.inRound (W0.heap.size + 1)) 7 Try.prog (Exit.then K (fun _ _ _ => False)) { tmps := ((#[t] : Array Tmp).zip (tyEnc x)).foldl (fun (tmps : Array Value) (t, a) => tmps.setIfInBounds t a) a.tmps, defers := [] } W := fun K hK => by
        have h := hassign (W0.heap.size + 1) pre x W K hi (by omega) hxl hK
        unfold tyEnc
        simpa using h
      refine hh2 _ ?_
      intro a' Wa hkf hk4 hia hax
      have hla := hkf.same _ _ (by omega) hl rfl
      have hda := hkf.same _ _ (Nat.le_refl _) hd rfl
      have hlta : W0.heap.size + 1 < Wa.heap.size := (Array.getElem?_eq_some_iff.1 hla).1
      have hsza := hkf.size
      refine ⟨_, run_beginRound hla (by rw [hR]), ?_⟩
      obtain ⟨Wb, hWb⟩ : ∃ Wb, Wb = Wa.putObj (W0.heap.size + 1) (.loop { R .ready none with state := .busy }) := ⟨_, rfl⟩
      have hlb : Wb.heap[W0.heap.size + 1]? = some (.loop { R .ready none with state := .busy }) := by rw [hWb]; exact World.putObj_heap_same hlta
      have hdb : Wb.heap[W0.heap.size]? = some (.deferred (some [])) := by rw [hWb]; exact (World.putObj_heap_other (by omega)).trans hda
      have hszb : Wb.heap.size = Wa.heap.size := by rw [hWb]; simp
      have hib : I pre Wb := by rw [hWb]; exact hI _ _ _ (some (W0.heap.size + 1)) hia (grownBy_putObj' _ _ _) (fun r e => by cases e; omega)
      have hab : Ax x a' Wb := by rw [hWb]; exact hAx _ _ _ _ (some (W0.heap.size + 1)) hax (grownBy_putObj' _ _ _) (fun r e => by cases e; rfl)
      have hk4b : KeepsFour B1 B2 B3 (W0.heap.size + 2) W Wb := by rw [hWb]; exact keepsFour_t hk4 (keepsFour_put _ (keepB _ (by omega) (by omega)))
      rw [← hWb]
      refine wpIn_mono (hbody _ pre x a' Wb (fun e _ W' => e = .normal ∧ KeepsFrom W0.heap.size Wb W' ∧ KeepsFour B1 B2 B3 (W0.heap.size + 2) Wb W' ∧ I (pre ++ [x]) W') ⟨by rintro ⟨a, w, h⟩; exact absurd h.1 (by simp), by intro c a w h; exact absurd h.1 (by simp)⟩ (fun a'' W' k1 k2 k3 => ⟨rfl, k1, k2, k3⟩) hib hab (by omega) hpl hxl hxm) ?_
      rintro e a3 W3 ⟨rfl, hk3, hk43, hi3⟩
      have hl3 := hk3.same _ _ (by omega) hlb rfl
      have hd3 := hk3.same _ _ (Nat.le_refl _) hdb rfl
      have hlt3 : W0.heap.size + 1 < W3.heap.size := (Array.getElem?_eq_some_iff.1 hl3).1
      have hsz3 := hk3.size
      have hr := run_endRound (P := Try.prog) none hl3
      refine ⟨_, _, hr, rfl, ⟨hI _ _ _ (some (W0.heap.size + 1)) hi3 (grownBy_putObj' _ _ _) (fun r e => by cases e; omega), ?_, (World.putObj_heap_other (by omega)).trans hd3⟩, keepsFour_t hk4b (keepsFour_t hk43 (keepsFour_put _ (keepB _ (by omega) (by omega)))), by simp; omega⟩
      rw [World.putObj_heap_same hlt3, hR]; rfl
    · rintro e W2 ⟨⟨v, rfl⟩, hi, hl, hd⟩
      have hr := run_endLoop (P := Try.prog) hl (by rw [hR]; simp)
      rw [hR] at hr
      refine ⟨none, _, hr, hdone _ _ rfl (hI _ _ _ (some (W0.heap.size + 1)) hi (grownBy_putObj' _ _ _) (fun r e => by cases e; omega)) ?_⟩
      exact (World.putObj_heap_other (by omega)).trans hd

theorem wp_tallies {Q : Exit → Act → World → Prop} {a : Act} {W0 : World} {g : Operand} {t : Tmp} {assign body : Code} (n mo sm : Nat) (h1 : 1 ≤ n) (h9 : n ≤ 9) (hmo : mo ≤ 9) (hsm : sm ≤ 100) (B1 B2 B3 : Nat)
    (all : List (List Nat)) (hall : all = aftP mo 0 (List.replicate n 0) sm) (hB : BoxN B1 B2 B3 n mo sm W0)
    (hg : a.eval g = .func (.func 100) #[] #[.pointer (some ⟨B1, 0, none⟩), .pointer (some ⟨B2, 0, none⟩), .pointer (some ⟨B3, 0, none⟩)])
    (I : List (List Nat) → World → Prop) (hI : ∀ s A C row, I s A → A.grownBy C row → (∀ r, row = some r → W0.heap.size ≤ r ∧ r ≤ W0.heap.size + 2) → I s C) (h0 : I [] W0)
    (Ax : List Nat → Act → World → Prop) (hAx : ∀ x a' A C row, Ax x a' A → A.grownBy C row → (∀ r, row = some r → r = W0.heap.size + 1) → Ax x a' C)
    (hassign : ∀ (lp : Nat) (pre : List (List Nat)) (x : List Nat) (W : World) (K : Act → World → Prop), I pre W → W0.heap.size + 3 ≤ W.heap.size → x.length = n →
      (∀ a' W', KeepsFrom W0.heap.size W W' → KeepsFour B1 B2 B3 (W0.heap.size + 2) W W' → I pre W' → Ax x a' W' → K a' W') →
      assign.wpIn (Fence.wide.inRound lp) 7 Try.prog (Exit.then K (fun _ _ _ => False)) { tmps := a.tmps.setIfInBounds t (aggT (pad x)), defers := [] } W)
    (hbody : ∀ (lp : Nat) (pre : List (List Nat)) (x : List Nat) (a' : Act) (W : World) (Q2 : Exit → Act → World → Prop), (¬ LetsOut Q2 ∧ ∀ c a w, ¬ Q2 (.panic c) a w) →
      (∀ a'' W', KeepsFrom W0.heap.size W W' → KeepsFour B1 B2 B3 (W0.heap.size + 2) W W' → I (pre ++ [x]) W' → Q2 .normal a'' W') → I pre W → Ax x a' W → W0.heap.size + 3 ≤ W.heap.size → pre.length < all.length → x.length = n →
      body.wpIn (Fence.wide.inRound lp) 7 Try.prog Q2 a' W)
    (hdone : ∀ (D : Nat) (W : World), D = W0.heap.size → I all W → W.heap[D]? = some (.deferred (some [])) → Q .normal { a with defers := { target := .collected D, args := #[] } :: a.defers } W) :
    (Code.rangeFunc g #[t] assign body).wp Try.prog Q a W0 :=
  wp_talliesM n mo sm h1 h9 hmo hsm B1 B2 B3 all hall hB hg I hI h0 Ax hAx hassign (fun lp pre x a' W Q2 hno hk hi hx hsz hpl hxl _ => hbody lp pre x a' W Q2 hno hk hi hx hsz hpl hxl) hdone
end Go.Proofs.Ytkdoghopbefjfaa
