/- Chapter 7: LoopOfCounting on both sides. -/
import Derived.Test.YtampjipbemmicaaDoor8C
namespace Go.Proofs.YtampjipbemmicaaDoor
open Go.RowKit Go.BigFrame Go.Deep
set_option linter.unusedSimpArgs false
set_option linter.unusedVariables false
set_option maxRecDepth 4000

theorem loopO_good {ns : List (List UInt8)} {fr : List UInt8} {K : Nat} {xs : List Int} (h : toldB ns fr xs = true) : loopO ns fr K xs = loopF (gQ ns fr xs.length) K [] xs := by
  unfold loopO; rw [if_pos h]
theorem loopO_bad {ns : List (List UInt8)} {fr : List UInt8} {K : Nat} {xs : List Int} (h : toldB ns fr xs = false) : loopO ns fr K xs = none := by
  unfold loopO; rw [if_neg (fun e => by rw [h] at e; cases e)]

set_option maxHeartbeats 1000000 in
theorem specLoopOfCounting_any (w : World) (B : Nat) (u v : Value) (ns : List (List UInt8)) (fr : List UInt8) (xs : List Int) (K : Nat) (hK : 10010 ≤ K) (h : ArgS w u ns) (hf : fr.length ≤ 9223372036854775807) (ha : IntsA w B v xs) :
    Calls Tryd.prog 39 #[.agg #[u, .string (bs fr)], v] w fun e w' => e = .returned (loopQV (loopO ns fr K xs)) ∧ Below w.heap.size w w' := by
  cases ht : toldB ns fr xs with
  | true =>
    rw [loopO_good ht]
    exact specLoopOfCounting_good w B u v ns fr xs K hK h hf ha ht
  | false =>
    have hTL := fun (W : World) (hb : Below w.heap.size w W) => snTold_any W u v ns fr xs (argS_below h hb) hf (argL_below (argL_of ha) hb)
    rw [loopO_bad ht]
    rw [ht] at hTL
    have HTL := Lib.hid hTL
    clear ht hTL h ha
    go_enter Tryd.func39, Tryd.ntmps39
    go_wp2_with fail
    refine (HTL.out _ (below_alloc _ _)).mono ?_
    rintro e w1 ⟨rfl, hb⟩
    have HB := Lib.hid (below_trans (below_alloc _ _) hb); clear hb
    go_wp2_with fail
    go_ret3
    exact ⟨rfl, HB.out⟩

set_option maxHeartbeats 4000000 in
theorem implLoopOfCounting_any (w : World) (B : Nat) (u v : Value) (ns : List (List UInt8)) (fr : List UInt8) (xs : List Int) (K : Nat) (hK : 10010 ≤ K) (h : ArgS w u ns) (hf : fr.length ≤ 9223372036854775807) (ha : IntsA w B v xs) :
    Calls Tryd.prog 40 #[.agg #[u, .string (bs fr)], v] w fun e w' => e = .returned (loopQV (loopO ns fr K xs)) ∧ Below w.heap.size w w' := by
  have hTL := fun (W : World) (hb : Below w.heap.size w W) => canTell_any W u v ns fr xs (argS_below h hb) hf (argL_below (argL_of ha) hb)
  have hb0 : ∀ (T S : TypeId) (A B : Array Value), Below w.heap.size w ((w.alloc (.cells A T)).alloc (.cells B S)) := fun T S A B => below_trans (below_alloc w _) (below_alloc _ _)
  cases ht : toldB ns fr xs with
  | false =>
    rw [loopO_bad ht]
    rw [ht] at hTL
    obtain ⟨a, cap, hv, _, _⟩ := intsA_slice ha
    obtain ⟨M, hM⟩ : ∃ M, M = xs.length := ⟨_, rfl⟩
    rw [← hM] at hv
    subst hv
    have HB0 := Lib.hid (hb0 27 31 #[u, .string (bs fr)] #[.slice a M cap])
    have HTL := Lib.hid (hTL _ (hb0 27 31 #[u, .string (bs fr)] #[.slice a M cap]))
    clear ht hTL h ha hM hb0
    go_enter Tryd.func40, Tryd.ntmps40
    go_wp2_with fail
    with_reducible refine HTL.out.mono ?_
    rintro e w1 ⟨rfl, hb⟩
    have HB := Lib.hid (below_trans HB0.out hb); clear hb
    go_wp2_with fail
    go_ret3
    exact ⟨rfl, HB.out⟩
  | true =>
    rw [loopO_good ht]
    rw [ht] at hTL
    obtain ⟨_, h1, h4, _⟩ := toldB_parts ht
    have HTG := Lib.hid (fun (W : World) (hb : Below w.heap.size w W) => tellingOf_any W v xs (argL_below (argL_of ha) hb) h4)
    obtain ⟨M, hM⟩ : ∃ M, M = xs.length := ⟨_, rfl⟩
    obtain ⟨a, cap, hv, _, _⟩ := intsA_slice ha
    rw [← hM] at hv h4 h1 ⊢
    have HLP := Lib.hid (fun (W : World) (hb : Below w.heap.size w W) (hbx : TwoAt W w.heap.size u (.string (bs fr)) 27) (hc : W.cell? ⟨w.heap.size + 1, 0, none⟩ = some (.slice a M cap)) => loopQ_any W w.heap.size (w.heap.size + 1) M u a cap ns fr xs K hK (argS_below h hb) hf hbx hc h4 ⟨hM.symm, ht⟩)
    obtain ⟨R, hR⟩ : ∃ R, R = loopF (gQ ns fr M) K [] xs := ⟨_, rfl⟩
    rw [← hR] at HLP ⊢
    obtain ⟨TS, hTS⟩ : ∃ TS, TS = fvA (padF xs) := ⟨_, rfl⟩
    have hag : aggF (padF xs) = .agg TS := by rw [hTS]; rfl
    rw [← hTS] at HLP
    rw [hag] at HTG
    subst hv
    have hx0 : TwoAt ((w.alloc (.cells #[u, .string (bs fr)] 27)).alloc (.cells #[.slice a M cap] 31)) w.heap.size u (.string (bs fr)) 27 := (twoAt_new w u (.string (bs fr)) 27).below (below_alloc _ _)
    have hc0 : ((w.alloc (.cells #[u, .string (bs fr)] 27)).alloc (.cells #[.slice a M cap] 31)).cell? ⟨w.heap.size + 1, 0, none⟩ = some (.slice a M cap) := by
      rw [cell_of_row _ (w.heap.size + 1) 0 _ _ _ (heap_alloc2_new _ _ _)]; rfl
    have HX0 := Lib.hid hx0; have HC0 := Lib.hid hc0
    have HB0 := Lib.hid (hb0 27 31 #[u, .string (bs fr)] #[.slice a M cap])
    have HTL := Lib.hid (hTL _ (hb0 27 31 #[u, .string (bs fr)] #[.slice a M cap]))
    clear h ha hM ht hTL hR hTS hag hx0 hc0 hb0
    go_enter Tryd.func40, Tryd.ntmps40
    go_wp2_with fail
    with_reducible refine HTL.out.mono ?_
    rintro e w1 ⟨rfl, hb⟩
    have HX1 := Lib.hid (HX0.out.below hb)
    have c1 := (hb.cell (p := ⟨w.heap.size + 1, 0, none⟩) (by simp)).trans HC0.out
    have HB1 := Lib.hid (below_trans HB0.out hb); clear hb
    have hl1 := World.block_lt_of_cell? w1 _ c1
    go_wp2_with fail
    refine (HTG.out _ HB1.out).mono ?_
    rintro e w2 ⟨rfl, hb⟩
    have HX2 := Lib.hid (HX1.out.below hb)
    have HC2 := Lib.hid ((hb.cell (p := ⟨w.heap.size + 1, 0, none⟩) hl1).trans c1)
    have HB2 := Lib.hid (below_trans HB1.out hb); clear hb c1 hl1
    go_wp2_with fail
    refine (HLP.out w2 HB2.out HX2.out HC2.out).mono ?_
    rintro e w3 ⟨p, n, c, i, rfl, hi, hcy, hin, hn, hb⟩
    have HB3 := Lib.hid (below_trans HB2.out hb); have HI := Lib.hid hi; have HC := Lib.hid hcy
    clear hb hi hcy
    go_wp2_with fail
    go_ret3
    refine ⟨?_, HB3.out⟩
    unfold loopQV
    rw [← HI.out, ← HC.out]
    rfl
end Go.Proofs.YtampjipbemmicaaDoor
