/- LoopOfTelling on both sides, and the law. -/
import Derived.Test.YtkdoghopbefjfaaU12
namespace Go.Proofs.Ytkdoghopbefjfaa
open Go.RowKit Go.BigFrame
set_option linter.unusedSimpArgs false
set_option linter.unusedVariables false
set_option maxRecDepth 4000

theorem loopTO_bad {K : Nat} {xs : List Int} (h : tolL xs = false) : loopTO K xs = none := by
  unfold loopTO; rw [if_neg (by rw [h]; simp)]

theorem specLoopOfTelling_any (w : World) (B : Nat) (v : Value) (xs : List Int) (K : Nat) (hK : 1000000010 ≤ K) (ha : IntsA w B v xs) :
    Calls Try.prog 41 #[v] w fun e w' => e = .returned (loopV (loopTO K xs)) ∧ Below w.heap.size w w' := by
  cases ht : tolL xs with
  | true =>
    obtain ⟨ns, rfl, h1, h9, hle⟩ := tolL_nat ht
    rw [loopTO_ti ht]
    exact specLoopOfTelling_good w B v ns K hK ha ht h1 h9 hle
  | false =>
    rw [loopTO_bad ht]
    have hL := taList_any w B v _ ha
    rw [ht] at hL
    obtain ⟨a, cap, rfl, _, _⟩ := intsA_slice ha
    have HL := Lib.hid hL; clear hL ha ht
    go_enter Try.func41, Try.ntmps41
    go_wp2_with fail
    refine HL.out.mono ?_
    rintro e w1 ⟨rfl, rfl⟩
    go_wp2_with fail
    go_ret3
    exact ⟨rfl, Below.refl _ _⟩

set_option maxHeartbeats 2000000 in
theorem implLoopOfTelling_any (w : World) (B : Nat) (v : Value) (xs : List Int) (K : Nat) (hK : 1000000010 ≤ K) (ha : IntsA w B v xs) :
    Calls Try.prog 40 #[v] w fun e w' => e = .returned (loopV (loopTO K xs)) ∧ Below w.heap.size w w' := by
  have hL := fun W (hb : Below w.heap.size w W) => tallyList_any W B v xs (intsA_below ha hb)
  cases ht : tolL xs with
  | false =>
    rw [loopTO_bad ht]
    have hP : padO xs = zeros9 := by unfold padO; rw [if_neg (by rw [ht]; simp)]
    rw [ht, hP] at hL
    obtain ⟨a, cap, rfl, _, _⟩ := intsA_slice ha
    have HL := Lib.hid hL; clear hL ha ht hP
    go_enter Try.func40, Try.ntmps40
    go_wp2_with fail
    refine (HL.out _ (below_alloc _ _)).mono ?_
    rintro e w1 ⟨rfl, hb⟩
    have HB := Lib.hid (below_trans (below_alloc w _) hb); clear hb
    go_wp2_with (refine wpList_putT rfl _ _ rfl w1.heap.size rfl zeros9 zeros9 rfl ⟨heap_alloc_new _ _, rfl⟩ rfl ?_; intro w2 hB2 _ hbb _; have HB2 := Lib.hid ((below_alloc w1 _).trans (hbb _ (Nat.le_refl _))); clear hbb)
    go_ret3
    exact ⟨rfl, below_trans HB.out HB2.out⟩
  | true =>
    obtain ⟨ns, rfl, h1, h9, hle⟩ := tolL_nat ht
    rw [loopTO_ti ht]
    rw [ht, padO_ti ht] at hL
    have hp9 := pad_len ns h9
    obtain ⟨a, cap, hv, _, _⟩ := intsA_slice ha
    rw [ti_len] at hv
    obtain ⟨L, hLL⟩ : ∃ L, L = ns.length := ⟨_, rfl⟩
    have hlp := fun W (hc : W.cell? ⟨w.heap.size, 0, none⟩ = some (.slice a L cap)) => loopTell_any W w.heap.size L a cap ns K hK hc (by omega) ⟨hLL.symm, by rw [hLL]; exact hle⟩
    rw [← hLL] at hv ⊢
    subst hv
    obtain ⟨R, hR⟩ : ∃ R, R = loopF (fT L) K [] ns := ⟨_, rfl⟩
    rw [← hR] at hlp ⊢
    obtain ⟨ts, hts⟩ : ∃ ts, ts = pad ns := ⟨_, rfl⟩
    rw [← hts] at hL hlp hp9
    have HL := Lib.hid hL; have HLP := Lib.hid hlp
    clear hL ha ht hlp hR hts hle hLL h1 h9
    go_enter Try.func40, Try.ntmps40
    go_wp2_with fail
    refine (HL.out _ (below_alloc _ _)).mono ?_
    rintro e w1 ⟨rfl, hb⟩
    have hc1 : w1.cell? ⟨w.heap.size, 0, none⟩ = some (.slice a L cap) := by
      rw [hb.cell (p := ⟨w.heap.size, 0, none⟩) (by simp), cell_of_row _ _ _ _ _ _ (heap_alloc_new _ _)]; rfl
    have hlt1 := World.block_lt_of_cell? w1 _ hc1
    have HB := Lib.hid (below_trans (below_alloc w _) hb); clear hb
    go_wp2_with (first
      | (refine wpList_putT rfl _ _ rfl w1.heap.size rfl zeros9 ts rfl ⟨heap_alloc_new _ _, rfl⟩ hp9 ?_; intro w2 hB2 _ hbb _; have HB2 := Lib.hid ((below_alloc w1 _).trans (hbb _ (Nat.le_refl _))); clear hbb)
      | (refine wpList_getT rfl _ rfl w1.heap.size rfl ts hB2 ?_; unfold aggT tvA))
    have hc2 : w2.cell? ⟨w.heap.size, 0, none⟩ = some (.slice a L cap) := (HB2.out.cell (p := ⟨w.heap.size, 0, none⟩) hlt1).trans hc1
    refine (HLP.out w2 hc2).mono ?_
    rintro e w3 ⟨g, n, c, i, rfl, hsome, hi, hcy, hin, hn, hb⟩
    have HB3 := Lib.hid hb; have HI := Lib.hid hi; have HC := Lib.hid hcy; have HS := Lib.hid hsome
    clear hb hi hcy hsome hc1 hc2 hB2
    go_wp2_with fail
    go_ret3
    refine ⟨?_, below_trans HB.out (below_trans HB2.out HB3.out)⟩
    unfold loopV
    rw [← HI.out, ← HC.out, HS.out]
    rfl

end Go.Proofs.Ytkdoghopbefjfaa
