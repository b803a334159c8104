/- LoopOfTelling on both sides, and the law. -/
import Derived.Test.YtfkaghiopnaghabU12
namespace Go.Proofs.Ytfkaghiopnaghab
open Go.RowKit Go.BigFrame
set_option linter.unusedSimpArgs false
set_option linter.unusedVariables false
set_option maxRecDepth 4000

theorem loopTO_bad {K : Nat} {xs : List Int} (h : tolL xs = false) : loopTO K xs = none := by
  unfold loopTO; rw [if_neg (by rw [h]; simp)]

theorem specLoopOfTelling_any (w : World) (B : Nat) (v : Value) (xs : List Int) (K : Nat) (hK : 1000000010 ≤ K) (ha : IntsA w B v xs) :
    Calls Try.prog 25 #[v] w fun e w' => e = .returned (loopV (loopTO K xs)) ∧ Below w.heap.size w w' := by
  cases ht : tolL xs with
  | true =>
    obtain ⟨ns, rfl, h1, h9, hle⟩ := tolL_nat ht
    rw [loopTO_ti ht]
    exact specLoopOfTelling_good w B v ns K hK ha ht h1 h9 hle
  | false =>
    rw [loopTO_bad ht]
    have hL := taList_any w B v _ ha
    rw [ht] at hL
    obtain ⟨a, cap, rfl, _, _⟩ := intsA_slice ha
    have HL := Lib.hid hL; clear hL ha ht
    go_enter Try.func25, Try.ntmps25
    go_wp2_with fail
    refine HL.out.mono ?_
    rintro e w1 ⟨rfl, rfl⟩
    go_wp2_with fail
    go_ret3
    exact ⟨rfl, Below.refl _ _⟩

set_option maxHeartbeats 2000000 in
theorem implLoopOfTelling_any (w : World) (B : Nat) (v : Value) (xs : List Int) (K : Nat) (hK : 1000000010 ≤ K) (ha : IntsA w B v xs) :
    Calls Try.prog 26 #[v] w fun e w' => e = .returned (loopV (loopTO K xs)) ∧ Below w.heap.size w w' := by
  have hL := fun W (hb : Below w.heap.size w W) => tallyList_any W B v xs (intsA_below ha hb)
  cases ht : tolL xs with
  | false =>
    rw [loopTO_bad ht]
    have hP : padO xs = zeros9 := by unfold padO; rw [if_neg (by rw [ht]; simp)]
    rw [ht, hP] at hL
    obtain ⟨a, cap, rfl, _, _⟩ := intsA_slice ha
    have HL := Lib.hid hL; clear hL ha ht hP
    go_enter Try.func26, Try.ntmps26
    go_wp2_with fail
    refine (HL.out _ (below_alloc _ _)).mono ?_
    rintro e w1 ⟨rfl, hb⟩
    have HB := Lib.hid (below_trans (below_alloc w _) hb); clear hb
    go_wp2_with (refine wpList_putT rfl _ _ rfl w1.heap.size rfl zeros9 zeros9 rfl ⟨heap_alloc_new _ _, rfl⟩ rfl ?_; intro w2 hB2 _ hbb _; have HB2 := Lib.hid ((below_alloc w1 _).trans (hbb _ (Nat.le_refl _))); clear hbb)
    go_ret3
    exact ⟨rfl, below_trans HB.out HB2.out⟩
  | true =>
    obtain ⟨ns, rfl, h1, h9, hle⟩ := tolL_nat ht
    rw [loopTO_ti ht]
    rw [ht, padO_ti ht] at hL
    have hp9 := pad_len ns h9
    obtain ⟨a, cap, hv, _, _⟩ := intsA_slice ha
    rw [ti_len] at hv
    obtain ⟨L, hLL⟩ : ∃ L, L = ns.length := ⟨_, rfl⟩
    have hlp := fun W (hc : W.cell? ⟨w.heap.size, 0, none⟩ = some (.slice a L cap)) => loopTell_any W w.heap.size L a cap ns K hK hc (by omega) ⟨hLL.symm, by rw [hLL]; exact hle⟩
    rw [← hLL] at hv ⊢
    subst hv
    obtain ⟨R, hR⟩ : ∃ R, R = loopF (fT L) K [] ns := ⟨_, rfl⟩
    rw [← hR] at hlp ⊢
    obtain ⟨ts, hts⟩ : ∃ ts, ts = pad ns := ⟨_, rfl⟩
    rw [← hts] at hL hlp hp9
    have HL := Lib.hid hL; have HLP := Lib.hid hlp
    clear hL ha ht hlp hR hts hle hLL h1 h9
    go_enter Try.func26, Try.ntmps26
    go_wp2_with fail
    refine (HL.out _ (below_alloc _ _)).mono ?_
    rintro e w1 ⟨rfl, hb⟩
    have hc1 : w1.cell? ⟨w.heap.size, 0, none⟩ = some (.slice a L cap) := by
      rw [hb.cell (p := ⟨w.heap.size, 0, none⟩) (by simp), cell_of_row _ _ _ _ _ _ (heap_alloc_new _ _)]; rfl
    have hlt1 := World.block_lt_of_cell? w1 _ hc1
    have HB := Lib.hid (below_trans (below_alloc w _) hb); clear hb
    go_wp2_with (first
      | (refine wpList_putT rfl _ _ rfl w1.heap.size rfl zeros9 ts rfl ⟨heap_alloc_new _ _, rfl⟩ hp9 ?_; intro w2 hB2 _ hbb _; have HB2 := Lib.hid ((below_alloc w1 _).trans (hbb _ (Nat.le_refl _))); clear hbb)
      | (refine wpList_getT rfl _ rfl w1.heap.size rfl ts hB2 ?_; unfold aggT tvA))
    have hc2 : w2.cell? ⟨w.heap.size, 0, none⟩ = some (.slice a L cap) := (HB2.out.cell (p := ⟨w.heap.size, 0, none⟩) hlt1).trans hc1
    refine (HLP.out w2 hc2).mono ?_
    rintro e w3 ⟨g, n, c, i, rfl, hsome, hi, hcy, hin, hn, hb⟩
    have HB3 := Lib.hid hb; have HI := Lib.hid hi; have HC := Lib.hid hcy; have HS := Lib.hid hsome
    clear hb hi hcy hsome hc1 hc2 hB2
    go_wp2_with fail
    go_ret3
    refine ⟨?_, below_trans HB.out (below_trans HB2.out HB3.out)⟩
    unfold loopV
    rw [← HI.out, ← HC.out, HS.out]
    rfl

set_option maxRecDepth 100000 in
set_option maxHeartbeats 1000000 in
theorem law_LoopOfTelling (v : Value) (xs : List Int) (w : World) (h : ArgL w v xs) :
    Calls Try.prog 6 #[v] w fun e w' => e = .returned (.bool true) ∧ Below w.heap.size w w' := by
  obtain ⟨A, C, hv, hC1, hC2, hce⟩ := h
  by_cases hb : 1048576 < xs.length
  · obtain ⟨N, hN⟩ : ∃ N, N = xs.length := ⟨_, rfl⟩
    rw [← hN] at hv hb hC1
    subst hv
    clear hce hN
    go_enter Try.func6, Try.ntmps6
    go_wp2_with fail
    go_ret
    exact ⟨rfl, Below.refl _ _⟩
  · have hn : xs.length ≤ 1048576 := by omega
    have h : ArgL w v xs := ⟨A, C, hv, hC1, hC2, hce⟩
    have hto := fun (W : World) (hbW : Below w.heap.size w W) => toIntL_any W v xs (argL_below h hbW) hn
    obtain ⟨K, hK⟩ : ∃ K : Nat, 1000000010 ≤ K := ⟨1000000010, Nat.le_refl _⟩
    have hspec := fun (W : World) (B : Nat) (u : Value) (ha : IntsA W B u xs) => specLoopOfTelling_any W B u xs K hK ha
    have himpl := fun (W : World) (B : Nat) (u : Value) (ha : IntsA W B u xs) => implLoopOfTelling_any W B u xs K hK ha
    obtain ⟨o, ho⟩ : ∃ o, o = loopTO K xs := ⟨_, rfl⟩
    rw [← ho] at hspec himpl
    unfold loopV at hspec himpl
    obtain ⟨x, hx⟩ : ∃ x, x = tailN o := ⟨_, rfl⟩
    obtain ⟨y, hy⟩ : ∃ y, y = cycN o := ⟨_, rfl⟩
    obtain ⟨z, hz⟩ : ∃ z, z = o.isSome := ⟨_, rfl⟩
    rw [← hx, ← hy, ← hz] at hspec himpl
    obtain ⟨N, hN⟩ : ∃ N, N = xs.length := ⟨_, rfl⟩
    rw [← hN] at hv hto hC1
    have hNle : N ≤ 1048576 := by omega
    have e1 : (x != x) = false := by simp
    have e2 : (y != y) = false := by simp
    have e3 : (z != z) = false := by simp
    subst hv
    have HS := Lib.hid hspec; have HI := Lib.hid himpl; have HT := Lib.hid hto
    clear hspec himpl hto hx hy hz hN h hce hC1 hC2 hb hn ho hK
    go_enter Try.func6, Try.ntmps6
    go_wp2_with fail
    refine (HT.out w (Below.refl _ _)).mono ?_
    rintro e w1 ⟨rfl, a1, b1, _⟩
    have A1 := Lib.hid a1; have B1 := Lib.hid b1; clear a1 b1
    go_wp2_with fail
    refine (HS.out w1 _ _ A1.out).mono ?_
    rintro e w2 ⟨rfl, b2⟩
    have B2 := Lib.hid (below_trans B1.out b2); clear b2
    go_wp2_with fail
    refine (HT.out w2 B2.out).mono ?_
    rintro e w3 ⟨rfl, a3, b3, _⟩
    have A3 := Lib.hid a3; have C3 := Lib.hid (below_trans B2.out b3); clear a3 b3
    go_wp2_with fail
    refine (HI.out w3 _ _ A3.out).mono ?_
    rintro e w4 ⟨rfl, b4⟩
    have A4 := Lib.hid (intsA_below A3.out b4); have C4 := Lib.hid (below_trans C3.out b4); clear b4
    go_wp2_with fail
    refine (HT.out w4 C4.out).mono ?_
    rintro e w5 ⟨rfl, a5, b5, _⟩
    have T5 := Lib.hid a5; have A5 := Lib.hid (intsA_below A4.out b5); have C5 := Lib.hid (below_trans C4.out b5); clear a5 b5
    go_wp2_with fail
    refine (eqIntA_same w5 _ _ _ _ xs A5.out T5.out).mono ?_
    rintro e w6 ⟨rfl, b6⟩
    have C6 := Lib.hid (below_trans C5.out b6); clear b6
    go_wp2_with fail
    go_ret
    exact ⟨rfl, C6.out⟩
end Go.Proofs.Ytfkaghiopnaghab
