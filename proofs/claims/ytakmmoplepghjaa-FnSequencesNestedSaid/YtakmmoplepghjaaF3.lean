/- climbBy: so many steps; the program's FigureOf, StepOf, IsFigure. -/
import Derived.Test.YtakmmoplepghjaaF2
namespace Go.Proofs.Ytakmmoplepghjaa
open Go.RowKit Go.BigFrame Go.Maps
set_option linter.unusedSimpArgs false
set_option linter.unusedVariables false
set_option maxRecDepth 4000

theorem cAt_new (w : World) (B mb n : Nat) (D : DataW Unit) (fg st : Nat) (ho : OwnB w mb n D) (hB : B ≤ mb) (hBw : B ≤ w.heap.size) (hm : mb < w.heap.size) :
    CAt (w.alloc (.cells #[.int .i64 (fg : Nat), .int .i64 (st : Nat), .map (some mb)] 59)) B w.heap.size mb n D fg st := by
  have hb := heap_alloc_new w (.cells #[.int .i64 (fg : Nat), .int .i64 (st : Nat), .map (some mb)] 59)
  exact ⟨ho.alloc _, ⟨hBw, hB, by omega, by simp⟩, by simp only [World.cell?, hb]; rfl, by simp only [World.cell?, hb]; rfl, by simp only [World.cell?, hb]; rfl, fun i => by simp only [World.frozen?, hb]; simp⟩

set_option maxHeartbeats 1000000 in
theorem climbBy_any (w : World) (K : Nat) (hK : K ≤ 1000) :
    Calls Try.prog 75 #[.int .i64 K] w fun e w' => ∃ mb, e = .returned (.agg #[.int .i64 (fig K : Nat), .int .i64 (stp K : Nat), .map (some mb)]) ∧ (∃ n D, OwnB w' mb n D ∧ n ≤ K + 1 ∧ AhD D (ahd K)) ∧ w.heap.size ≤ mb ∧ Below w.heap.size w w' := by
  have hmm := @run_makeMap Try.prog
  obtain ⟨w2, hupd, hown2, hgr2⟩ := (World.ownsMap_made (w.alloc (.cells #[.int .i64 0, .int .i64 0, .map none] 59)) Try.prog 3 (plainElem (H := Unit) Try.prog 4)).update lawF Try.underlying57 (by unfold maxLen; omega) (keyOf_int_mk Try.underlying3 (wfF (i := 1) (by omega) (by omega))) (plainElem_bool Try.underlying4 true)
  have hb2 : w2.heap[w.heap.size]? = some (.cells #[.int .i64 0, .int .i64 0, .map none] 59 (0, 0)) := by
    rw [hgr2.block w.heap.size (by simp; omega) (by simp), heap_alloc_old _ _ (by simp)]
    exact heap_alloc_new w _
  have hsz2 : w.heap.size + 2 ≤ w2.heap.size := by have := hgr2.size; simpa using this
  simp only [World.size_alloc] at hupd hown2 hgr2
  have hA0 : AhD ((DataW.map []).put (kF 1) (bL true)) (ahd 0) := by
    have h0 : AhD (DataW.map []) (fun _ => False) := ⟨tidy_empty, fun i => by rw [has_eq]; simp, fun i h => by rw [has_eq] at h; simp at h⟩
    exact (h0.put 1).same (fun x => by rw [ahd_zero]; simp)
  have HO2 := Lib.hid hown2; have HA0 := Lib.hid hA0
  have HBW := Lib.hid ((((Below.refl w.heap.size w).alloc (Nat.le_refl _) (.cells #[.int .i64 0, .int .i64 0, .map none] 59)).alloc (by simp) (.map #[] 0)).grown hgr2 (by simp; omega) (fun j hj => by cases hj; omega))
  have HX2 := Lib.hid hb2
  clear hown2 hgr2 hA0 hb2
  go_enter Try.func75, Try.ntmps75
  go_wp2_with fail
  go_loopw [8] (fun i wr => ∃ k : Nat, k ≤ K ∧ i = .int .i64 k ∧ Hid (ClimbAt wr (w.heap.size + 1) w2.heap.size (w.heap.size + 1) k ∧ Below w.heap.size w wr ∧ w.heap.size + 1 ≤ wr.heap.size ∧ wr.heap[w.heap.size]? = some (.cells #[.int .i64 0, .int .i64 0, .map none] 59 (0, 0)))) (fun i _ => K - (intOf i).toNat)
  case atStart => exact ⟨0, Nat.zero_le _, rfl, ⟨1, _, by omega, HA0.out, cAt_new w2 (w.heap.size + 1) (w.heap.size + 1) 1 _ 1 0 HO2.out (by omega) (by omega) (by omega)⟩, HBW.out.alloc (by omega) _, by simp; omega, by rw [heap_alloc_old _ _ (by omega)]; exact HX2.out⟩
  case round =>
    obtain ⟨k, hk, rfl, HH⟩ := hrel
    by_cases hlt : k < K
    · go_wp2_with fail
      refine (next_any wr (w.heap.size + 1) w2.heap.size (w.heap.size + 1) k HH.out.1 (by omega) HH.out.2.2.1).mono ?_
      rintro e w3 ⟨rfl, h1, h2⟩
      have H1 := Lib.hid h1; have H2 := Lib.hid h2; clear h1 h2
      go_wp2_with fail
      go_roundw
      case rel => exact ⟨k + 1, by omega, by go_num, H1.out, HH.out.2.1.trans (H2.out.mono (by omega)), Nat.le_trans HH.out.2.2.1 H2.out.size, by rw [H2.out.block w.heap.size (by omega)]; exact HH.out.2.2.2⟩
      case measure => simp [intOf] <;> omega
    · obtain rfl : k = K := by omega
      obtain ⟨n, D, hn, hA, hC⟩ := HH.out.1
      obtain ⟨hO, ⟨_, _, _, d4⟩, d0, d1, d2, df⟩ := hC
      have HA := Lib.hid hA; have HO := Lib.hid hO
      have hbx := HH.out.2.2.2
      have c0 : wr.cell? ⟨w.heap.size, 0, none⟩ = some (.int .i64 0) := by simp only [World.cell?, hbx]; rfl
      have c1 : wr.cell? ⟨w.heap.size, 1, none⟩ = some (.int .i64 0) := by simp only [World.cell?, hbx]; rfl
      have c2 : wr.cell? ⟨w.heap.size, 2, none⟩ = some (.map none) := by simp only [World.cell?, hbx]; rfl
      have f0 : wr.frozen? ⟨w.heap.size, 0, none⟩ = false := by simp only [World.frozen?, hbx]; simp
      have f1 : wr.frozen? ⟨w.heap.size, 1, none⟩ = false := by simp only [World.frozen?, hbx]; simp
      have f2 : wr.frozen? ⟨w.heap.size, 2, none⟩ = false := by simp only [World.frozen?, hbx]; simp
      clear hA hO df hbx
      go_wp2_with fail
      refine bodyPost_ret (v := .agg #[.int .i64 (fig k : Nat), .int .i64 (stp k : Nat), .map (some (w.heap.size + 1))]) ?_ rfl ?_
      · simp [results, Try.results75, go_sem, c0, c1, c2]
      · exact ⟨w.heap.size + 1, rfl, ⟨n, D, ((HO.out.setCell (by simp) _).setCell (by simp) _).setCell (by simp) _, hn, HA.out⟩, by omega, ((HH.out.2.1.setCell (by simp) _).setCell (by simp) _).setCell (by simp) _⟩
end Go.Proofs.Ytakmmoplepghjaa
