/- Chapter 8: numbers that are drawn. -/
import Derived.Test.YtlcbdmmmafpchaaDooru2
namespace Go.Proofs.YtlcbdmmmafpchaaDoor
open Go.RowKit Go.BigFrame Go.Deep
set_option linter.unusedSimpArgs false
set_option linter.unusedVariables false
set_option maxRecDepth 4000

/-- Cells of a row that has just been laid. -/
theorem lit_cellsV (w : World) (xs : List Int) (T : TypeId) : ∀ i (h : i < xs.length), (w.alloc (.cells (xs.map (Value.int .i64)).toArray T)).cell? ⟨w.heap.size, i, none⟩ = some (.int .i64 xs[i]) := by
  intro i h
  have hcl := heap_alloc_new w (.cells (xs.map (Value.int .i64)).toArray T)
  simp only [World.cell?, hcl]
  simp [h]

set_option maxHeartbeats 4000000 in
theorem named_c (w0 w : World) (g K : Nat) (cv : Value) (ns : List Int) (ha : ArgY w0 cv ns) (hc : Cur w0 w g cv K) (hK : K ≤ 1000000) :
    Calls Tryd.prog 50 #[.pointer (some ⟨g, 0, none⟩)] w fun e w' => ∃ x : Int, e = .returned (.int .i64 x) ∧ (Lit.int .i64 x).wf = true ∧ Cur w0 w' g cv (K + 8) ∧ w.grownBy w' (some g) := by
  have HO := Lib.hid (pick_c w0 w g K 8 cv ns ha hc (by omega) (by omega) (by omega))
  have HA := Lib.hid ha
  clear hc ha
  go_enter Tryd.func50, Tryd.ntmps50
  go_wp2_with fail
  refine HO.out.mono ?_
  rintro e w1 ⟨x, rfl, hx, hcu, hg⟩
  have HG := Lib.hid hg; have HC := Lib.hid hcu
  clear hcu hg HO
  have HP130 := Lib.hid (pick_c w0 w1 g (K + 2) 130 cv ns HA.out HC.out (by omega) (by omega) (by omega))
  have HP1000 := Lib.hid (pick_c w0 w1 g (K + 2) 1000 cv ns HA.out HC.out (by omega) (by omega) (by omega))
  match x, hx with
  | 0, _ =>
    clear HP130 HP1000
    go_wp2_with fail
    have hlt := HC.out.lt
    refine (among_c w0 _ g (K + 2) w1.heap.size 8 8 cv ns [-1, 0, 4, 999999, 1000000, 100, 1000, 4611686018427387904] HA.out (HC.out.later (below_alloc _ _)) (by omega) rfl (by omega) (by omega) (by omega) (by omega) (by omega) (by simp) (lit_cellsV w1 _ _)).mono ?_
    rintro e w2 ⟨x, hx, rfl, hcu, hg⟩
    have HG2 := Lib.hid (HG.out.trans ((World.grownBy_alloc w1 _ (some g)).trans hg)); have HC2 := Lib.hid (hcu.mono (show K + 2 + 2 ≤ K + 8 by omega))
    have HW : Hid ((Lit.int .i64 x).wf = true) := by
      simp only [List.mem_cons, List.not_mem_nil, or_false] at hx
      exact Lib.hid (WalkArith.wf_i64 (by omega))
    clear hcu hg hx
    go_wp2_with fail
    go_ret
    exact ⟨x, rfl, HW.out, HC2.out, HG2.out⟩
  | 1, _ =>
    clear HP130
    go_wp2_with fail
    refine HP1000.out.mono ?_
    rintro e w2 ⟨x, rfl, hx, hcu, hg⟩
    have HG2 := Lib.hid (HG.out.trans hg); have HC2 := Lib.hid (hcu.mono (show K + 2 + 2 ≤ K + 8 by omega))
    clear hcu hg
    go_wp2_with fail
    go_ret
    exact ⟨(x : Int), rfl, WalkArith.wf_i64 (by omega), HC2.out, HG2.out⟩
  | 2, _ =>
    clear HP130
    go_wp2_with fail
    refine HP1000.out.mono ?_
    rintro e w2 ⟨x, rfl, hx, hcu, hg⟩
    have HG2 := Lib.hid (HG.out.trans hg); have HC2 := Lib.hid (hcu.mono (show K + 2 + 2 ≤ K + 8 by omega))
    clear hcu hg
    go_wp2_with fail
    go_ret
    exact ⟨(x : Int), rfl, WalkArith.wf_i64 (by omega), HC2.out, HG2.out⟩
  | 3, _ =>
    clear HP130
    go_wp2_with fail
    refine HP1000.out.mono ?_
    rintro e w2 ⟨x, rfl, hx, hcu, hg⟩
    have HG2 := Lib.hid (HG.out.trans hg); have HC2 := Lib.hid hcu
    clear hcu hg HP1000
    have HP := Lib.hid (pick_c w0 w2 g (K + 2 + 2) 2 cv ns HA.out HC2.out (by omega) (by omega) (by omega))
    go_wp2_with fail
    refine HP.out.mono ?_
    rintro e w3 ⟨y, rfl, hy, hcu, hg⟩
    have HG3 := Lib.hid (HG2.out.trans hg); have HC3 := Lib.hid hcu
    clear hcu hg HP
    have HP := Lib.hid (pick_c w0 w3 g (K + 2 + 2 + 2) 1000 cv ns HA.out HC3.out (by omega) (by omega) (by omega))
    go_wp2_with fail
    refine HP.out.mono ?_
    rintro e w4 ⟨z, rfl, hz, hcu, hg⟩
    have HG4 := Lib.hid (HG3.out.trans hg); have HC4 := Lib.hid hcu
    clear hcu hg HP
    match y, hy with
    | 0, _ =>
      go_wp2_with fail
      go_ret
      refine ⟨_, rfl, WalkArith.wf_i64 (by omega), HC4.out, HG4.out⟩
    | 1, _ =>
      go_wp2_with fail
      go_ret
      refine ⟨_, rfl, WalkArith.wf_i64 (by omega), HC4.out, HG4.out⟩
  | 4, _ | 5, _ | 6, _ | 7, _ =>
    clear HP1000
    go_wp2_with fail
    refine HP130.out.mono ?_
    rintro e w2 ⟨x, rfl, hx, hcu, hg⟩
    have HG2 := Lib.hid (HG.out.trans hg); have HC2 := Lib.hid (hcu.mono (show K + 2 + 2 ≤ K + 8 by omega))
    clear hcu hg
    go_wp2_with fail
    go_ret
    exact ⟨(x : Int), rfl, WalkArith.wf_i64 (by omega), HC2.out, HG2.out⟩

set_option maxHeartbeats 4000000 in
theorem upToName_c (w0 w : World) (g K : Nat) (cv : Value) (ns : List Int) (ha : ArgY w0 cv ns) (hc : Cur w0 w g cv K) (hK : K ≤ 1000000) :
    Calls Tryd.prog 73 #[.pointer (some ⟨g, 0, none⟩)] w fun e w' => ∃ x : Int, e = .returned (.int .i64 x) ∧ (-1 ≤ x ∧ x ≤ 2001) ∧ Cur w0 w' g cv (K + 4) ∧ w.grownBy w' (some g) := by
  have HO := Lib.hid (one_c w0 w g K 10 cv ns ha hc (by omega) (by omega) (by omega))
  have HA := Lib.hid ha
  clear hc ha
  go_enter Tryd.func73, Tryd.ntmps73
  go_wp2_with fail
  refine HO.out.mono ?_
  rintro e w1 ⟨b, rfl, hcu, hg⟩
  have HG := Lib.hid hg; have HC := Lib.hid hcu
  clear hcu hg HO
  cases b with
  | true =>
    go_wp2_with fail
    have hlt := HC.out.lt
    refine (among_c w0 _ g (K + 2) w1.heap.size 5 5 cv ns [-1, 0, 2000, 2001, 1000] HA.out (HC.out.later (below_alloc _ _)) (by omega) rfl (by omega) (by omega) (by omega) (by omega) (by omega) (by simp) (lit_cellsV w1 _ _)).mono ?_
    rintro e w2 ⟨x, hx, rfl, hcu, hg⟩
    have HG2 := Lib.hid (HG.out.trans ((World.grownBy_alloc w1 _ (some g)).trans hg)); have HC2 := Lib.hid hcu
    have HW : Hid (-1 ≤ x ∧ x ≤ 2001) := by
      simp only [List.mem_cons, List.not_mem_nil, or_false] at hx
      exact Lib.hid (by omega)
    clear hcu hg hx
    go_wp2_with fail
    go_ret
    exact ⟨x, rfl, HW.out, HC2.out, HG2.out⟩
  | false =>
    have HP := Lib.hid (pick_c w0 w1 g (K + 2) 130 cv ns HA.out HC.out (by omega) (by omega) (by omega))
    go_wp2_with fail
    refine HP.out.mono ?_
    rintro e w2 ⟨x, rfl, hx, hcu, hg⟩
    have HG2 := Lib.hid (HG.out.trans hg); have HC2 := Lib.hid hcu
    clear hcu hg
    go_wp2_with fail
    go_ret
    exact ⟨(x : Int), rfl, by omega, HC2.out, HG2.out⟩

set_option maxHeartbeats 1000000 in
theorem drawMostLetters_c (w : World) (cv : Value) (ns : List Int) (ha : ArgY w cv ns) :
    Calls Tryd.prog 44 #[cv] w fun e w' => Drawn w e w' := by
  have HP := Lib.hid (upToName_c w _ w.heap.size 0 cv ns ha (cur_new w cv) (by omega))
  obtain ⟨A, C, rfl, _⟩ := ha
  go_enter Tryd.func44, Tryd.ntmps44
  go_wp2_with fail
  refine HP.out.mono ?_
  rintro e w1 ⟨x, rfl, hw, hcu, hg⟩
  have HW := Lib.hid hw; have HC := Lib.hid hcu.below
  clear hw hcu hg
  go_wp2_with fail
  go_ret
  exact ⟨x, rfl, WalkArith.wf_i64 (by have := HW.out; omega), HC.out⟩

/-- Two numbers are drawn. -/
def Drawn2 (w : World) (e : Ending) (w' : World) : Prop := ∃ x y : Int, e = .returned (.tuple #[.int .i64 x, .int .i64 y]) ∧ (Lit.int .i64 x).wf = true ∧ (Lit.int .i64 y).wf = true ∧ Below w.heap.size w w'

set_option maxHeartbeats 1000000 in
theorem drawCompareNames_c (w : World) (cv : Value) (ns : List Int) (ha : ArgY w cv ns) :
    Calls Tryd.prog 39 #[cv] w fun e w' => Drawn2 w e w' := by
  have HP := Lib.hid (named_c w _ w.heap.size 0 cv ns ha (cur_new w cv) (by omega))
  have HA := Lib.hid ha
  obtain ⟨A, C, rfl, _⟩ := ha
  go_enter Tryd.func39, Tryd.ntmps39
  go_wp2_with fail
  refine HP.out.mono ?_
  rintro e w1 ⟨x, rfl, hw, hcu, hg⟩
  have HW := Lib.hid hw; have HC := Lib.hid hcu
  clear hw hcu hg HP
  have HP := Lib.hid (named_c w w1 w.heap.size 8 _ ns HA.out HC.out (by omega))
  go_wp2_with fail
  refine HP.out.mono ?_
  rintro e w2 ⟨y, rfl, hw, hcu, hg⟩
  have HW2 := Lib.hid hw; have HC2 := Lib.hid hcu.below
  clear hw hcu hg HP
  go_wp2_with fail
  go_ret2
  exact ⟨x, y, rfl, HW.out, HW2.out, HC2.out⟩

set_option maxHeartbeats 1000000 in
theorem drawNameOf_c (w : World) (cv : Value) (ns : List Int) (ha : ArgY w cv ns) :
    Calls Tryd.prog 8 #[cv] w fun e w' => Drawn w e w' := by
  have HP := Lib.hid (named_c w _ w.heap.size 0 cv ns ha (cur_new w cv) (by omega))
  obtain ⟨A, C, rfl, _⟩ := ha
  go_enter Tryd.func8, Tryd.ntmps8
  go_wp2_with fail
  refine HP.out.mono ?_
  rintro e w1 ⟨x, rfl, hw, hcu, hg⟩
  have HW := Lib.hid hw; have HC := Lib.hid hcu.below
  clear hw hcu hg
  go_wp2_with fail
  go_ret
  exact ⟨x, rfl, HW.out, HC.out⟩

set_option maxHeartbeats 1000000 in
theorem drawWithLetters_c (w : World) (cv : Value) (ns : List Int) (ha : ArgY w cv ns) :
    Calls Tryd.prog 41 #[cv] w fun e w' => Drawn2 w e w' := by
  have HP := Lib.hid (pick_c w _ w.heap.size 0 24 cv ns ha (cur_new w cv) (by omega) (by omega) (by omega))
  have HA := Lib.hid ha
  obtain ⟨A, C, rfl, _⟩ := ha
  go_enter Tryd.func41, Tryd.ntmps41
  go_wp2_with fail
  refine HP.out.mono ?_
  rintro e w1 ⟨x, rfl, hx, hcu, hg⟩
  have HC := Lib.hid hcu
  clear hcu hg HP
  have HP := Lib.hid (pick_c w w1 w.heap.size 2 9 _ ns HA.out HC.out (by omega) (by omega) (by omega))
  go_wp2_with fail
  refine HP.out.mono ?_
  rintro e w2 ⟨y, rfl, hy, hcu, hg⟩
  have HC2 := Lib.hid hcu
  clear hcu hg HP
  have HP := Lib.hid (upToName_c w w2 w.heap.size 4 _ ns HA.out HC2.out (by omega))
  go_wp2_with fail
  refine HP.out.mono ?_
  rintro e w3 ⟨z, rfl, hz, hcu, hg⟩
  have HC3 := Lib.hid hcu.below; have HZ := Lib.hid hz
  clear hcu hg HP hz
  go_wp2_with fail
  go_ret2
  exact ⟨_, _, rfl, WalkArith.wf_i64 (by omega), WalkArith.wf_i64 (by have := HZ.out; omega), HC3.out⟩

set_option maxHeartbeats 1000000 in
theorem l1Least_v (a b : Int) (w : World) : Calls Tryd.prog 74 #[.int .i64 a, .int .i64 b] w fun e w' => e = .returned (.int .i64 (if a < b then a else b)) ∧ w = w' := by
  by_cases h : a < b
  · rw [if_pos h]
    go_enter Tryd.func74, Tryd.ntmps74
    go_wp2_with fail
    go_ret
    exact ⟨rfl, rfl⟩
  · rw [if_neg h]
    go_enter Tryd.func74, Tryd.ntmps74
    go_wp2_with fail
    go_ret
    exact ⟨rfl, rfl⟩
set_option maxHeartbeats 1000000 in
theorem l1Most_v (a b : Int) (w : World) : Calls Tryd.prog 75 #[.int .i64 a, .int .i64 b] w fun e w' => e = .returned (.int .i64 (if a > b then a else b)) ∧ w = w' := by
  by_cases h : a > b
  · rw [if_pos h]
    go_enter Tryd.func75, Tryd.ntmps75
    go_wp2_with fail
    go_ret
    exact ⟨rfl, rfl⟩
  · rw [if_neg h]
    go_enter Tryd.func75, Tryd.ntmps75
    go_wp2_with fail
    go_ret
    exact ⟨rfl, rfl⟩

set_option maxHeartbeats 2000000 in
theorem drawRankInAlphabet_c (w : World) (cv : Value) (ns : List Int) (ha : ArgY w cv ns) :
    Calls Tryd.prog 34 #[cv] w fun e w' => Drawn2 w e w' := by
  have HP := Lib.hid (upToName_c w _ w.heap.size 0 cv ns ha (cur_new w cv) (by omega))
  have HA := Lib.hid ha
  obtain ⟨A, C, rfl, _⟩ := ha
  go_enter Tryd.func34, Tryd.ntmps34
  go_wp2_with fail
  refine HP.out.mono ?_
  rintro e w1 ⟨z, rfl, hz, hcu, hg⟩
  have HC := Lib.hid hcu
  clear hcu hg HP
  obtain ⟨z2, hz2⟩ : ∃ z2 : Int, z2 = z + 2 := ⟨_, rfl⟩
  have HM := Lib.hid (fun W => l1Most_v 1 z2 W)
  obtain ⟨u, hu⟩ : ∃ u : Int, u = if (1 : Int) > z2 then 1 else z2 := ⟨_, rfl⟩
  have HL := Lib.hid (fun W => l1Least_v 200 u W)
  obtain ⟨v, hv⟩ : ∃ v : Nat, (v : Int) = if (200 : Int) < u then 200 else u := ⟨(if (200 : Int) < u then 200 else u).toNat, by split at hu <;> split <;> omega⟩
  have hv1 : 1 ≤ v ∧ v ≤ 200 := by split at hu <;> split at hv <;> omega
  rw [← hu] at HM; rw [← hv] at HL
  have HZ := Lib.hid hz; have HZ2 := Lib.hid hz2
  rw [hz2] at HM
  clear hu hv hz2
  go_wp2_with fail
  refine (HM.out _).mono ?_
  rintro e w2 ⟨rfl, rfl⟩
  go_wp2_with fail
  refine (HL.out _).mono ?_
  rintro e w2 ⟨rfl, rfl⟩
  clear HM HL
  have HP := Lib.hid (pick_c w w1 w.heap.size 4 v _ ns HA.out HC.out (by omega) (by omega) (by omega))
  go_wp2_with fail
  refine HP.out.mono ?_
  rintro e w2 ⟨x, rfl, hx, hcu, hg⟩
  have HC2 := Lib.hid hcu
  clear hcu hg HP
  have HP := Lib.hid (pick_c w w2 w.heap.size 6 9 _ ns HA.out HC2.out (by omega) (by omega) (by omega))
  go_wp2_with fail
  refine HP.out.mono ?_
  rintro e w3 ⟨y, rfl, hy, hcu, hg⟩
  have HC3 := Lib.hid hcu.below
  clear hcu hg HP
  go_wp2_with fail
  go_ret2
  exact ⟨_, _, rfl, WalkArith.wf_i64 (by omega), WalkArith.wf_i64 (by have := HZ.out; omega), HC3.out⟩
end Go.Proofs.YtlcbdmmmafpchaaDoor
