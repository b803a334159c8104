/- Lists and numbers that are drawn for the law FnFormsCounted. -/
import Derived.Test.YtpglkgpaaflikaaYH
import Derived.Test.YtpglkgpaaflikaaYK
import Derived.Deep.DeepMust
namespace Go.Proofs.Ytpglkgpaaflikaa
open Go.RowKit Go.BigFrame Go.Maps
set_option linter.unusedSimpArgs false
set_option linter.unusedVariables false
set_option maxRecDepth 4000

def ListA (w : World) (e : Ending) (w' : World) : Prop := ∃ v xs, e = .returned v ∧ ArgL w' v xs ∧ Below w.heap.size w w'
def ListNumA (w : World) (e : Ending) (w' : World) : Prop := ∃ v xs, ∃ n : Int, e = .returned (.tuple #[v, .int .i64 n]) ∧ ArgL w' v xs ∧ Below w.heap.size w w'
def NumA (w : World) (e : Ending) (w' : World) : Prop := ∃ n : Int, e = .returned (.int .i64 n) ∧ Below w.heap.size w w'

set_option maxHeartbeats 1000000 in
theorem drawAllForms_c (w : World) (cv : Value) (ns : List Int) (ha : ArgY w cv ns) :
    Calls Try.prog 28 #[cv] w fun e w' => NumA w e w' := by
  have HA := Lib.hid ha
  obtain ⟨A, C, rfl, _⟩ := ha
  go_enter Try.func28, Try.ntmps28
  go_wp2_with fail
  refine (pick_c w _ w.heap.size 0 9 _ ns HA.out (cur_new w _) (by omega) (by omega) (by omega)).mono ?_
  rintro e w2 ⟨a, rfl, ha9, hcu, hg⟩
  have HC2 := Lib.hid hcu.below
  clear hcu hg
  go_wp2_with fail
  go_ret
  exact ⟨_, rfl, HC2.out⟩

set_option maxHeartbeats 1000000 in
theorem drawCountForms_c (w : World) (cv : Value) (ns : List Int) (ha : ArgY w cv ns) :
    Calls Try.prog 31 #[cv] w fun e w' => NumA w e w' := by
  have HA := Lib.hid ha
  obtain ⟨A, C, rfl, _⟩ := ha
  go_enter Try.func31, Try.ntmps31
  go_wp2_with fail
  refine (pick_c w _ w.heap.size 0 23 _ ns HA.out (cur_new w _) (by omega) (by omega) (by omega)).mono ?_
  rintro e w2 ⟨a, rfl, ha9, hcu, hg⟩
  have HC2 := Lib.hid hcu.below
  clear hcu hg
  go_wp2_with fail
  go_ret
  exact ⟨_, rfl, HC2.out⟩

set_option maxHeartbeats 1000000 in
theorem drawRankOfForm_c (w : World) (cv : Value) (ns : List Int) (ha : ArgY w cv ns) :
    Calls Try.prog 34 #[cv] w fun e w' => ListA w e w' := by
  have HP := Lib.hid (drawIsForm_c w cv ns ha)
  obtain ⟨A, C, rfl, _⟩ := ha
  go_enter Try.func34, Try.ntmps34
  go_wp2_with fail
  refine HP.out.mono ?_
  rintro e w1 ⟨v, xs, rfl, hi, _, hb⟩
  have HI := Lib.hid (argL_of_ints hi); have HB := Lib.hid hb
  clear hi hb HP
  go_wp2_with fail
  go_ret
  exact ⟨v, xs, rfl, HI.out, HB.out⟩

set_option maxHeartbeats 1000000 in
theorem drawEckFirst_c (w : World) (cv : Value) (ns : List Int) (ha : ArgY w cv ns) :
    Calls Try.prog 47 #[cv] w fun e w' => ListNumA w e w' := by
  have HA := Lib.hid ha
  obtain ⟨A, C, rfl, _⟩ := ha
  go_enter Try.func47, Try.ntmps47
  go_wp2_with fail
  refine (one_c w _ w.heap.size 0 10 _ ns HA.out (cur_new w _) (by omega) (by omega) (by omega)).mono ?_
  rintro e w3 ⟨b, rfl, hcu, hg⟩
  have HC3 := Lib.hid hcu
  clear hcu hg
  cases b with
  | true =>
    go_wp2_with fail
    refine (placed_c w w3 w.heap.size 2 _ ns HA.out HC3.out (by omega)).mono ?_
    rintro e w4 ⟨v, xs, rfl, hi, hl, hcu⟩
    have HC4 := Lib.hid hcu; have HI4 := Lib.hid hi
    clear hcu hi HC3
    have hlt := HC4.out.lt
    go_wp2_with fail
    refine (among_c w _ w.heap.size _ w4.heap.size 4 4 _ ns [-1, 0, 4999, 4611686018427387904] HA.out (HC4.out.later (below_alloc _ _)) (by omega) rfl (by omega) (by omega) (by omega) (by omega) (by omega) (by simp) (lit_cellsH w4 _ _)).mono ?_
    rintro e w5 ⟨z, hz, rfl, hcu, hg⟩
    have HC5 := Lib.hid hcu.below; have HI5 := Lib.hid (argL_of_ints (ints_cur (ints_below HI4.out (below_alloc _ _)) hg (by omega)))
    clear hcu hg hz HC4 HI4
    go_wp2_with fail
    go_ret2
    exact ⟨v, xs, _, rfl, HI5.out, HC5.out⟩
  | false =>
    go_wp2_with fail
    refine (placed_c w w3 w.heap.size 2 _ ns HA.out HC3.out (by omega)).mono ?_
    rintro e w4 ⟨v, xs, rfl, hi, hl, hcu⟩
    have HC4 := Lib.hid hcu; have HI4 := Lib.hid hi
    clear hcu hi HC3
    go_wp2_with fail
    refine (pick_c w w4 w.heap.size _ 40 _ ns HA.out HC4.out (by omega) (by omega) (by omega)).mono ?_
    rintro e w5 ⟨a, rfl, ha9, hcu, hg⟩
    have HC5 := Lib.hid hcu.below; have HI5 := Lib.hid (argL_of_ints (ints_cur HI4.out hg (by omega)))
    clear hcu hg HC4 HI4
    go_wp2_with fail
    go_ret2
    exact ⟨v, xs, _, rfl, HI5.out, HC5.out⟩

set_option maxHeartbeats 1000000 in
theorem drawEckNumber_c (w : World) (cv : Value) (ns : List Int) (ha : ArgY w cv ns) :
    Calls Try.prog 42 #[cv] w fun e w' => ListNumA w e w' := by
  have HA := Lib.hid ha
  obtain ⟨A, C, rfl, _⟩ := ha
  go_enter Try.func42, Try.ntmps42
  go_wp2_with fail
  refine (one_c w _ w.heap.size 0 10 _ ns HA.out (cur_new w _) (by omega) (by omega) (by omega)).mono ?_
  rintro e w3 ⟨b, rfl, hcu, hg⟩
  have HC3 := Lib.hid hcu
  clear hcu hg
  cases b with
  | true =>
    go_wp2_with fail
    refine (placed_c w w3 w.heap.size 2 _ ns HA.out HC3.out (by omega)).mono ?_
    rintro e w4 ⟨v, xs, rfl, hi, hl, hcu⟩
    have HC4 := Lib.hid hcu; have HI4 := Lib.hid hi
    clear hcu hi HC3
    have hlt := HC4.out.lt
    go_wp2_with fail
    refine (among_c w _ w.heap.size _ w4.heap.size 5 5 _ ns [0, 1, 5000, 5001, -1] HA.out (HC4.out.later (below_alloc _ _)) (by omega) rfl (by omega) (by omega) (by omega) (by omega) (by omega) (by simp) (lit_cellsH w4 _ _)).mono ?_
    rintro e w5 ⟨z, hz, rfl, hcu, hg⟩
    have HC5 := Lib.hid hcu.below; have HI5 := Lib.hid (argL_of_ints (ints_cur (ints_below HI4.out (below_alloc _ _)) hg (by omega)))
    clear hcu hg hz HC4 HI4
    go_wp2_with fail
    go_ret2
    exact ⟨v, xs, _, rfl, HI5.out, HC5.out⟩
  | false =>
    go_wp2_with fail
    refine (placed_c w w3 w.heap.size 2 _ ns HA.out HC3.out (by omega)).mono ?_
    rintro e w4 ⟨v, xs, rfl, hi, hl, hcu⟩
    have HC4 := Lib.hid hcu; have HI4 := Lib.hid hi
    clear hcu hi HC3
    go_wp2_with fail
    refine (pick_c w w4 w.heap.size _ 300 _ ns HA.out HC4.out (by omega) (by omega) (by omega)).mono ?_
    rintro e w5 ⟨a, rfl, ha9, hcu, hg⟩
    have HC5 := Lib.hid hcu.below; have HI5 := Lib.hid (argL_of_ints (ints_cur HI4.out hg (by omega)))
    clear hcu hg HC4 HI4
    go_wp2_with fail
    go_ret2
    exact ⟨v, xs, _, rfl, HI5.out, HC5.out⟩

set_option maxHeartbeats 1000000 in
theorem drawEckList_c (w : World) (cv : Value) (ns : List Int) (ha : ArgY w cv ns) :
    Calls Try.prog 39 #[cv] w fun e w' => ListNumA w e w' := by
  have HA := Lib.hid ha
  obtain ⟨A, C, rfl, _⟩ := ha
  go_enter Try.func39, Try.ntmps39
  go_wp2_with fail
  refine (one_c w _ w.heap.size 0 3 _ ns HA.out (cur_new w _) (by omega) (by omega) (by omega)).mono ?_
  rintro e w3 ⟨b, rfl, hcu, hg⟩
  have HC3 := Lib.hid hcu
  clear hcu hg
  cases b with
  | true =>
    go_wp2_with fail
    refine (pick_c w w3 w.heap.size _ 3 _ ns HA.out HC3.out (by omega) (by omega) (by omega)).mono ?_
    rintro e w4 ⟨a, rfl, ha9, hcu, hg⟩
    have HC4 := Lib.hid hcu
    clear hcu hg HC3
    have hlt := HC4.out.lt
    have hx : ∀ i (h : i < [(1 : Int), 10, 50, 1000, 1001, 0].length), ((w4.alloc (.cells #[.int .i64 (a : Int)] 3)).alloc (.cells #[.int .i64 1, .int .i64 10, .int .i64 50, .int .i64 1000, .int .i64 1001, .int .i64 0] 3)).cell? ⟨w4.heap.size + 1, i, none⟩ = some (.int .i64 [(1 : Int), 10, 50, 1000, 1001, 0][i]) := by
      have := lit_cellsH (w4.alloc (.cells #[.int .i64 (a : Int)] 3)) [1, 10, 50, 1000, 1001, 0] 3
      rw [World.size_alloc] at this
      exact this
    have hc0 : ((w4.alloc (.cells #[.int .i64 (a : Int)] 3)).alloc (.cells #[.int .i64 1, .int .i64 10, .int .i64 50, .int .i64 1000, .int .i64 1001, .int .i64 0] 3)).cell? ⟨w4.heap.size, 0, none⟩ = some (.int .i64 (a : Int)) :=
      ((below_alloc _ _).cell (p := ⟨w4.heap.size, 0, none⟩) (by rw [World.size_alloc]; exact Nat.lt_succ_self _)).trans (lit_cellsH w4 [(a : Int)] 3 0 (by simp))
    have HX := Lib.hid hx; have HC0 := Lib.hid hc0
    clear hx hc0
    go_wp2_with fail
    refine (among_c w _ w.heap.size _ (w4.heap.size + 1) 6 6 _ ns [1, 10, 50, 1000, 1001, 0] HA.out ((HC4.out.later (below_alloc _ _)).later (below_alloc _ _)) (by omega) rfl (by omega) (by omega) (by omega) (by omega) (by omega) (by simp only [World.size_alloc]; omega) HX.out).mono ?_
    rintro e w5 ⟨z, hz, rfl, hcu, hg⟩
    have hc5 : w5.cell? ⟨w4.heap.size, 0, none⟩ = some (.int .i64 (a : Int)) := hg.cell HC0.out (fun e => absurd (show w4.heap.size = w.heap.size by injection e) (by omega))
    have hs5 : w4.heap.size < w5.heap.size := by have h1 := hg.size; simp only [World.size_alloc] at h1; omega
    have HC5 := Lib.hid hcu.below
    have HI5 := Lib.hid (show ArgL w5 (.slice (some ⟨w4.heap.size, 0, none⟩) 1 1) [(a : Int)] from ⟨_, 1, rfl, Nat.le_refl _, by omega, fun c hc => by
      obtain rfl : c = 0 := by simp at hc; omega
      exact ⟨w4.heap.size, 0, rfl, hs5, hc5⟩⟩)
    clear hcu hg hz HC4 HX HC0 hc5 hs5
    go_wp2_with fail
    go_ret2
    exact ⟨_, _, _, rfl, HI5.out, HC5.out⟩
  | false =>
    go_wp2_with fail
    refine (placed_c w w3 w.heap.size 2 _ ns HA.out HC3.out (by omega)).mono ?_
    rintro e w4 ⟨v, xs, rfl, hi, hl, hcu⟩
    have HC4 := Lib.hid hcu; have HI4 := Lib.hid hi
    clear hcu hi HC3
    go_wp2_with fail
    refine (pick_c w w4 w.heap.size _ 80 _ ns HA.out HC4.out (by omega) (by omega) (by omega)).mono ?_
    rintro e w5 ⟨a, rfl, ha9, hcu, hg⟩
    have HC5 := Lib.hid hcu.below; have HI5 := Lib.hid (argL_of_ints (ints_cur HI4.out hg (by omega)))
    clear hcu hg HC4 HI4
    go_wp2_with fail
    go_ret2
    exact ⟨v, xs, _, rfl, HI5.out, HC5.out⟩

set_option maxHeartbeats 1000000 in
theorem l1Least_y (a b : Int) (w : World) : Calls Try.prog 80 #[.int .i64 a, .int .i64 b] w fun e w' => e = .returned (.int .i64 (if a < b then a else b)) ∧ w = w' := by
  by_cases h : a < b
  · rw [if_pos h]
    go_enter Try.func80, Try.ntmps80
    go_wp2_with fail
    go_ret
    exact ⟨rfl, rfl⟩
  · rw [if_neg h]
    go_enter Try.func80, Try.ntmps80
    go_wp2_with fail
    go_ret
    exact ⟨rfl, rfl⟩

theorem plL_take {xs : List Int} (h : plL xs = true) {n : Nat} (h1 : 1 ≤ n) (hn : n ≤ xs.length) : plL (xs.take n) = true := by
  obtain ⟨a, b, c⟩ := plL_open h
  unfold plL
  rw [Bool.and_eq_true, decide_eq_true_eq, List.all_eq_true]
  refine ⟨by rw [List.length_take]; omega, fun x hx => ?_⟩
  obtain ⟨i, hi, rfl⟩ := List.getElem_of_mem hx
  rw [List.length_take] at hi
  rw [List.getElem_take]
  have := c i (by omega)
  unfold inB
  exact decide_eq_true this

set_option maxHeartbeats 2000000 in
theorem drawIsEck_c (w : World) (cv : Value) (ns : List Int) (ha : ArgY w cv ns) :
    Calls Try.prog 50 #[cv] w fun e w' => ListNumA w e w' := by
  have HP := Lib.hid (placed_c w _ w.heap.size 0 cv ns ha (cur_new w cv) (by omega))
  have HA := Lib.hid ha
  obtain ⟨A, C, rfl, _⟩ := ha
  go_enter Try.func50, Try.ntmps50
  go_wp2_with fail
  refine HP.out.mono ?_
  rintro e w1 ⟨v, xs, rfl, hi, hl, hcu⟩
  have HC := Lib.hid hcu; have HI := Lib.hid hi
  have HPG := Lib.hid (plGood_any w1 _ v xs (intsA_of hi))
  clear hcu hi HP
  go_wp2_with fail
  refine HPG.out.mono ?_
  rintro e w2 ⟨rfl, rfl⟩
  clear HPG
  cases hp : plL xs with
  | false =>
    clear hp
    go_wp2_with fail
    refine (pick_c w w1 w.heap.size _ 6 _ ns HA.out HC.out (by omega) (by omega) (by omega)).mono ?_
    rintro e w5 ⟨a, rfl, ha9, hcu, hg⟩
    have HC5 := Lib.hid hcu.below; have HI5 := Lib.hid (argL_of_ints (ints_cur HI.out hg (by omega)))
    clear hcu hg HC HI
    go_wp2_with fail
    go_ret2
    exact ⟨v, xs, _, rfl, HI5.out, HC5.out⟩
  | true =>
    have HPL := Lib.hid hp
    clear hp
    go_wp2_with fail
    refine (one_c w w1 w.heap.size 400 3 _ ns HA.out HC.out (by omega) (by omega) (by omega)).mono ?_
    rintro e w3 ⟨b, rfl, hcu, hg⟩
    have HC3 := Lib.hid hcu; have HI3 := Lib.hid (ints_cur HI.out hg (by omega))
    clear hcu hg HC HI
    cases b with
    | true =>
      go_wp2_with fail
      refine (pick_c w w3 w.heap.size _ 6 _ ns HA.out HC3.out (by omega) (by omega) (by omega)).mono ?_
      rintro e w5 ⟨a, rfl, ha9, hcu, hg⟩
      have HC5 := Lib.hid hcu.below; have HI5 := Lib.hid (argL_of_ints (ints_cur HI3.out hg (by omega)))
      clear hcu hg HC3 HI3
      go_wp2_with fail
      go_ret2
      exact ⟨v, xs, _, rfl, HI5.out, HC5.out⟩
    | false =>
      obtain ⟨hx1, _, _⟩ := plL_open HPL.out
      obtain ⟨M, hM⟩ : ∃ M, M = xs.length := ⟨_, rfl⟩
      rw [← hM] at hx1
      obtain ⟨g1, c1, hv, hc1, hc2', hgB, hg1, _⟩ := intsA_at (intsA_of HI3.out) (by omega)
      subst hv
      rw [← hM] at hl hc1 ⊢
      have HM := Lib.hid hM
      obtain ⟨q, hq⟩ : ∃ q : Nat, (if (M : Int) < 5 then (M : Int) else 5) = (q : Int) ∧ 1 ≤ q ∧ q ≤ M ∧ q ≤ 5 := by
        by_cases h : (M : Int) < 5
        · exact ⟨M, by rw [if_pos h], by omega, by omega, by omega⟩
        · exact ⟨5, by rw [if_neg h]; rfl, by omega, by omega, by omega⟩
      obtain ⟨hq0, hq1, hqM, hq5⟩ := hq
      have hle := fun W => l1Least_y (M : Int) 5 W
      rw [hq0] at hle
      have HLE := Lib.hid hle
      clear hle hq0 hM
      go_wp2_with fail
      refine (HLE.out _).mono ?_
      rintro e w4 ⟨rfl, rfl⟩
      clear HLE
      go_wp2_with fail
      refine (pick_c w w3 w.heap.size _ q _ ns HA.out HC3.out (by omega) (by omega) (by omega)).mono ?_
      rintro e w4 ⟨a, rfl, ha9, hcu, hg⟩
      have HC4 := Lib.hid hcu; have HI4 := Lib.hid (ints_cur HI3.out hg (by omega))
      clear hcu hg HC3 HI3
      obtain ⟨n, hn⟩ : ∃ n : Nat, n = 1 + a := ⟨_, rfl⟩
      have hnI : (1 : Int) + (a : Int) = (n : Int) := by omega
      have hn1 : 1 ≤ n := by omega
      have hnM : n ≤ M := by omega
      have hn5 : n ≤ 5 := by omega
      have hnc : n ≤ c1 := by omega
      clear hn
      have hlt := HC4.out.lt
      have hT : ∀ W, Ints W (w.heap.size + 1) (.slice (some ⟨g1, 0, none⟩) xs.length c1) xs → ArgL W (.slice (some ⟨g1, 0, none⟩) n c1) (xs.take n) := fun W h => by
        have := argL_partL (argL_of_ints h) rfl 0 n c1 (Nat.zero_le _) (by rw [← HM.out]; exact hnM) (by omega) hc2'
        simpa using this
      have hpt := plL_take HPL.out hn1 (by rw [← HM.out]; exact hnM)
      have hPE := fun (W : World) (K : Nat) (h : Ints W (w.heap.size + 1) (.slice (some ⟨g1, 0, none⟩) xs.length c1) xs) (hK : K ≤ 10000) => plEck_arg W _ (xs.take n) K (hT W h) hpt hK
      have HPE := Lib.hid hPE
      clear hT hpt hPE
      go_wp2_with fail
      go_region_with (first
        | (go_at_call 68; ((refine (pick_c w _ w.heap.size _ 20 _ ns HA.out (HC4.out.later (below_drew _)) (by omega) (by omega) (by omega)).mono ?_); rintro e w5 ⟨r, rfl, hr9, hcu, hg⟩; have HC5 := Lib.hid hcu; have HI5 := Lib.hid (ints_cur (ints_below HI4.out (below_drew _)) hg (by omega)); clear hcu hg; (obtain ⟨K, hK⟩ : ∃ K : Nat, K = n + r := ⟨_, rfl⟩); (have hKI : (n : Int) + (r : Int) = (K : Int) := by omega); (have hK1 : 1 ≤ K := by omega); (have hK9 : K ≤ 25 := by omega); (have hKw : IntKind.i64.wrap (K : Int) = (K : Int) := IntWalk.i64_in _ (by omega)); clear hK))
        | (go_at_call 78; go_must (refine (HPE.out _ K HI5.out (by omega)).mono ?_); ((skip); rintro e w6 ⟨u, rfl, hu, hb⟩; have HU := Lib.hid hu; have HC6 := Lib.hid (HC5.out.later hb); clear hu hb)))
      have hlt5 := HC5.out.lt
      obtain ⟨gu, cu, rfl, hguB, hgu, hcu, _⟩ := ints_slice HU.out (by rw [upL_len]; exact hK1)
      rw [upL_len] at HU ⊢
      have HUC := Lib.hid (ints_at HU.out)
      go_wp2_with fail
      refine (one_c w w6 w.heap.size _ 4 _ ns HA.out HC6.out (by omega) (by omega) (by omega)).mono ?_
      rintro e w7 ⟨b, rfl, hcu7, hg⟩
      have HC7 := Lib.hid hcu7; have HU7 := Lib.hid (ints_cur HU.out hg (by omega))
      clear hcu7 hg HC6 HU HUC
      cases b with
      | false =>
        go_wp2_with fail
        go_ret2
        exact ⟨_, _, _, rfl, argL_of_ints HU7.out, HC7.out.below⟩
      | true =>
        go_wp2_with fail
        refine (pick_c w w7 w.heap.size _ K _ ns HA.out HC7.out (by omega) (by omega) (by omega)).mono ?_
        rintro e w8 ⟨i, rfl, hi8, hcu8, hg⟩
        have HC8 := Lib.hid hcu8; have HU8 := Lib.hid (ints_cur HU7.out hg (by omega))
        clear hcu8 hg HC7 HU7
        go_wp2_with fail
        refine (pick_c w w8 w.heap.size _ 3 _ ns HA.out HC8.out (by omega) (by omega) (by omega)).mono ?_
        rintro e w9 ⟨z, rfl, hz9, hcu9, hg⟩
        have HC9 := Lib.hid hcu9; have HU9 := Lib.hid (ints_cur HU8.out hg (by omega))
        clear hcu9 hg HC8 HU8
        have hfr := ints_frozenZ HU9.out (by rw [upL_len]) i
        have hst := ints_storeZ HU9.out (by rw [upL_len]) i (z : Int)
        have hcell := ints_cell HU9.out i (by rw [upL_len]; exact hi8)
        have hiK : (i : Int) < (K : Int) := by omega
        have HST := Lib.hid hst
        generalize (upL (eckS (xs.take n)) K)[i]'(by rw [upL_len]; exact hi8) = q at hcell
        clear hst
        go_wp2_with fail
        go_ret2
        exact ⟨_, _, _, rfl, argL_of_ints HST.out, (HC9.out.grown (grown_put w9 gu i (.int .i64 z)) (fun k hk => by cases hk; omega)).below⟩
end Go.Proofs.Ytpglkgpaaflikaa
