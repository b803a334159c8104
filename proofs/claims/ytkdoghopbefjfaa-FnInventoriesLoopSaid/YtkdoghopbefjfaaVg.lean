/- What is drawn for FnInventoriesLoop. -/
import Derived.Test.YtkdoghopbefjfaaMu
import Derived.Test.YtkdoghopbefjfaaMc
namespace Go.Proofs.Ytkdoghopbefjfaa
open Go.RowKit Go.BigFrame Go.Deep
set_option linter.unusedSimpArgs false
set_option linter.unusedVariables false
set_option maxRecDepth 4000

/-- A text is drawn. -/
def TextDV (w : World) (e : Ending) (w' : World) : Prop := ∃ t : ByteArray, e = .returned (.string t) ∧ t.size ≤ 402 ∧ Below w.heap.size w w'
/-- A text and a number are drawn. -/
def TextNV (w : World) (e : Ending) (w' : World) : Prop := ∃ (t : ByteArray) (x : Int), e = .returned (.tuple #[.string t, .int .i64 x]) ∧ t.size ≤ 402 ∧ Below w.heap.size w w'
def NumV (w : World) (e : Ending) (w' : World) : Prop := ∃ x : Int, e = .returned (.int .i64 x) ∧ Below w.heap.size w w'
theorem lit_textsV (w : World) (xs : List ByteArray) (T : TypeId) : ∀ i (h : i < xs.length), (w.alloc (.cells (xs.map Value.string).toArray T)).cell? ⟨w.heap.size, i, none⟩ = some (.string xs[i]) := by
  intro i h
  have hcl := heap_alloc_new w (.cells (xs.map Value.string).toArray T)
  simp only [World.cell?, hcl]
  simp [h]

set_option maxHeartbeats 1000000 in
theorem of_cV (w0 w : World) (g K b L c : Nat) (cv : Value) (ns : List Int) (xs : List ByteArray) (ha : ArgY w0 cv ns) (hc : Cur w0 w g cv K) (hK : K ≤ 100000000) (hL : xs.length = L) (h1 : 1 ≤ L) (h9 : L ≤ 100000) (hLc : L ≤ c) (hc9 : c ≤ 9223372036854775807)
    (hbg : b ≠ g) (hb : b < w.heap.size) (hx : ∀ i (h : i < xs.length), w.cell? ⟨b, i, none⟩ = some (.string xs[i])) :
    Calls Try.prog 98 #[.pointer (some ⟨g, 0, none⟩), .slice (some ⟨b, 0, none⟩) L c] w fun e w' => ∃ x ∈ xs, e = .returned (.string x) ∧ Cur w0 w' g cv (K + 2) ∧ w.grownBy w' (some g) := by
  have HP := Lib.hid (pick_c w0 w g K L cv ns ha hc hK h1 (by omega))
  have HX := Lib.hid hx; have HL := Lib.hid hL
  clear ha hc hx hL
  go_enter Try.func98, Try.ntmps98
  go_wp2_with fail
  refine HP.out.mono ?_
  rintro e w1 ⟨x, rfl, hx, hcu, hg⟩
  have hxl : x < xs.length := by rw [HL.out]; exact hx
  have hcell : w1.cell? ⟨b, x, none⟩ = some (.string xs[x]) := hg.cell (HX.out x hxl) (fun e => hbg (by injection e))
  have hmem := List.getElem_mem hxl
  have HM := Lib.hid hmem
  generalize xs[x] = y at hcell HM
  have HG := Lib.hid hg; have HC := Lib.hid hcu
  clear hcu hg hmem hxl
  go_wp2_with fail
  go_ret
  exact ⟨y, HM.out, rfl, HC.out, HG.out⟩

theorem inv_short {l m : List UInt8} (h : invO l = some m) : m.length ≤ 402 := by have := (inv_facts h).2.2.2.2.2.1; omega

set_option maxHeartbeats 2000000 in
theorem inventory_c (w0 w : World) (g K : Nat) (cv : Value) (ns : List Int) (ha : ArgY w0 cv ns) (hc : Cur w0 w g cv K) (hK : K ≤ 50000) :
    Calls Try.prog 67 #[.pointer (some ⟨g, 0, none⟩)] w fun e w' => TextC w0 g cv (K + 100) e w' := by
  have HP := Lib.hid (sureWord_c w0 w g K 7 5 cv ns ha hc (by omega) (by omega) (by omega) (by omega) (by omega))
  have HA := Lib.hid ha
  clear hc ha
  go_enter Try.func67, Try.ntmps67
  go_wp2_with fail
  refine HP.out.mono ?_
  rintro e w1 ⟨l, rfl, hl1, hl7, _, hcu⟩
  have HC := Lib.hid hcu
  clear hcu HP
  have hT := taOf_any (bs l) w1 (by rw [bs_size]; unfold maxLen; omega)
  rw [bs_list, strOk_eq] at hT
  have HT := Lib.hid hT
  clear hT
  go_wp2_with fail
  refine HT.out.mono ?_
  rintro e w2 ⟨rfl, hb⟩
  have HC2 := Lib.hid ((HC.out.later hb).mono (show K + 2 + 4 * 7 ≤ K + 30 by omega))
  clear hb HC HT
  cases ho : invO l with
  | none =>
    simp only [Option.getD_none, Option.isSome_none]
    have HW := Lib.hid (wordOf_c w0 w2 g (K + 30) 6 cv ns HA.out HC2.out (by omega) (by omega) (by omega))
    clear ho
    go_wp2_with fail
    refine HW.out.mono ?_
    rintro e w3 ⟨t, rfl, ht, hcu⟩
    have HC3 := Lib.hid (hcu.mono (show K + 30 + 20 + 4 * 6 ≤ K + 100 by omega))
    clear hcu HW
    go_wp2_with fail
    go_ret
    exact ⟨t, rfl, ht, HC3.out⟩
  | some m =>
    simp only [Option.getD_some, Option.isSome_some]
    have HM := Lib.hid (inv_short ho)
    clear ho
    have HO := Lib.hid (one_c w0 w2 g (K + 30) 6 cv ns HA.out HC2.out (by omega) (by omega) (by omega))
    go_wp2_with fail
    refine HO.out.mono ?_
    rintro e w3 ⟨b, rfl, hcu, hg⟩
    have HC3 := Lib.hid hcu
    clear hcu hg HO HC2
    cases b with
    | true =>
      have HW := Lib.hid (wordOf_c w0 w3 g (K + 30 + 2) 6 cv ns HA.out HC3.out (by omega) (by omega) (by omega))
      go_wp2_with fail
      refine HW.out.mono ?_
      rintro e w4 ⟨t, rfl, ht, hcu⟩
      have HC4 := Lib.hid (hcu.mono (show K + 30 + 2 + 20 + 4 * 6 ≤ K + 100 by omega))
      clear hcu HW
      go_wp2_with fail
      go_ret
      exact ⟨t, rfl, ht, HC4.out⟩
    | false =>
      have HO := Lib.hid (one_c w0 w3 g (K + 30 + 2) 6 cv ns HA.out HC3.out (by omega) (by omega) (by omega))
      go_wp2_with fail
      refine HO.out.mono ?_
      rintro e w4 ⟨b, rfl, hcu, hg⟩
      have HC4 := Lib.hid hcu
      clear hcu hg HO HC3
      cases b with
      | true =>
        go_wp2_with fail
        have hlt := HC4.out.lt
        refine (of_cV w0 _ g (K + 30 + 2 + 2) w4.heap.size 8 8 _ ns [⟨#[50, 50]⟩, ⟨#[50, 49, 51, 50, 50, 51, 49, 52]⟩, ⟨#[51, 49, 49, 50, 51, 51, 49, 52]⟩, ⟨#[51, 49, 50, 50, 51, 51, 49, 52, 49, 53]⟩, ⟨#[49, 52]⟩, ⟨#[49, 49, 49, 50]⟩, ⟨#[51, 49, 51, 51, 49, 52, 49, 53]⟩, ⟨#[49, 49, 49, 50, 49, 51, 49, 52, 49, 53, 49, 54, 49, 55, 49, 56, 49, 57]⟩] HA.out (HC4.out.later (below_alloc _ _)) (by omega) rfl (by omega) (by omega) (by omega) (by omega) (by omega) (by simp) (lit_textsV w4 _ _)).mono ?_
        rintro e w5 ⟨x, hx, rfl, hcu, hg⟩
        have HC5 := Lib.hid (hcu.mono (show K + 30 + 2 + 2 + 2 ≤ K + 100 by omega))
        have HX : Hid (x.size ≤ 402) := Lib.hid ((by decide : ∀ x ∈ ([⟨#[50, 50]⟩, ⟨#[50, 49, 51, 50, 50, 51, 49, 52]⟩, ⟨#[51, 49, 49, 50, 51, 51, 49, 52]⟩, ⟨#[51, 49, 50, 50, 51, 51, 49, 52, 49, 53]⟩, ⟨#[49, 52]⟩, ⟨#[49, 49, 49, 50]⟩, ⟨#[51, 49, 51, 51, 49, 52, 49, 53]⟩, ⟨#[49, 49, 49, 50, 49, 51, 49, 52, 49, 53, 49, 54, 49, 55, 49, 56, 49, 57]⟩] : List ByteArray), x.size ≤ 402) x hx)
        clear hcu hg hx hlt
        go_wp2_with fail
        go_ret
        exact ⟨x, rfl, HX.out, HC5.out⟩
      | false =>
        go_wp2_with fail
        go_ret
        exact ⟨bs m, rfl, by rw [bs_size]; exact HM.out, HC4.out.mono (by omega)⟩

set_option maxHeartbeats 1000000 in
theorem drawCountsOf_cV (w : World) (cv : Value) (ns : List Int) (ha : ArgY w cv ns) :
    Calls Try.prog 52 #[cv] w fun e w' => TextDV w e w' := by
  have HP := Lib.hid (wordOf_c w _ w.heap.size 0 12 cv ns ha (cur_new w cv) (by omega) (by omega) (by omega))
  obtain ⟨A, C, rfl, _⟩ := ha
  go_enter Try.func52, Try.ntmps52
  go_wp2_with fail
  refine HP.out.mono ?_
  rintro e w1 ⟨t, rfl, ht, hcu⟩
  have HC := Lib.hid hcu.below
  clear hcu
  go_wp2_with fail
  go_ret
  exact ⟨t, rfl, ht, HC.out⟩

set_option maxHeartbeats 1000000 in
theorem drawLoopOfInventory_c (w : World) (cv : Value) (ns : List Int) (ha : ArgY w cv ns) :
    Calls Try.prog 8 #[cv] w fun e w' => TextDV w e w' := by
  have HP := Lib.hid (drawCountsOf_cV w cv ns ha)
  obtain ⟨A, C, rfl, _⟩ := ha
  go_enter Try.func8, Try.ntmps8
  go_wp2_with fail
  refine HP.out.mono ?_
  rintro e w1 ⟨t, rfl, ht, hb⟩
  have HC := Lib.hid hb
  clear hb
  go_wp2_with fail
  go_ret
  exact ⟨t, rfl, ht, HC.out⟩

set_option maxHeartbeats 1000000 in
theorem drawIsOwnInventory_c (w : World) (cv : Value) (ns : List Int) (ha : ArgY w cv ns) :
    Calls Try.prog 23 #[cv] w fun e w' => TextDV w e w' := by
  have HP := Lib.hid (inventory_c w _ w.heap.size 0 cv ns ha (cur_new w cv) (by omega))
  obtain ⟨A, C, rfl, _⟩ := ha
  go_enter Try.func23, Try.ntmps23
  go_wp2_with fail
  refine HP.out.mono ?_
  rintro e w1 ⟨t, rfl, ht, hcu⟩
  have HC := Lib.hid hcu.below
  clear hcu
  go_wp2_with fail
  go_ret
  exact ⟨t, rfl, ht, HC.out⟩

set_option maxHeartbeats 1000000 in
theorem drawAllOwn_c (w : World) (cv : Value) (ns : List Int) (ha : ArgY w cv ns) :
    Calls Try.prog 27 #[cv] w fun e w' => NumV w e w' := by
  have HA := Lib.hid ha
  obtain ⟨A, C, rfl, _⟩ := ha
  have hx : ∀ i (h : i < [(1 : Int), 2, 3, 4, 5, 0, 7, -1].length), ((w.alloc (.cells #[.slice A ns.length C, .int .i64 0, .int .u64 0] 78)).alloc (.cells #[.int .i64 1, .int .i64 2, .int .i64 3, .int .i64 4, .int .i64 5, .int .i64 0, .int .i64 7, .int .i64 (-1)] 3)).cell? ⟨w.heap.size + 1, i, none⟩ = some (.int .i64 [(1 : Int), 2, 3, 4, 5, 0, 7, -1][i]) := by
    have := lit_cellsW (w.alloc (.cells #[.slice A ns.length C, .int .i64 0, .int .u64 0] 78)) [1, 2, 3, 4, 5, 0, 7, -1] 3
    rw [World.size_alloc] at this
    exact this
  have HX := Lib.hid hx
  clear hx
  go_enter Try.func27, Try.ntmps27
  go_wp2_with fail
  refine (among_c w _ w.heap.size 0 (w.heap.size + 1) 8 8 _ ns [1, 2, 3, 4, 5, 0, 7, -1] HA.out ((cur_new w _).later (below_alloc _ _)) (by omega) rfl (by omega) (by omega) (by omega) (by omega) (by omega) (by simp only [World.size_alloc]; omega) HX.out).mono ?_
  rintro e w5 ⟨z, hz, rfl, hcu, hg⟩
  have HC5 := Lib.hid hcu.below
  clear hcu hg hz HX
  go_wp2_with fail
  go_ret
  exact ⟨_, rfl, HC5.out⟩

set_option maxHeartbeats 2000000 in
theorem drawHearInventory_c (w : World) (cv : Value) (ns : List Int) (ha : ArgY w cv ns) :
    Calls Try.prog 30 #[cv] w fun e w' => TextDV w e w' := by
  have HP := Lib.hid (sureWord_c w _ w.heap.size 0 6 3 cv ns ha (cur_new w cv) (by omega) (by omega) (by omega) (by omega) (by omega))
  have HA := Lib.hid ha
  obtain ⟨A, C, rfl, _⟩ := ha
  go_enter Try.func30, Try.ntmps30
  go_wp2_with fail
  refine HP.out.mono ?_
  rintro e w1 ⟨l, rfl, hl1, hl7, _, hcu⟩
  have HC := Lib.hid hcu
  clear hcu HP
  have hT := taOf_any (bs l) w1 (by rw [bs_size]; unfold maxLen; omega)
  rw [bs_list, strOk_eq] at hT
  have HT := Lib.hid hT
  clear hT
  go_wp2_with fail
  refine HT.out.mono ?_
  rintro e w2 ⟨rfl, hb⟩
  have HC2 := Lib.hid ((HC.out.later hb).mono (show 0 + 2 + 4 * 6 ≤ 26 by omega))
  clear hb HC HT
  cases ho : invO l with
  | none =>
    simp only [Option.getD_none, Option.isSome_none]
    have HW := Lib.hid (inventory_c w w2 w.heap.size 26 _ ns HA.out HC2.out (by omega))
    clear ho
    go_wp2_with fail
    refine HW.out.mono ?_
    rintro e w3 ⟨t, rfl, ht, hcu⟩
    have HC3 := Lib.hid hcu.below
    clear hcu HW
    go_wp2_with fail
    go_ret
    exact ⟨t, rfl, ht, HC3.out⟩
  | some m =>
    simp only [Option.getD_some, Option.isSome_some]
    have HM := Lib.hid (inv_short ho)
    clear ho
    have HO := Lib.hid (one_c w w2 w.heap.size 26 4 _ ns HA.out HC2.out (by omega) (by omega) (by omega))
    go_wp2_with fail
    refine HO.out.mono ?_
    rintro e w3 ⟨b, rfl, hcu, hg⟩
    have HC3 := Lib.hid hcu
    clear hcu hg HO HC2
    cases b with
    | true =>
      have HW := Lib.hid (inventory_c w w3 w.heap.size 28 _ ns HA.out HC3.out (by omega))
      go_wp2_with fail
      refine HW.out.mono ?_
      rintro e w4 ⟨t, rfl, ht, hcu⟩
      have HC4 := Lib.hid hcu.below
      clear hcu HW
      go_wp2_with fail
      go_ret
      exact ⟨t, rfl, ht, HC4.out⟩
    | false =>
      go_wp2_with fail
      go_ret
      exact ⟨bs m, rfl, by rw [bs_size]; exact HM.out, HC3.out.below⟩

set_option maxHeartbeats 1000000 in
theorem drawWayOfInventory_c (w : World) (cv : Value) (ns : List Int) (ha : ArgY w cv ns) :
    Calls Try.prog 33 #[cv] w fun e w' => TextNV w e w' := by
  have HP := Lib.hid (wordOf_c w _ w.heap.size 0 10 cv ns ha (cur_new w cv) (by omega) (by omega) (by omega))
  have HA := Lib.hid ha
  obtain ⟨A, C, rfl, _⟩ := ha
  go_enter Try.func33, Try.ntmps33
  go_wp2_with fail
  refine HP.out.mono ?_
  rintro e w1 ⟨t, rfl, ht, hcu⟩
  have HC := Lib.hid hcu
  clear hcu HP
  go_wp2_with fail
  have hlt := HC.out.lt
  refine (among_c w _ w.heap.size _ w1.heap.size 8 8 _ ns [0, 1, 2, 5, 10, 40, 41, -1] HA.out (HC.out.later (below_alloc _ _)) (by omega) rfl (by omega) (by omega) (by omega) (by omega) (by omega) (by simp) (lit_cellsW w1 _ _)).mono ?_
  rintro e w2 ⟨x2, hx, rfl, hcu, hg⟩
  have HC2 := Lib.hid hcu.below
  clear hcu hg hx hlt
  go_wp2_with fail
  go_ret2
  exact ⟨t, x2, rfl, ht, HC2.out⟩
end Go.Proofs.Ytkdoghopbefjfaa
