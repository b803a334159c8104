/- Chapter 7: the library's Index at arrays of four; the closure of LoopOfCounting. -/
import Derived.Test.YtampjipbemmicaaDoor8A
namespace Go.Proofs.YtampjipbemmicaaDoor
open Go.RowKit Go.BigFrame
set_option linter.unusedSimpArgs false
set_option linter.unusedVariables false
set_option maxRecDepth 4000

theorem ivs_len (xs : List Int) : (ivs xs).length = xs.length := by simp [ivs]
/-- Arrays of counts, cell by cell. -/
def flatF (way : List (List Int)) : List Value := way.flatMap fun m => ivs (padF m)
theorem flatF_len : ∀ (way : List (List Int)), (∀ m ∈ way, m.length ≤ 4) → (flatF way).length = way.length * 4
  | [], _ => rfl
  | a :: r, h => by
    have := flatF_len r (fun m hm => h m (List.mem_cons_of_mem _ hm))
    simp only [flatF, List.flatMap_cons, List.length_append, ivs_len, List.length_cons] at *
    rw [padF_len (h a List.mem_cons_self), this]
    omega
theorem flatF_at : ∀ (way : List (List Int)) (k j : Nat) (hk : k < way.length), (∀ m ∈ way, m.length ≤ 4) → j < 4 → (flatF way)[k * 4 + j]? = (ivs (padF way[k]))[j]?
  | [], k, j, hk, _, _ => by simp at hk
  | a :: r, 0, j, hk, h, hj => by
    simp only [flatF, List.flatMap_cons, Nat.zero_mul, Nat.zero_add, List.getElem_cons_zero]
    rw [List.getElem?_append_left (by rw [ivs_len, padF_len (h a List.mem_cons_self)]; exact hj)]
  | a :: r, k + 1, j, hk, h, hj => by
    have hl : (ivs (padF a)).length = 4 := by rw [ivs_len, padF_len (h a List.mem_cons_self)]
    have := flatF_at r k j (by simpa using hk) (fun m hm => h m (List.mem_cons_of_mem _ hm)) hj
    simp only [flatF, List.flatMap_cons, List.getElem_cons_succ] at *
    rw [List.getElem?_append_right (by rw [hl]; omega), hl, show (k + 1) * 4 + j - 4 = k * 4 + j from by omega]
    exact this
theorem flatF_snoc (way : List (List Int)) (x : List Int) : flatF (way ++ [x]) = flatF way ++ ivs (padF x) := by simp [flatF]
theorem arr_range {w : World} {B g c n : Nat} {way : List (List Int)} (h : w.ownsRow B 73 4 (.slice (some ⟨g, 0, none⟩) n c) n (flatF way)) (hall : ∀ m ∈ way, m.length ≤ 4) (k : Nat) (hk : k < way.length) : w.rangeAt g (k * 4) (ivs (padF way[k])) := by
  intro j u hj
  have hj4 : j < 4 := by
    have := get_lt hj
    rw [ivs_len, padF_len (hall _ (List.getElem_mem _))] at this
    exact this
  have := h.cells (g := g) rfl (k * 4 + j) u (by rw [flatF_at way k j hk hall hj4]; exact hj)
  rw [add_plainL, Nat.zero_add] at this
  exact this
/-- Where a list stands, or -1. -/
def idxF (way : List (List Int)) (x : List Int) : Int := if x ∈ way then (posL x way : Int) else -1
theorem blkF_range {w : World} {g : Nat} {ts : List Int} (h : BlkF w g ts) : w.rangeAt g 0 (ivs ts) := fun j v hv => by
  rw [Nat.zero_add, cell_of_row w _ j _ _ _ h.1]; simpa [fvA] using hv

set_option maxHeartbeats 2000000 in
theorem index4_any (w : World) (B g c n L : Nat) (way : List (List Int)) (x : List Int) (h : w.ownsRow B 73 4 (.slice (some ⟨g, 0, none⟩) n c) n (flatF way)) (hn : n = way.length) (hc : n ≤ 2000000000) (hg : g < w.heap.size)
    (h4 : L ≤ 4) (hall : ∀ m ∈ way, m.length = L) (hx : x.length = L) :
    Calls Tryd.prog 88 #[.slice (some ⟨g, 0, none⟩) n c, .agg (fvA (padF x))] w fun e w' => e = .returned (.int .i64 (idxF way x)) ∧ Below w.heap.size w w' := by
  have hall4 : ∀ m ∈ way, m.length ≤ 4 := fun m hm => by have := hall m hm; omega
  have hblk : ∀ W : World, W = w.alloc (.cells (fvA (padF x)) 73) → BlkF W w.heap.size (padF x) := fun W h => by rw [h]; exact ⟨heap_alloc_new _ _, padF_len (xs := x) (by omega)⟩
  have hrow := fun k hk => arr_range h hall4 k hk
  have hix : (Tryd.prog.info? 73).map (·.size) = some (ivs (padF x)).length := by rw [ivs_len, padF_len (xs := x) (by omega)]; exact info_form
  have HROW := Lib.hid hrow; have HBLK := Lib.hid hblk; have HN := Lib.hid hn; have HALL := Lib.hid hall
  clear h hn hall hall4 hrow hblk
  go_enter Tryd.func88, Tryd.ntmps88
  go_wp2_with fail
  go_loopw [8] (fun i wr => ∃ k : Nat, i = .int .i64 k ∧ k ≤ n ∧ Hid ((∀ j (hj : j < way.length), j < k → way[j] ≠ x) ∧ BlkF wr w.heap.size (padF x) ∧ Below w.heap.size w wr)) (fun i _ => n - (intOf i).toNat)
  case atStart => exact ⟨0, rfl, Nat.zero_le _, fun j _ h => by omega, HBLK.out _ rfl, below_alloc _ _⟩
  case round =>
    obtain ⟨k, rfl, hk, HX⟩ := hrel
    by_cases hlt : k < n
    · have hk' : k < way.length := by rw [← HN.out]; exact hlt
      obtain ⟨y, hy⟩ : ∃ y, y = way[k] := ⟨_, rfl⟩
      have hyl : y.length = L := by rw [hy]; exact HALL.out _ (List.getElem_mem _)
      have hr2 : ∀ W, Below w.heap.size w W → W.rangeAt g (k * 4) (ivs (padF y)) := fun W hb j u hj => by
        rw [hb.cell (p := ⟨g, k * 4 + j, none⟩) hg]
        exact HROW.out k hk' j u (by rw [← hy]; exact hj)
      have hiy : (Tryd.prog.info? 73).map (·.size) = some (ivs (padF y)).length := by rw [ivs_len, padF_len (xs := y) (by omega)]; exact info_form
      have hs1 : wr.drew.rangeAt w.heap.size 0 (ivs (padF x)) := blkF_range (blkF_below HX.out.2.1 (below_drew _))
      have hs2 : wr.drew.rangeAt g (k * 4) (ivs (padF y)) := hr2 _ (HX.out.2.2.trans ((below_drew wr).mono HX.out.2.2.size))
      have heq : ∀ W, (binOp .eql 73 (.agg (fvA (padF x))) (.agg (fvA (padF y)))).run Tryd.prog W = .ok (.bool (decide (x = y))) W := fun W => by
        have := run_eqlF W (padF x) (padF y) (padF_len (xs := x) (by omega)) (padF_len (xs := y) (by omega))
        rw [show decide (padF x = padF y) = decide (x = y) from by
          by_cases e : x = y
          · rw [decide_eq_true e]; exact decide_eq_true (by rw [e])
          · rw [decide_eq_false e]; exact decide_eq_false (fun h => e ((padF_inj (by omega)).1 h))] at this
        exact this
      have hadd : (⟨g, 0, none⟩ : Addr).add (k * 4) = ⟨g, k * 4, none⟩ := by rw [add_plainL, Nat.zero_add]
      obtain ⟨be, hbe⟩ : ∃ be, be = decide (x = y) := ⟨_, rfl⟩
      rw [← hbe] at heq
      have HY := Lib.hid hy; have HBE := Lib.hid hbe
      clear hr2 hy hbe
      go_wp2_with fail
      refine wp_region_held_drew (S := fun w' => w'.rangeAt w.heap.size 0 (ivs (padF x)) ∧ w'.rangeAt g (k * 4) (ivs (padF y))) (by kernel_rfl) ⟨hs1, hs2⟩ (fun hHeld => ?_)
      refine wpAnyH_take (i := 0) (v := .agg (fvA (padF x))) rfl (by kernel_rfl) (by kernel_rfl) (by kernel_rfl) (fun _ _ _ h => h) (yieldsIf_load_mid (by rfl) 73 _ rfl w.heap.size 0 rfl (ivs (padF x)) _ (fun w hw => hw.1) under_form rfl hix) hHeld ?_
      simp only [Act.put, List.setIfInBounds_toArray, List.set_cons_zero, List.set_cons_succ]
      refine wpAnyH_take (i := 1) (v := .slice (some ⟨g, 0, none⟩) n c) rfl (by kernel_rfl) (by kernel_rfl) (by kernel_rfl) (fun _ _ _ h => h) (Or.inl ⟨by rfl, fun w hw => by first | rfl | (go_simp; done) | (go_simp; rfl)⟩) hHeld ?_
      simp only [Act.put, List.setIfInBounds_toArray, List.set_cons_zero, List.set_cons_succ]
      refine wpAnyH_take (i := 2) (v := .int .i64 (k : Int)) rfl (by kernel_rfl) (by kernel_rfl) (by kernel_rfl) (fun _ _ _ h => h) (Or.inl ⟨by rfl, fun w hw => by first | rfl | (go_simp; done) | (go_simp; rfl)⟩) hHeld ?_
      simp only [Act.put, List.setIfInBounds_toArray, List.set_cons_zero, List.set_cons_succ]
      refine wpAnyH_take (i := 3) (v := .pointer (some ⟨g, k * 4, none⟩)) rfl (by kernel_rfl) (by kernel_rfl) (by kernel_rfl) (fun _ _ _ h => h) (Or.inl ⟨by rfl, fun w hw => by first | rfl | (go_simp; done) | (go_simp; rfl)⟩) hHeld ?_
      simp only [Act.put, List.setIfInBounds_toArray, List.set_cons_zero, List.set_cons_succ]
      refine wpAnyH_take (i := 4) (v := .agg (fvA (padF y))) rfl (by kernel_rfl) (by kernel_rfl) (by kernel_rfl) (fun _ _ _ h => h) (yieldsIf_load_mid (by rfl) 73 _ rfl g (k * 4) rfl (ivs (padF y)) _ (fun w hw => hw.2) under_form rfl hiy) hHeld ?_
      simp only [Act.put, List.setIfInBounds_toArray, List.set_cons_zero, List.set_cons_succ]
      refine wpAnyH_take (i := 5) (v := .bool be) rfl (by kernel_rfl) (by kernel_rfl) (by kernel_rfl) (fun _ _ _ h => h) (Or.inl ⟨by rfl, fun w hw => by first | rfl | (go_simp; done) | (go_simp; rfl)⟩) hHeld ?_
      simp only [Act.put, List.setIfInBounds_toArray, List.set_cons_zero, List.set_cons_succ]
      refine wpAnyH_done (by kernel_rfl) ?_ _
      cases be with
      | true =>
        have he : x = y := of_decide_eq_true HBE.out.symm
        have hid : idxF way x = k := by
          obtain ⟨i1, i2⟩ := posL_at x way k hk' (by rw [← HY.out]; exact he.symm) HX.out.1
          unfold idxF; rw [if_pos i1, i2]
        have HID := Lib.hid hid; clear hid he heq
        go_wp2_with fail
        go_ret
        exact ⟨by rw [HID.out]; rfl, HX.out.2.2.trans ((below_drew wr).mono HX.out.2.2.size)⟩
      | false =>
        have he : ¬ x = y := of_decide_eq_false HBE.out.symm
        have hnew : Hid (∀ j (hj : j < way.length), j < k + 1 → way[j] ≠ x) := fun j hj h => by
          by_cases e : j = k
          · subst e; rw [← HY.out]; exact fun e => he e.symm
          · exact HX.out.1 j hj (by omega)
        clear he heq
        go_wp2_with fail
        go_roundw
        case rel => exact ⟨k + 1, by go_num, by omega, hnew.out, blkF_below HX.out.2.1 (below_drew _), HX.out.2.2.trans ((below_drew wr).mono HX.out.2.2.size)⟩
        case measure => simp [intOf] <;> omega
    · obtain rfl : k = n := by omega
      have hid : idxF way x = -1 := by
        unfold idxF; rw [if_neg (not_mem_of (fun j hj => HX.out.1 j hj (by rw [HN.out]; exact hj)))]
      have HID := Lib.hid hid; clear hid
      go_wp2_with fail
      go_ret
      exact ⟨by rw [HID.out]; rfl, HX.out.2.2⟩


theorem againL_len {ns : List (List UInt8)} {fr : List UInt8} {x : List Int} : ((againL ns fr x).getD []).length ≤ x.length := by
  unfold againL
  by_cases ht : toldB ns fr x = true
  · rw [if_pos ht]
    cases h : againO ns fr x with
    | none => simp
    | some ys => rw [Option.getD_some, (againO_some ht h).2.2]; exact Nat.le_refl _
  · rw [if_neg ht]; simp
theorem blkF_argL {w : World} {g : Nat} {x : List Int} (h : BlkF w g (padF x)) (h4 : x.length ≤ 4) : ArgL w (.slice (some ⟨g, 0, none⟩) x.length 4) x := by
  refine ⟨_, _, rfl, h4, by omega, fun c hc => ⟨g, 0, rfl, blkF_lt h, ?_⟩⟩
  rw [Nat.zero_add]
  refine blkF_cell h ?_
  unfold padF
  rw [List.getElem?_append_left hc, List.getElem?_eq_getElem hc]

set_option maxHeartbeats 2000000 in
theorem loopClosure_any (w : World) (bl bt L : Nat) (u : Value) (a : Option Addr) (cap : Nat) (ns : List (List UInt8)) (fr : List UInt8) (x : List Int) (h : ArgS w u ns) (hf : fr.length ≤ 9223372036854775807) (hbx : TwoAt w bl u (.string (bs fr)) 27) (hc : w.cell? ⟨bt, 0, none⟩ = some (.slice a L cap)) (hx : x.length = L) (h4 : L ≤ 4) :
    Calls Tryd.prog 73 #[aggF (padF x), .pointer (some ⟨bl, 0, none⟩), .pointer (some ⟨bt, 0, none⟩)] w fun e w' => e = .returned (.tuple #[aggF (padF ((againL ns fr x).getD [])), .bool (againL ns fr x).isSome]) ∧ Below w.heap.size w w' := by
  have hp4 := padF_len (show x.length ≤ 4 by omega)
  have HC := Lib.hid (fun (W : World) (hb : Below w.heap.size w W) (v : Value) (hv : ArgL W v x) => implCountAgain_any W u v ns fr x (argS_below h hb) hf hv)
  have hO4 : ((againL ns fr x).getD []).length ≤ 4 := by have := againL_len (ns := ns) (fr := fr) (x := x); omega
  obtain ⟨O, hO⟩ : ∃ O, O = againL ns fr x := ⟨_, rfl⟩
  rw [← hO] at HC hO4 ⊢
  have HT := Lib.hid (fun (W : World) (v : Value) (hv : ArgL W v (O.getD [])) => tellingOf_any W v _ hv hO4)
  have hy4 := padF_len hO4
  obtain ⟨ys, hys⟩ : ∃ ys, ys = padF (O.getD []) := ⟨_, rfl⟩
  rw [← hys] at HT hy4 ⊢
  have hlt := World.block_lt_of_cell? w _ hc
  have hb0 : ∀ (T : TypeId) (A B : Array Value), Below w.heap.size w ((w.alloc (.cells A T)).alloc (.cells B T)) := fun T A B => below_trans (below_alloc w _) (below_alloc _ _)
  obtain ⟨c0, c1, _, _⟩ := (hbx.below (hb0 73 (fvA (padF x)) #[.int .i64 0, .int .i64 0, .int .i64 0, .int .i64 0])).cells
  have c2 := ((hb0 73 (fvA (padF x)) #[.int .i64 0, .int .i64 0, .int .i64 0, .int .i64 0]).cell (p := ⟨bt, 0, none⟩) hlt).trans hc
  have hblk : BlkF ((w.alloc (.cells (fvA (padF x)) 73)).alloc (.cells #[.int .i64 0, .int .i64 0, .int .i64 0, .int .i64 0] 73)) w.heap.size (padF x) ∧ BlkF ((w.alloc (.cells (fvA (padF x)) 73)).alloc (.cells #[.int .i64 0, .int .i64 0, .int .i64 0, .int .i64 0] 73)) (w.heap.size + 1) zF := ⟨⟨heap_alloc2_old _ _ _, hp4⟩, ⟨heap_alloc2_new _ _ _, rfl⟩⟩
  have hal := blkF_argL (blkF_below hblk.1 (below_drew _)) (by omega)
  rw [hx] at hal
  have hsl := fun (W : World) (b : Nat) => run_sliceN W b L h4
  have HAL := Lib.hid hal; have HBLK := Lib.hid hblk.2; have HB0 := Lib.hid (hb0 73 (fvA (padF x)) #[.int .i64 0, .int .i64 0, .int .i64 0, .int .i64 0]); have HY4 := Lib.hid hy4
  clear h hbx hc hblk hb0 hO hal hO4 hys hy4 hx
  unfold aggF
  go_enter Tryd.func73, Tryd.ntmps73
  go_wp2_with fail
  go_region_with (go_at_call 33; ((with_reducible refine (HC.out _ HB0.out.drew _ HAL.out).mono ?_); rintro e w2 ⟨v2, rfl, hi2, hb2⟩; have HI2 := Lib.hid (argL_of hi2); have HB2 := Lib.hid (HB0.out.drew.trans (hb2.mono HB0.out.size)); have HT2 := Lib.hid (blkF_below (blkF_below HBLK.out (below_drew _)) hb2); clear hi2 hb2))
  all_goals
    go_wp2_with fail
    refine (HT.out w2 v2 HI2.out).mono ?_
    rintro e w3 ⟨rfl, hb3⟩
    have HB3 := Lib.hid (below_trans HB2.out hb3); have hT3 := blkF_below HT2.out hb3
    clear hb3
    go_wp2_with (refine wpList_putF rfl _ _ rfl (w.heap.size + 1) rfl zF ys rfl hT3 HY4.out ?_; intro w4 hB4 _ hbb _; have hbel := HB3.out.trans (hbb _ (by omega)))
    refine bodyPost_ret (results_formT rfl _ _ _ _ rfl hB4) rfl ?_
    exact ⟨rfl, hbel⟩
end Go.Proofs.YtampjipbemmicaaDoor
