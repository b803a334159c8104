/- The library's Index at arrays of counts. -/
import Derived.Test.YtkdoghopbefjfaaU10
import Derived.Deep.AppendLies
import Derived.ScopeJumps
import Derived.WalkMore
namespace Go.Proofs.Ytkdoghopbefjfaa
open Go.RowKit Go.BigFrame
set_option linter.unusedSimpArgs false
set_option linter.unusedVariables false
set_option maxRecDepth 4000

/-- Arrays of counts, cell by cell. -/
def flatT (way : List (List Nat)) : List Value := way.flatMap fun m => tvl (pad m)
theorem flatT_len : ∀ (way : List (List Nat)), (∀ m ∈ way, m.length ≤ 9) → (flatT way).length = way.length * 9
  | [], _ => rfl
  | a :: r, h => by
    have := flatT_len r (fun m hm => h m (List.mem_cons_of_mem _ hm))
    simp only [flatT, List.flatMap_cons, List.length_append, tvl_len, List.length_cons] at *
    rw [pad_len a (h a List.mem_cons_self), this]
    omega
theorem flatT_at : ∀ (way : List (List Nat)) (k j : Nat) (hk : k < way.length), (∀ m ∈ way, m.length ≤ 9) → j < 9 → (flatT way)[k * 9 + j]? = (tvl (pad way[k]))[j]?
  | [], k, j, hk, _, _ => by simp at hk
  | a :: r, 0, j, hk, h, hj => by
    simp only [flatT, List.flatMap_cons, Nat.zero_mul, Nat.zero_add, List.getElem_cons_zero]
    rw [List.getElem?_append_left (by rw [tvl_len, pad_len a (h a List.mem_cons_self)]; exact hj)]
  | a :: r, k + 1, j, hk, h, hj => by
    have hl : (tvl (pad a)).length = 9 := by rw [tvl_len, pad_len a (h a List.mem_cons_self)]
    have := flatT_at r k j (by simpa using hk) (fun m hm => h m (List.mem_cons_of_mem _ hm)) hj
    simp only [flatT, List.flatMap_cons, List.getElem_cons_succ] at *
    rw [List.getElem?_append_right (by rw [hl]; omega), hl, show (k + 1) * 9 + j - 9 = k * 9 + j from by omega]
    exact this
theorem flatT_snoc (way : List (List Nat)) (x : List Nat) : flatT (way ++ [x]) = flatT way ++ tvl (pad x) := by simp [flatT]
theorem arr_range {w : World} {B g c n : Nat} {way : List (List Nat)} (h : w.ownsRow B 65 9 (.slice (some ⟨g, 0, none⟩) n c) n (flatT way)) (hall : ∀ m ∈ way, m.length ≤ 9) (k : Nat) (hk : k < way.length) : w.rangeAt g (k * 9) (tvl (pad way[k])) := by
  intro j u hj
  have hj9 : j < 9 := by
    have := get_lt hj
    rw [tvl_len, pad_len _ (hall _ (List.getElem_mem _))] at this
    exact this
  have := h.cells (g := g) rfl (k * 9 + j) u (by rw [flatT_at way k j hk hall hj9]; exact hj)
  rw [add_plainL, Nat.zero_add] at this
  exact this
/-- Where a list stands, or -1. -/
def idxN (way : List (List Nat)) (x : List Nat) : Int := if x ∈ way then (posL x way : Int) else -1
theorem blkT_range {w : World} {g : Nat} {ts : List Nat} (h : BlkT w g ts) : w.rangeAt g 0 (tvl ts) := fun j v hv => by
  rw [Nat.zero_add, cell_of_row w _ j _ _ _ h.1]; simpa [tvA] using hv

set_option maxHeartbeats 2000000 in
theorem index9_any (w : World) (B g c n L : Nat) (way : List (List Nat)) (x : List Nat) (h : w.ownsRow B 65 9 (.slice (some ⟨g, 0, none⟩) n c) n (flatT way)) (hn : n = way.length) (hc : n ≤ 2000000000) (hg : g < w.heap.size)
    (h9 : L ≤ 9) (hall : ∀ m ∈ way, m.length = L) (hx : x.length = L) :
    Calls Try.prog 107 #[.slice (some ⟨g, 0, none⟩) n c, .agg (tvl (pad x)).toArray] w fun e w' => e = .returned (.int .i64 (idxN way x)) ∧ Below w.heap.size w w' := by
  have hall9 : ∀ m ∈ way, m.length ≤ 9 := fun m hm => by have := hall m hm; omega
  have hblk : ∀ W : World, W = w.alloc (.cells (tvl (pad x)).toArray 65) → BlkT W w.heap.size (pad x) := fun W h => by rw [h]; exact ⟨heap_alloc_new _ _, pad_len x (by omega)⟩
  have hrow := fun k hk => arr_range h hall9 k hk
  have hix : (Try.prog.info? 65).map (·.size) = some (tvl (pad x)).length := by rw [tvl_len, pad_len x (by omega)]; exact info_tally
  have HROW := Lib.hid hrow; have HBLK := Lib.hid hblk; have HN := Lib.hid hn; have HALL := Lib.hid hall
  clear h hn hall hall9 hrow hblk
  go_enter Try.func107, Try.ntmps107
  go_wp2_with fail
  go_loopw [8] (fun i wr => ∃ k : Nat, i = .int .i64 k ∧ k ≤ n ∧ Hid ((∀ j (hj : j < way.length), j < k → way[j] ≠ x) ∧ BlkT wr w.heap.size (pad x) ∧ Below w.heap.size w wr)) (fun i _ => n - (intOf i).toNat)
  case atStart => exact ⟨0, rfl, Nat.zero_le _, fun j _ h => by omega, HBLK.out _ rfl, below_alloc _ _⟩
  case round =>
    obtain ⟨k, rfl, hk, HX⟩ := hrel
    by_cases hlt : k < n
    · have hk' : k < way.length := by rw [← HN.out]; exact hlt
      obtain ⟨y, hy⟩ : ∃ y, y = way[k] := ⟨_, rfl⟩
      have hyl : y.length = L := by rw [hy]; exact HALL.out _ (List.getElem_mem _)
      have hr2 : ∀ W, Below w.heap.size w W → W.rangeAt g (k * 9) (tvl (pad y)) := fun W hb j u hj => by
        rw [hb.cell (p := ⟨g, k * 9 + j, none⟩) hg]
        exact HROW.out k hk' j u (by rw [← hy]; exact hj)
      have hiy : (Try.prog.info? 65).map (·.size) = some (tvl (pad y)).length := by rw [tvl_len, pad_len y (by omega)]; exact info_tally
      have hs1 : wr.drew.rangeAt w.heap.size 0 (tvl (pad x)) := blkT_range (blkT_below HX.out.2.1 (below_drew _))
      have hs2 : wr.drew.rangeAt g (k * 9) (tvl (pad y)) := hr2 _ (HX.out.2.2.trans ((below_drew wr).mono HX.out.2.2.size))
      have heq : ∀ W, (binOp .eql 65 (.agg (tvl (pad x)).toArray) (.agg (tvl (pad y)).toArray)).run Try.prog W = .ok (.bool (decide (x = y))) W := fun W => by
        have := run_eqlT W (pad x) (pad y) (pad_len x (by omega)) (pad_len y (by omega))
        rw [show decide (pad x = pad y) = decide (x = y) from by
          by_cases e : x = y
          · rw [decide_eq_true e]; exact decide_eq_true (by rw [e])
          · rw [decide_eq_false e]; exact decide_eq_false (fun h => e ((pad_inj (by omega)).1 h))] at this
        exact this
      have hadd : (⟨g, 0, none⟩ : Addr).add (k * 9) = ⟨g, k * 9, none⟩ := by rw [add_plainL, Nat.zero_add]
      obtain ⟨be, hbe⟩ : ∃ be, be = decide (x = y) := ⟨_, rfl⟩
      rw [← hbe] at heq
      have HY := Lib.hid hy; have HBE := Lib.hid hbe
      clear hr2 hy hbe
      go_wp2_with fail
      refine wp_region_held_drew (S := fun w' => w'.rangeAt w.heap.size 0 (tvl (pad x)) ∧ w'.rangeAt g (k * 9) (tvl (pad y))) (by kernel_rfl) ⟨hs1, hs2⟩ (fun hHeld => ?_)
      refine wpAnyH_take (i := 0) (v := .agg (tvl (pad x)).toArray) rfl (by kernel_rfl) (by kernel_rfl) (by kernel_rfl) (fun _ _ _ h => h) (yieldsIf_load_mid (by rfl) 65 _ rfl w.heap.size 0 rfl (tvl (pad x)) _ (fun w hw => hw.1) under_tally rfl hix) hHeld ?_
      simp only [Act.put, List.setIfInBounds_toArray, List.set_cons_zero, List.set_cons_succ]
      refine wpAnyH_take (i := 1) (v := .slice (some ⟨g, 0, none⟩) n c) rfl (by kernel_rfl) (by kernel_rfl) (by kernel_rfl) (fun _ _ _ h => h) (Or.inl ⟨by rfl, fun w hw => by first | rfl | (go_simp; done) | (go_simp; rfl)⟩) hHeld ?_
      simp only [Act.put, List.setIfInBounds_toArray, List.set_cons_zero, List.set_cons_succ]
      refine wpAnyH_take (i := 2) (v := .int .i64 (k : Int)) rfl (by kernel_rfl) (by kernel_rfl) (by kernel_rfl) (fun _ _ _ h => h) (Or.inl ⟨by rfl, fun w hw => by first | rfl | (go_simp; done) | (go_simp; rfl)⟩) hHeld ?_
      simp only [Act.put, List.setIfInBounds_toArray, List.set_cons_zero, List.set_cons_succ]
      refine wpAnyH_take (i := 3) (v := .pointer (some ⟨g, k * 9, none⟩)) rfl (by kernel_rfl) (by kernel_rfl) (by kernel_rfl) (fun _ _ _ h => h) (Or.inl ⟨by rfl, fun w hw => by first | rfl | (go_simp; done) | (go_simp; rfl)⟩) hHeld ?_
      simp only [Act.put, List.setIfInBounds_toArray, List.set_cons_zero, List.set_cons_succ]
      refine wpAnyH_take (i := 4) (v := .agg (tvl (pad y)).toArray) rfl (by kernel_rfl) (by kernel_rfl) (by kernel_rfl) (fun _ _ _ h => h) (yieldsIf_load_mid (by rfl) 65 _ rfl g (k * 9) rfl (tvl (pad y)) _ (fun w hw => hw.2) under_tally rfl hiy) hHeld ?_
      simp only [Act.put, List.setIfInBounds_toArray, List.set_cons_zero, List.set_cons_succ]
      refine wpAnyH_take (i := 5) (v := .bool be) rfl (by kernel_rfl) (by kernel_rfl) (by kernel_rfl) (fun _ _ _ h => h) (Or.inl ⟨by rfl, fun w hw => by first | rfl | (go_simp; done) | (go_simp; rfl)⟩) hHeld ?_
      simp only [Act.put, List.setIfInBounds_toArray, List.set_cons_zero, List.set_cons_succ]
      refine wpAnyH_done (by kernel_rfl) ?_ _
      cases be with
      | true =>
        have he : x = y := of_decide_eq_true HBE.out.symm
        have hid : idxN way x = k := by
          obtain ⟨i1, i2⟩ := idxN_at x way k hk' (by rw [← HY.out]; exact he.symm) HX.out.1
          unfold idxN; rw [if_pos i1, i2]
        have HID := Lib.hid hid; clear hid he heq
        go_wp2_with fail
        go_ret
        exact ⟨by rw [HID.out]; rfl, HX.out.2.2.trans ((below_drew wr).mono HX.out.2.2.size)⟩
      | false =>
        have he : ¬ x = y := of_decide_eq_false HBE.out.symm
        have hnew : Hid (∀ j (hj : j < way.length), j < k + 1 → way[j] ≠ x) := fun j hj h => by
          by_cases e : j = k
          · subst e; rw [← HY.out]; exact fun e => he e.symm
          · exact HX.out.1 j hj (by omega)
        clear he heq
        go_wp2_with fail
        go_roundw
        case rel => exact ⟨k + 1, by go_num, by omega, hnew.out, blkT_below HX.out.2.1 (below_drew _), HX.out.2.2.trans ((below_drew wr).mono HX.out.2.2.size)⟩
        case measure => simp [intOf] <;> omega
    · obtain rfl : k = n := by omega
      have hid : idxN way x = -1 := by
        unfold idxN; rw [if_neg (idxN_none (fun j hj => HX.out.1 j hj (by rw [HN.out]; exact hj)))]
      have HID := Lib.hid hid; clear hid
      go_wp2_with fail
      go_ret
      exact ⟨by rw [HID.out]; rfl, HX.out.2.2⟩

set_option maxHeartbeats 1000000 in
theorem tellOnce_any (w : World) (bl L : Nat) (a : Option Addr) (cap : Nat) (x : List Nat) (hc : w.cell? ⟨bl, 0, none⟩ = some (.slice a L cap)) (hx : x.length = L) (h9 : L ≤ 9) :
    Calls Try.prog 88 #[.agg (tvl (pad x)).toArray, .pointer (some ⟨bl, 0, none⟩)] w fun e w' => e = .returned (.tuple #[aggT (pad (tel L x)), .bool true]) ∧ Below w.heap.size w w' := by
  have hp9 := pad_len x (by omega)
  have hT := fun W => tellFirst_any (pad x) L W hp9 h9
  rw [show (pad x).take L = x from by rw [← hx]; exact pad_take x, telP_pad _ _ h9] at hT
  have hlt := World.block_lt_of_cell? w _ hc
  have hblk : ∀ W : World, W = (w.alloc (.cells (tvl (pad x)).toArray 65)).alloc (.cells #[.int .i64 0, .int .i64 0, .int .i64 0, .int .i64 0, .int .i64 0, .int .i64 0, .int .i64 0, .int .i64 0, .int .i64 0] 65) → BlkT W w.heap.size (pad x) ∧ BlkT W (w.heap.size + 1) zeros9 := fun W h => by
    rw [h]; exact ⟨⟨heap_alloc2_old _ _ _, hp9⟩, ⟨heap_alloc2_new _ _ _, rfl⟩⟩
  have hcell : ((w.alloc (.cells (tvl (pad x)).toArray 65)).alloc (.cells #[.int .i64 0, .int .i64 0, .int .i64 0, .int .i64 0, .int .i64 0, .int .i64 0, .int .i64 0, .int .i64 0, .int .i64 0] 65)).cell? ⟨bl, 0, none⟩ = some (.slice a L cap) :=
    ((below_trans (below_alloc w _) (below_alloc _ _)).cell (p := ⟨bl, 0, none⟩) hlt).trans hc
  have ht9 := pad_len (tel L x) (by rw [tel_len]; exact h9)
  have HT := Lib.hid hT; have HBLK := Lib.hid hblk
  clear hT hblk hx hc
  go_enter Try.func88, Try.ntmps88
  go_wp2_with (refine wpList_getT rfl _ rfl w.heap.size rfl (pad x) (HBLK.out _ rfl).1 ?_)
  refine (HT.out _).mono ?_
  rintro e w3 ⟨rfl, hb⟩
  have hB3 := blkT_below (HBLK.out _ rfl).2 hb
  have HB := Lib.hid (below_trans (below_trans (below_alloc w (.cells (tvl (pad x)).toArray 65)) (below_alloc _ (.cells #[.int .i64 0, .int .i64 0, .int .i64 0, .int .i64 0, .int .i64 0, .int .i64 0, .int .i64 0, .int .i64 0, .int .i64 0] 65))) hb)
  clear hb
  go_wp2_with (refine wpList_putT rfl _ _ rfl (w.heap.size + 1) rfl zeros9 _ rfl hB3 ht9 ?_; intro w4 hB4 _ hbb _; have hbel := HB.out.trans (hbb _ (by omega)))
  refine bodyPost_ret (results_tallyT2 rfl _ _ _ _ rfl hB4) rfl ?_
  exact ⟨rfl, hbel⟩
end Go.Proofs.Ytkdoghopbefjfaa
