/- Chapter 6: forms of lists (pure), and on both sides; a form as an array. -/
import Derived.Test.YtpglkgpaaflikaaY7
import Derived.Laws.Tables
import Derived.Deep.MidRow
import Derived.Deep.WholeRow
import Derived.Laws.CopyOwn
namespace Go.Proofs.Ytpglkgpaaflikaa
open Go.RowKit Go.BigFrame Go.Maps
set_option linter.unusedSimpArgs false
set_option linter.unusedVariables false
set_option maxRecDepth 4000

/-! ### Pure -/
/-- The form by distances: the first k numbers, and how many different ones. -/
def fmS (d : Nat → Int) : Nat → List Int × Nat
  | 0 => ([], 0)
  | k + 1 => if d k > 0 then ((fmS d k).1 ++ [(fmS d k).1.getD (k - (d k).toNat) 0], (fmS d k).2) else ((fmS d k).1 ++ [((fmS d k).2 : Int) + 1], (fmS d k).2 + 1)
def fmL (ds : List Int) : List Int := (fmS (sq ds) ds.length).1
theorem fmS_len (d : Nat → Int) : ∀ k, (fmS d k).1.length = k
  | 0 => rfl
  | k + 1 => by unfold fmS; split <;> simp [fmS_len d k]
theorem fmL_len (ds : List Int) : (fmL ds).length = ds.length := fmS_len _ _
theorem fmS_most (d : Nat → Int) : ∀ k, (fmS d k).2 ≤ k
  | 0 => Nat.le_refl _
  | k + 1 => by have := fmS_most d k; unfold fmS; split <;> simp <;> omega
/-- Each distance leads to a place of the list. -/
def okD (d : Nat → Int) (N : Nat) : Prop := ∀ k, k < N → 0 ≤ d k ∧ d k ≤ (k : Int)
theorem fmS_bd {d : Nat → Int} : ∀ k, okD d k → ∀ x ∈ (fmS d k).1, 1 ≤ x ∧ x ≤ (k : Int)
  | 0, _ => by intro x hx; cases hx
  | k + 1, h => by
    have ih := fmS_bd k (fun i hi => h i (Nat.lt_succ_of_lt hi))
    have hk := h k (Nat.lt_succ_self k)
    have hm := fmS_most d k
    intro x hx
    unfold fmS at hx
    split at hx
    · rcases List.mem_append.1 hx with hx | hx
      · have := ih x hx; omega
      · rw [List.mem_singleton] at hx
        have hi : k - (d k).toNat < (fmS d k).1.length := by rw [fmS_len]; omega
        rw [List.getD_eq_getElem?_getD, List.getElem?_eq_getElem hi, Option.getD_some] at hx
        have := ih x (by rw [hx]; exact List.getElem_mem _)
        omega
    · rcases List.mem_append.1 hx with hx | hx
      · have := ih x hx; omega
      · rw [List.mem_singleton] at hx
        omega
theorem okD_bk (xs : List Int) : okD (sq (bkL xs)) xs.length := fun k hk => by
  rw [show sq (bkL xs) k = bkS xs k from sq_upL hk]
  have := bk_le (sq xs) k
  unfold bkS; omega
theorem fmL_pl {ds : List Int} (h1 : 1 ≤ ds.length) (h60 : ds.length ≤ 60) (h : okD (sq ds) ds.length) : plL (fmL ds) = true := by
  unfold plL
  rw [Bool.and_eq_true, decide_eq_true_eq, fmL_len, List.all_eq_true]
  refine ⟨⟨h1, h60⟩, fun x hx => ?_⟩
  have := fmS_bd ds.length h x hx
  simp [inB]; omega

set_option maxHeartbeats 4000000 in
theorem plForm_any (w : World) (B : Nat) (v : Value) (ds : List Int) (ha : IntsA w B v ds) (h1 : 1 ≤ ds.length) (h9 : ds.length ≤ 100000) (hok : okD (sq ds) ds.length) :
    Calls Try.prog 59 #[v] w fun e w' => ∃ u, e = .returned u ∧ Ints w' w.heap.size u (fmL ds) ∧ Below w.heap.size w w' := by
  obtain ⟨g, cap, rfl, hc1, hc2, _, hg, hce⟩ := intsA_at ha h1
  have HC := Lib.hid hce; have HOK := Lib.hid hok
  obtain ⟨N, hN⟩ : ∃ N, N = ds.length := ⟨_, rfl⟩
  have HN := Lib.hid hN
  rw [← hN] at hc1 h1 h9 ⊢
  clear ha hce hN hok
  go_enter Try.func59, Try.ntmps59
  go_wp2_with fail
  go_loopw [3, 4, 9] (fun ov mv iv wr => ∃ k m : Nat, k ≤ N ∧ m ≤ k ∧ iv = .int .i64 k ∧ mv = .int .i64 m ∧ Hid (m = (fmS (sq ds) k).2) ∧ Hid (Ints wr w.heap.size ov (fmS (sq ds) k).1 ∧ Below w.heap.size w wr)) (fun _ _ iv _ => N - (intOf iv).toNat)
  case atStart => exact ⟨0, 0, Nat.zero_le _, Nat.le_refl _, rfl, rfl, Lib.hid rfl, World.ownsRow_nil _ _ _ _, Below.refl _ _⟩
  case round =>
    obtain ⟨k, m, hk, hmk, rfl, rfl, HM, HX⟩ := hrel
    by_cases hlt : k < N
    · have hk' : k < ds.length := by rw [← HN.out]; exact hlt
      obtain ⟨d0, d9⟩ := HOK.out k hk'
      have h2 : wr.cell? ⟨g, k, none⟩ = some (.int .i64 ds[k]) := (HX.out.2.cell (p := ⟨g, k, none⟩) hg).trans (HC.out k hk')
      have hsx := sq_at hk'
      have hstep : fmS (sq ds) (k + 1) = if sq ds k > 0 then ((fmS (sq ds) k).1 ++ [(fmS (sq ds) k).1.getD (k - (sq ds k).toNat) 0], (fmS (sq ds) k).2) else ((fmS (sq ds) k).1 ++ [((fmS (sq ds) k).2 : Int) + 1], (fmS (sq ds) k).2 + 1) := rfl
      have hlen := fmS_len (sq ds) k
      rw [← hsx] at h2
      obtain ⟨x, hx⟩ : ∃ x, x = sq ds k := ⟨_, rfl⟩
      rw [← hx] at h2 hstep d0 d9
      by_cases h0 : x > 0
      · rw [if_pos h0] at hstep
        obtain ⟨j, hj⟩ : ∃ j, j = k - x.toNat := ⟨_, rfl⟩
        have hjl : j < (fmS (sq ds) k).1.length := by rw [hlen]; omega
        rw [← hj, List.getD_eq_getElem?_getD, List.getElem?_eq_getElem hjl, Option.getD_some] at hstep
        obtain ⟨y, hy⟩ : ∃ y, y = (fmS (sq ds) k).1[j] := ⟨_, rfl⟩
        rw [← hy] at hstep
        have he : (k : Int) - x = (j : Int) := by omega
        have hjk : j < k := by omega
        obtain ⟨go, co, rfl, hgo, hgw, hco, hnc⟩ := ints_slice HX.out.1 (by rw [hlen]; omega)
        have h3 := ints_at HX.out.1 j hjl
        rw [← hy] at h3
        have hR := HX.out.1
        rw [hlen] at hR hnc ⊢
        have HS := Lib.hid hstep; have HR := Lib.hid hR; have HLEN := Lib.hid hlen
        clear hsx hx hstep hj hy hR hlen hjl
        go_wp2_with (at_builtin; refine wpI_app wr rfl _ _ rfl w y HR.out rfl rfl HX.out.2 (by rw [HLEN.out]; omega) ?_; intro v4 w4 ho4 hb4 hk4 hs4 hw4; have HO4 := Lib.hid ho4; have HB4 := Lib.hid hb4; clear ho4 hb4 hk4 hs4 hw4)
        go_roundw
        case rel => exact ⟨k + 1, m, by omega, by omega, by go_num, rfl, Lib.hid (by rw [HS.out]; exact HM.out), by rw [HS.out]; exact HO4.out, HB4.out⟩
        case measure => simp [intOf] <;> omega
      · rw [if_neg h0, ← HM.out] at hstep
        have HS := Lib.hid hstep; have HLEN := Lib.hid hlen
        clear hsx hx hstep hlen
        go_wp2_with (at_builtin; refine wpI_app wr rfl _ _ rfl w ((m : Int) + 1) HX.out.1 rfl rfl HX.out.2 (by rw [HLEN.out]; omega) ?_; intro v4 w4 ho4 hb4 hk4 hs4 hw4; have HO4 := Lib.hid ho4; have HB4 := Lib.hid hb4; clear ho4 hb4 hk4 hs4 hw4)
        go_roundw
        case rel => exact ⟨k + 1, m + 1, by omega, by omega, by go_num, by go_num, Lib.hid (by rw [HS.out]), by rw [HS.out]; exact HO4.out, HB4.out⟩
        case measure => simp [intOf] <;> omega
    · obtain rfl : k = N := by omega
      go_wp2_with fail
      go_ret
      refine ⟨_, rfl, ?_, HX.out.2⟩
      unfold fmL
      rw [← HN.out]
      exact HX.out.1

/-! ### Arrays of sixty numbers -/
abbrev fvA (xs : List Int) : Array Value := (ivs xs).toArray
def aggF (xs : List Int) : Value := .agg (fvA xs)
def zF : List Int := List.replicate 60 0
theorem fvA_size (xs : List Int) : (fvA xs).size = xs.length := by simp [fvA, ivs]
theorem fvA_one (xs : List Int) : (fvA xs).all (·.oneCell') = true := by
  refine all_oneCell_toArray (fun v hv => ?_)
  simp only [ivs, List.mem_map] at hv
  obtain ⟨n, _, rfl⟩ := hv
  rfl
def BlkF (w : World) (g : Nat) (xs : List Int) : Prop := w.heap[g]? = some (.cells (fvA xs) 51 (0, 0)) ∧ xs.length = 60
theorem blkF_lt {w : World} {g : Nat} {xs : List Int} (h : BlkF w g xs) : g < w.heap.size := (Array.getElem?_eq_some_iff.1 h.1).1
theorem blkF_cell {w : World} {g : Nat} {xs : List Int} (h : BlkF w g xs) {i : Nat} {n : Int} (hi : xs[i]? = some n) : w.cell? ⟨g, i, none⟩ = some (.int .i64 n) := by
  rw [cell_of_row w g i _ _ _ h.1]
  simp [fvA, ivs, hi]
theorem blkF_frozen {w : World} {g : Nat} {xs : List Int} (h : BlkF w g xs) (i : Nat) : w.frozen? ⟨g, i, none⟩ = false := frozen_of_row w g i _ _ h.1
theorem blkF_set {w : World} {g : Nat} {xs : List Int} (h : BlkF w g xs) (i : Nat) (n : Int) : BlkF (w.setCell ⟨g, i, none⟩ (.int .i64 n)) g (xs.set i n) := by
  refine ⟨?_, by simpa using h.2⟩
  rw [heap_setCell_same w g i _ _ _ h.1]
  congr 2
  apply Array.ext'
  simp [fvA, ivs, List.map_set]
theorem blkF_keep {w w' : World} {g : Nat} {xs : List Int} (h : BlkF w g xs) (e : w'.heap[g]? = w.heap[g]?) : BlkF w' g xs := ⟨e.trans h.1, h.2⟩
theorem blkF_below {w w' : World} {g : Nat} {xs : List Int} (h : BlkF w g xs) (hb : Below w.heap.size w w') : BlkF w' g xs := blkF_keep h (hb.block g (blkF_lt h))
theorem under_form : Try.prog.underlying 51 = some (.array 60 3) := by kernel_rfl
theorem info_form : (Try.prog.info? 51).map (·.size) = some 60 := by kernel_rfl
theorem info_formZ : (Try.prog.info? 51).map (fun i => (i.zero, i.size)) = some (some (.agg (Array.replicate 60 (.int .i64 0))), 60) := by kernel_rfl
theorem built_form : Try.prog.built 51 [] = some (Array.replicate 60 (.int .i64 0)) := by kernel_rfl
theorem fvA_zero : fvA zF = Array.replicate 60 (.int .i64 0) := by
  unfold fvA ivs zF
  rw [List.map_replicate]
  exact List.toArray_replicate _ _
theorem zero_form (W : World) : (zeroValue 51).run Try.prog W = .ok (.agg (fvA zF)) W := by
  obtain ⟨i4, hi4, hb4⟩ := Option.map_eq_some_iff.1 info_formZ
  simp only [Prod.mk.injEq] at hb4
  obtain ⟨hz4, hs4⟩ := hb4
  rw [← fvA_zero] at hz4
  simp [zeroValue, typeInfo, hi4, hz4]
theorem wpList_getF {w : World} {ops : Array Oper} {rest : List Oper} {o : Oper} {a : Act} {Q : Exit → Act → World → Prop} (hgd : o.guard = none) (x : Operand) (ho : o.op = .load 51 x)
    (g : Nat) (hx : a.eval x = .pointer (some ⟨g, 0, none⟩)) (xs : List Int) (h : BlkF w g xs) (hK : wpList Try.prog ops Q rest (a.put o.dst (aggF xs)) w) : wpList Try.prog ops Q (o :: rest) a w :=
  wpList_load_row hgd 51 x ho g hx _ _ _ _ h.1 under_form rfl (by rw [fvA_size, h.2]; exact info_form) hK
theorem run_putF {w : World} {g : Nat} {us ts : List Int} (h : BlkF w g us) (hl : ts.length = 60) :
    (storeVar 51 ⟨g, 0, none⟩ (aggF ts)).run Try.prog w = .ok () (w.setRow g (fvA ts)) :=
  run_storeVar_row w g 51 51 (fvA us) (fvA ts) h.1 (by rw [fvA_size, hl]; exact info_form) (by rw [fvA_size, fvA_size, h.2, hl]) (fvA_one ts)
theorem wpList_putF {w : World} {ops : Array Oper} {rest : List Oper} {o : Oper} {a : Act} {Q : Exit → Act → World → Prop} (hgd : o.guard = none) (x y : Operand) (ho : o.op = .store 51 x y)
    (g : Nat) (hx : a.eval x = .pointer (some ⟨g, 0, none⟩)) (us ts : List Int) (hy : a.eval y = aggF ts) (h : BlkF w g us) (hl : ts.length = 60)
    (hK : ∀ w', BlkF w' g ts → (∀ k, k ≠ g → w'.heap[k]? = w.heap[k]?) → (∀ B, B ≤ g → Below B w w') → w'.heap.size = w.heap.size → wpList Try.prog ops Q rest (a.put o.dst undef) w') : wpList Try.prog ops Q (o :: rest) a w :=
  wpList_plain hgd fun K hK' => by
    unfold Oper.wp execOp
    simp only [ho, hx, hy, Instr.storeAt, Instr.sureAddr, Sem.run_bind, Sem.run_pure, Result.andThen_ok, run_putF h hl]
    refine hK' _ _ (hK _ ⟨setRow_heap w g _ _ _ _ h.1, hl⟩ (fun k hk => setRow_other w g k _ hk) (fun B hB => ⟨rfl, rfl, rfl, by simp [World.setRow], fun k hk => setRow_other w g k _ (by omega)⟩) (by simp [World.setRow]))
theorem results_formT {fn : Func} {p t : Tmp} (h : fn.results = #[.cell p 51, .tmp t]) (tmps : Array Value) (w : World) (g : Nat) (ts : List Int)
    (hp : tmps.getD p undef = .pointer (some ⟨g, 0, none⟩)) (hg : BlkF w g ts) : (results fn tmps).run Try.prog w = .ok (.tuple #[aggF ts, tmps.getD t undef]) w := by
  have hp' : tmps[p]?.getD undef = .pointer (some ⟨g, 0, none⟩) := by simpa using hp
  have hl := run_loadVar_row (P := Try.prog) w g 51 51 (fvA ts) (0, 0) _ hg.1 under_form rfl (by rw [fvA_size, hg.2]; exact info_form)
  simp [results, h, hp', asAddr, hl, aggF]

/-- A list with zeros behind it. -/
def padF (xs : List Int) : List Int := xs ++ List.replicate (60 - xs.length) 0
theorem padF_len {xs : List Int} (h : xs.length ≤ 60) : (padF xs).length = 60 := by simp [padF]; omega
theorem padF_nil : padF [] = zF := rfl
theorem padF_snoc {xs : List Int} (x : Int) (h : xs.length < 60) : (padF xs).set xs.length x = padF (xs ++ [x]) := by
  unfold padF
  obtain ⟨m, hm⟩ : ∃ m, 60 - xs.length = m + 1 := ⟨59 - xs.length, by omega⟩
  have hm2 : 60 - (xs ++ [x]).length = m := by simp; omega
  rw [hm, hm2, List.replicate_succ, List.set_append_right _ _ (Nat.le_refl _)]
  simp
theorem padF_at {xs : List Int} {i : Nat} (h : i < xs.length) : (padF xs)[i]? = some xs[i] := by simp [padF, List.getElem?_append_left, h]
theorem padF_end {xs : List Int} (h : xs.length < 60) : ∃ y, (padF xs)[xs.length]? = some y := ⟨_, List.getElem?_eq_getElem (by rw [padF_len (by omega)]; exact h)⟩
theorem padF_take (xs : List Int) : (padF xs).take xs.length = xs := by simp [padF]
theorem padF_inj {xs ys : List Int} (h : xs.length = ys.length) : padF xs = padF ys ↔ xs = ys := by
  constructor
  · intro e
    have := congrArg (List.take xs.length) e
    rw [padF_take] at this
    rwa [h, padF_take] at this
  · rintro rfl; rfl
end Go.Proofs.Ytpglkgpaaflikaa
