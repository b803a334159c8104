/- Lists of a sequence: the program's list is filled in whatever order the map is ranged over; the model's is a copy. -/
import Derived.Test.YtakmmoplepghjaaG9
import Derived.Test.YtakmmoplepghjaaG6
namespace Go.Proofs.Ytakmmoplepghjaa
open Go.RowKit Go.BigFrame Go.Maps
set_option linter.unusedSimpArgs false
set_option linter.unusedVariables false
set_option maxRecDepth 4000

/-- The row while the map is ranged over: those places that are to come hold 0. -/
def lstL (k : Nat) (left : Lit → Bool) (f : Nat → Nat) : List Value := (List.range k).map fun i => .int .i64 ((if left (kI ((1 + i : Nat) : Int)) = true then 0 else f (1 + i) : Nat) : Int)
theorem lstL_len (k : Nat) (left : Lit → Bool) (f : Nat → Nat) : (lstL k left f).length = k := by simp [lstL]
theorem lstL_start {k : Nat} {left : Lit → Bool} (f : Nat → Nat) (hl : ∀ i : Nat, i < k → left (kI ((1 + i : Nat) : Int)) = true) : lstL k left f = List.replicate k (.int .i64 0) := by
  apply List.ext_getElem (by simp [lstL])
  intro i h1 h2
  have hi : i < k := by simpa [lstL] using h1
  simp only [lstL, List.getElem_map, List.getElem_range, List.getElem_replicate]
  rw [if_pos (hl i hi)]; rfl
theorem lstL_end {k : Nat} {left : Lit → Bool} (f : Nat → Nat) (hl : ∀ kl, left kl = false) : lstL k left f = (seqL (fun i => f (i + 1)) k).map (.int .i64) := by
  apply List.ext_getElem (by simp [lstL, seqL])
  intro i h1 h2
  simp only [lstL, seqL, List.getElem_map, List.getElem_range]
  rw [if_neg (by rw [hl]; simp), Nat.add_comm 1 i]
theorem lstL_step {k : Nat} {left : Lit → Bool} (f : Nat → Nat) (j : Nat) (hj : j < k) :
    lstL k (fun z => left z && !z.sameKey (kI ((1 + j : Nat) : Int))) f = (lstL k left f).set j (.int .i64 (f (1 + j) : Nat)) := by
  apply List.ext_getElem (by simp [lstL])
  intro i h1 h2
  have hi : i < k := by simpa [lstL] using h1
  rw [List.getElem_set]
  by_cases e : j = i
  · subst e
    rw [if_pos rfl]
    have hsame : (kI ((1 + j : Nat) : Int)).sameKey (kI ((1 + j : Nat) : Int)) = true := by simp [Lit.sameKey]
    simp only [lstL, List.getElem_map, List.getElem_range, hsame]
    simp
  · rw [if_neg e]
    have hne : (kI ((1 + i : Nat) : Int)).sameKey (kI ((1 + j : Nat) : Int)) = false := sameKey_ne (kI_ne (by omega))
    simp only [lstL, List.getElem_map, List.getElem_range, hne]
    simp

set_option maxHeartbeats 1000000 in
theorem seqList_any (w : World) (b n k : Nat) (f : Nat → Nat) (D : DataW Unit) (hown : OwnI w b n D) (hD : SeqD D 1 k f) (hf : ∀ i, i < k → f (1 + i) ≤ 3000) (hk1 : 1 ≤ k) (hk : k ≤ 4000) :
    Calls Try.prog 57 #[.map (some b)] w fun e w' => ∃ v, e = .returned v ∧ Hid (SeqRow w' w.heap.size v k (fun i => f (i + 1)) ∧ Below w.heap.size w w') := by
  obtain ⟨i0, hi, hz0, hz1, hz2⟩ := info_parts info_intG
  have hbl := hown.lt
  have hsz := hD.size
  have HD := Lib.hid hD; have HF := Lib.hid hf; have HSZ := Lib.hid hsz
  clear hD hf
  go_enter Try.func57, Try.ntmps57
  go_wp2_with (first
    | (at_len; refine wpList_len_own _ rfl _ 43 rfl 3 3 Try.underlying43 _ b n D rfl hown ?_; rw [hsz])
    | (refine wpList_make_full _ rfl _ _ 25 rfl w.heap.size 3 i0 (.int .i64 0) 1 Try.underlying25 hi hz0 hz1 .i64 .i64 (k : Int) (k : Int) k rfl rfl rfl rfl (by rw [hz2]; omega) (by unfold maxLen; omega) (Nat.le_refl _) ?_; intro w1 hrow hgr; have HROW := Lib.hid hrow; have HGR := Lib.hid hgr; clear hrow hgr)
    | (at_range; refine wpList_range_own _ rfl _ 43 rfl 3 3 lawI Try.underlying43 _ b n _ rfl (hown.kept HGR.out (by simp)) ?_; intro w0 hrg0 hg0 hs0; have HR0 := Lib.hid hrg0; have HG0 := Lib.hid hg0; clear hrg0 hg0 hs0))
  go_frame
  have hmade : (madeCells (Value.int IntKind.i64 0).cells (k * 1)).toList = lstL k (Maps.has D) f := by
    rw [lstL_start f (fun i hi => by rw [HD.out.keys]; simp; omega)]
    rw [Nat.mul_one]; exact toList_madeCells_one _ _
  have HM := Lib.hid hmade; clear hmade
  have hszw := HGR.out.size
  have hblk : w.heap.size < w1.heap.size := (HROW.out.lt _ rfl).2
  clear hsz
  go_loopw [4] (fun _ wr => ∃ (left : Lit → Bool) (cnt : Nat), Hid (wr.ranges Try.prog 3 (plainElem Try.prog 3) b w1.heap.size n D left cnt ∧ (∀ z, left z = true → Maps.has D z = true) ∧ wr.ownsRow w.heap.size 3 1 (.slice (some ⟨w.heap.size, 0, none⟩) k k) k (lstL k left f) ∧ Below w.heap.size w wr)) (fun _ wr => wr.rangeLeft b w1.heap.size)
  case atStart =>
    refine ⟨Maps.has D, Maps.size D, HR0.out, fun z h => h, ?_, ((Below.refl _ _).grown HGR.out (Nat.le_refl _) (fun j hj => by cases hj)).grown HG0.out HGR.out.size (fun j hj => by cases hj)⟩
    have := HROW.out
    rw [HM.out] at this
    exact own_block this (fun g hg => HG0.out.block g (HROW.out.lt g hg).2 (by simp))
  case round =>
    obtain ⟨left, cnt, HH⟩ := hrel
    go_wp2_with (at_next; refine wpList_next_ranges_ii _ rfl _ rfl 3 3 .i64 .i64 lawI Try.underlying3 Try.underlying3 b w1.heap.size n _ _ _ rfl HH.out.1 ?_ ?_)
    · intro _ hl0
      have he := lstL_end (k := k) f hl0
      have HE := Lib.hid he
      clear he hl0
      go_wp2_with fail
      go_ret
      exact ⟨_, rfl, by have := HH.out.2.2.1; rw [HE.out] at this; exact this, HH.out.2.2.2⟩
    · intro x c w2 cnt1 hwx hwc hlx hat hrg1 hlt hg1 hs1 hen
      obtain ⟨j, hj, rfl⟩ := HD.out.left_in HH.out.2.1 hlx
      obtain rfl := HD.out.val hj hat
      have hst := lstL_step (left := left) f j hj
      have hv9 := HF.out j hj
      have HR1 := Lib.hid hrg1; have HL := Lib.hid hlt; have HG1 := Lib.hid hg1
      have hrow2 : w2.ownsRow w.heap.size 3 1 (.slice (some ⟨w.heap.size, 0, none⟩) k k) k (lstL k left f) := own_block HH.out.2.2.1 (fun g hg => HG1.out.block g (HH.out.2.2.1.lt g hg).2 (by cases hg; simp; omega))
      obtain ⟨x0, hx0⟩ := own_cell_some hrow2 j hj
      have hfz : w2.frozen? ⟨w.heap.size, j, none⟩ = false := hrow2.frozenAt j
      obtain ⟨y, hy⟩ : ∃ y, y = f (1 + j) := ⟨_, rfl⟩
      have HST := Lib.hid hst; have HROW2 := Lib.hid hrow2
      rw [← hy] at hv9 hen HST
      rw [show ((1 + j : Nat) : Int) = (j : Int) + 1 by omega] at hen
      clear hst hrg1 hlt hg1 hs1 hat hlx hwx hwc hy hrow2
      go_wp2_with fail
      go_roundw
      case rel =>
        have hs := HROW2.out.stored j (.int .i64 (y : Nat))
        refine ⟨(fun z => left z && !z.sameKey (kI ((1 + j : Nat) : Int))), cnt1, HR1.out.kept hs.2 (fun e => ?_) (fun e => ?_), fun z hz => HH.out.2.1 z (by simp only [Bool.and_eq_true] at hz; exact hz.1), by rw [HST.out]; exact hs.1, (HH.out.2.2.2.grown HG1.out HH.out.2.2.2.size (fun j hj => by cases hj; exact hszw)).grown hs.2 ?_ (fun j hj => by cases hj; exact Nat.le_refl _)⟩
        · have := Option.some.inj e; omega
        · have := Option.some.inj e; omega
        · have := HH.out.2.2.2.size; have := HG1.out.size; omega
      case measure => rw [(HR1.out.kept (HROW2.out.stored j (.int .i64 (y : Nat))).2 (fun e => by have := Option.some.inj e; omega) (fun e => by have := Option.some.inj e; omega)).left_eq, HH.out.1.left_eq]; exact HL.out

set_option maxHeartbeats 1000000 in
theorem seqList_nil (w : World) :
    Calls Try.prog 57 #[.map none] w fun e w' => ∃ v, e = .returned v ∧ Hid (w'.ownsRow w.heap.size 3 1 v 0 [] ∧ Below w.heap.size w w') := by
  obtain ⟨i0, hi, hz0, hz1, hz2⟩ := info_parts info_intG
  have hrg := fun W => run_range_nilMap (P := Try.prog) W 43 3 3 Try.underlying43
  have hnx : ∀ (W : World) ty, (Instr.next (.pointer (some ⟨W.heap.size, 0, none⟩)) false ty).run Try.prog (W.alloc (.mapIter none 0 #[] 0)) = _ := fun W ty => run_next_nilMap W ty 0 0 #[]
  have hln := fun (W : World) ty => Maps.len_nil (w := W) Try.underlying43 ty
  go_enter Try.func57, Try.ntmps57
  go_wp2_with (refine wpList_make_full _ rfl _ _ 25 rfl w.heap.size 3 i0 (.int .i64 0) 1 Try.underlying25 hi hz0 hz1 .i64 .i64 (0 : Int) (0 : Int) 0 rfl rfl rfl rfl (by rw [hz2]; omega) (by unfold maxLen; omega) (Nat.le_refl _) ?_; intro w1 hrow hgr; have HROW := Lib.hid hrow; have HGR := Lib.hid hgr; clear hrow hgr)
  refine wp_loop_rounds 1 ?_
  rw [rounds_succ]
  go_wp2
  go_ret
  exact ⟨_, rfl, (own_below (by have h := HROW.out; rw [show (madeCells (Value.int IntKind.i64 0).cells (0 * 1)).toList = [] from toList_madeCells_one _ 0] at h; exact h) (below_alloc _ _) : (w1.alloc _).ownsRow w.heap.size 3 1 (.slice (some ⟨w.heap.size, 0, none⟩) 0 0) 0 []), ((Below.refl _ _).grown HGR.out (Nat.le_refl _) (fun j hj => by cases hj)).alloc HGR.out.size _⟩

/-! ### the model's copy -/
theorem add_plainG (b o r : Nat) : (⟨b, o, none⟩ : Addr).add r = ⟨b, o + r, none⟩ := by
  unfold Addr.add
  split
  · subst_vars; rfl
  · rfl
theorem own_copyG {w : World} {g o m : Nat} {f : Nat → Nat} (hc : ∀ j, j < m → w.cell? ⟨g, o + j, none⟩ = some (.int .i64 (f j : Nat))) : ∀ j u, ((seqL f m).map (Value.int .i64))[j]? = some u → (w.alloc (.cells #[] 3)).cell? ((⟨g, o, none⟩ : Addr).add j) = some u := by
  intro j u hj
  rw [add_plainG]
  obtain ⟨hjl, e⟩ := List.getElem?_eq_some_iff.1 hj
  have hjl' : j < m := by simpa [seqL] using hjl
  have hlt := World.block_lt_of_cell? w _ (hc j hjl')
  rw [(below_alloc w _).cell (p := ⟨g, o + j, none⟩) hlt, hc j hjl', ← e]
  simp [seqL]

set_option maxHeartbeats 1000000 in
theorem l1OwnG_any (w : World) (g o m c : Nat) (f : Nat → Nat) (h1 : 1 ≤ m) (h9 : m ≤ 4000) (hmc : m ≤ c) (hc : ∀ j, j < m → w.cell? ⟨g, o + j, none⟩ = some (.int .i64 (f j : Nat))) :
    Calls Try.prog 63 #[.slice (some ⟨g, o, none⟩) m c] w fun e w' => ∃ v, e = .returned v ∧ Hid (SeqRow w' w.heap.size v m f ∧ Below w.heap.size w w') := by
  obtain ⟨i0, hi, hz0, hz1, hz2⟩ := info_parts info_intG
  have HC := Lib.hid (own_copyG hc)
  clear hc
  go_enter Try.func63, Try.ntmps63
  go_wp2_with (at_builtin; refine wpList_app _ rfl _ _ 25 rfl w.heap.size 3 i0 (.int .i64 0) 8 Try.underlying25 hi hz0 hz1 hz2 rfl _ 0 [] rfl (own_lit w w.heap.size 3 [] (Nat.le_refl _) (by simp [maxLen])) ⟨g, o, none⟩ m c ((seqL f m).map (.int .i64)) rfl (by simp [seqL]) HC.out ?c2 ?c3 ?c4 ?c5 ?_)
  case c2 =>
    intro u hu
    simp only [List.mem_map] at hu
    obtain ⟨l, _, rfl⟩ := hu
    rfl
  case c3 => unfold maxLen; omega
  case c4 => omega
  case c5 => simp
  intro v' w3 hown' hgrow _
  have R1 := Lib.hid hown'
  have R2 := Lib.hid ((below_alloc w _).grown hgrow (by simp) (fun q hq => by cases hq; exact Nat.le_refl _))
  clear hown' hgrow
  go_wp2_with fail
  go_ret
  refine ⟨v', rfl, ?_, R2.out⟩
  exact R1.out
end Go.Proofs.Ytakmmoplepghjaa
