/- The program's talliesUpTo: an iterator with an odometer in an array of its own. -/
import Derived.Test.YtkdoghopbefjfaaQ4
import Derived.Test.YtkdoghopbefjfaaK1
import Derived.Test.YtkdoghopbefjfaaU6
import Derived.Deep.MidRow
import Derived.Deep.LoopGhost
namespace Go.Proofs.Ytkdoghopbefjfaa
open Go.RowKit Go.BigFrame Go.Shelf
set_option linter.unusedSimpArgs false
set_option linter.unusedVariables false
set_option maxRecDepth 4000
attribute [local go_sem] Oper.semAt_some

def BoxN (B1 B2 B3 n mo sm : Nat) (w : World) : Prop := w.cell? ⟨B1, 0, none⟩ = some (.int .i64 (n : Int)) ∧ w.cell? ⟨B2, 0, none⟩ = some (.int .i64 (mo : Int)) ∧ w.cell? ⟨B3, 0, none⟩ = some (.int .i64 (sm : Int))
theorem boxN_other {B1 B2 B3 n mo sm : Nat} {w w' : World} (h : BoxN B1 B2 B3 n mo sm w) (hk : ∀ k, (k = B1 ∨ k = B2 ∨ k = B3) → w'.heap[k]? = w.heap[k]?) : BoxN B1 B2 B3 n mo sm w' :=
  ⟨(World.cell?_of_block (hk B1 (.inl rfl))).trans h.1, (World.cell?_of_block (hk B2 (.inr (.inl rfl)))).trans h.2.1, (World.cell?_of_block (hk B3 (.inr (.inr rfl)))).trans h.2.2⟩
theorem boxN_lt {B1 B2 B3 n mo sm : Nat} {w : World} (h : BoxN B1 B2 B3 n mo sm w) : B1 < w.heap.size ∧ B2 < w.heap.size ∧ B3 < w.heap.size :=
  ⟨World.block_lt_of_cell? w _ h.1, World.block_lt_of_cell? w _ h.2.1, World.block_lt_of_cell? w _ h.2.2⟩
theorem boxN_below {B1 B2 B3 n mo sm : Nat} {w w' : World} (h : BoxN B1 B2 B3 n mo sm w) (hb : Below w.heap.size w w') : BoxN B1 B2 B3 n mo sm w' :=
  boxN_other h (fun k hk => hb.block k (by have := boxN_lt h; rcases hk with rfl | rfl | rfl <;> omega))
/-- The three boxes and one block more lie as they lay. -/
def KeepsFour (B1 B2 B3 m : Nat) (W W' : World) : Prop := ∀ k, (k = B1 ∨ k = B2 ∨ k = B3 ∨ k = m) → W'.heap[k]? = W.heap[k]?
theorem pad_clear (q : List Nat) (x : Nat) (h : q.length < 9) : (pad (q ++ [x])).set q.length 0 = pad q := by
  rw [pad_snoc q x h, List.set_set]
  have := pad_at q h
  apply List.ext_getElem? 
  intro i
  rw [List.getElem?_set]
  split
  · rename_i e; subst e
    rw [this]; simp [(List.getElem?_eq_some_iff.1 this).1]
  · rfl
theorem pad_last (q : List Nat) (x : Nat) (h : q.length < 9) : (pad (q ++ [x]))[q.length]? = some x := by
  rw [pad_snoc q x h, List.getElem?_set_self (by rw [pad_len q (by omega)]; exact h)]
theorem pad_up (q : List Nat) (x m : Nat) (h : q.length < 9) (hm : q.length + 1 + m ≤ 9) : (pad (q ++ [x])).set q.length (x + 1) = pad (q ++ (x + 1) :: List.replicate m 0) := by
  rw [pad_snoc q x h, List.set_set, ← pad_snoc q (x + 1) h]
  unfold pad
  simp only [List.length_append, List.length_cons, List.length_nil, List.length_replicate, List.append_assoc, List.cons_append, List.nil_append, List.replicate_append_replicate]
  congr 3; omega
theorem wpListIn_getT {F : Fence} {n : Nat} {w : World} {ops : Array Oper} {rest : List Oper} {o : Oper} {a : Act} {Q : Exit → Act → World → Prop} (hgd : o.guard = none) (x : Operand) (ho : o.op = .load 65 x)
    (g : Nat) (hx : a.eval x = .pointer (some ⟨g, 0, none⟩)) (ts : List Nat) (h : BlkT w g ts) (hK : wpListIn F n Try.prog ops Q rest (a.put o.dst (aggT ts)) w) : wpListIn F n Try.prog ops Q (o :: rest) a w := by
  refine wpListIn_plain hgd fun K hK' => ?_
  have hrun : (loadVar 65 ⟨g, 0, none⟩).run Try.prog w = .ok (aggT ts) w := run_loadVar_row w g _ _ _ _ _ h.1 under_tally rfl (by rw [tvA_size, h.2]; exact info_tally)
  unfold Oper.wpIn
  refine ⟨by simp [Oper.about, ho], ?_⟩
  rw [Oper.semAt_plain F _ _ (by rw [ho]; intro c hc; cases hc)]
  simp [execOp, ho, hx, Instr.loadAt, Instr.sureAddr, hrun, Sem.run_bind, Sem.run_pure, Result.andThen]
  exact hK' _ _ hK
theorem wpListIn_putT {F : Fence} {n : Nat} {w : World} {ops : Array Oper} {rest : List Oper} {o : Oper} {a : Act} {Q : Exit → Act → World → Prop} (hgd : o.guard = none) (x y : Operand) (ho : o.op = .store 65 x y)
    (g : Nat) (hx : a.eval x = .pointer (some ⟨g, 0, none⟩)) (us ts : List Nat) (hy : a.eval y = aggT ts) (h : BlkT w g us) (hl : ts.length = 9)
    (hK : ∀ w', BlkT w' g ts → (∀ k, k ≠ g → w'.heap[k]? = w.heap[k]?) → (∀ B, B ≤ g → Below B w w') → w'.heap.size = w.heap.size → wpListIn F n Try.prog ops Q rest (a.put o.dst undef) w') : wpListIn F n Try.prog ops Q (o :: rest) a w := by
  refine wpListIn_plain hgd fun K hK' => ?_
  have hrun := run_putT h hl
  unfold Oper.wpIn
  refine ⟨by simp [Oper.about, ho], ?_⟩
  rw [Oper.semAt_plain F _ _ (by rw [ho]; intro c hc; cases hc)]
  simp only [execOp, ho, hx, hy, Instr.storeAt, Instr.sureAddr, hrun, Sem.run_bind, Sem.run_pure, Result.andThen_ok]
  exact hK' _ _ (hK _ ⟨setRow_heap w g _ _ _ _ h.1, hl⟩ (fun k hk => setRow_other w g k _ hk) (fun B hB => ⟨rfl, rfl, rfl, by simp [World.setRow], fun k hk => setRow_other w g k _ (by omega)⟩) (by simp [World.setRow]))
def tyEnc (x : List Nat) : Array Value := #[aggT (pad x)]
/-- A step that turns block g alone. -/
theorem grown_of_below {g B : Nat} {A C : World} (hb : Below B A C) (ho : ∀ k, k ≠ g → C.heap[k]? = A.heap[k]?) : A.grownBy C (some g) :=
  ⟨hb.os, hb.tape, hb.output, hb.size, fun k _ hne => ho k (fun e => hne (by rw [e]))⟩
theorem grown_of_below' {A C : World} (hb : Below A.heap.size A C) : A.grownBy C none :=
  ⟨hb.os, hb.tape, hb.output, hb.size, fun k hk _ => hb.block k hk⟩

set_option maxRecDepth 100000 in
set_option maxHeartbeats 800000 in
theorem tallies_in (nn : Nat) (hnn : 1 ≤ nn) (n mo sm : Nat) (h1 : 1 ≤ n) (h9 : n ≤ 9) (hmo : mo ≤ 9) (hsm : sm ≤ 100) (lp B1 B2 B3 : Nat) (all : List (List Nat)) (hall : all = aftP mo 0 (List.replicate n 0) sm) (W : World)
    (J : List (List Nat) → World → Prop) (hJ : ∀ s A B row, J s A → A.grownBy B row → (∀ r, row = some r → r = W.heap.size) → J s B)
    (hY : ∀ pre x W1, J pre W1 → W.heap.size < W1.heap.size → pre.length < all.length → x.length = n → (∀ y ∈ x, y ≤ mo) → YieldAt Fence.wide (nn - 1) Try.prog lp (tyEnc x) W1 fun e W' =>
      e = .returned (.bool true) ∧ J (pre ++ [x]) W' ∧ KeepsFour B1 B2 B3 W.heap.size W1 W' ∧ W1.heap.size ≤ W'.heap.size)
    (hB : BoxN B1 B2 B3 n mo sm W) (h0 : J [] W) :
    CallsIn Fence.wide nn Try.prog 100 #[.func (.yield lp) #[] #[], .pointer (some ⟨B1, 0, none⟩), .pointer (some ⟨B2, 0, none⟩), .pointer (some ⟨B3, 0, none⟩)] W fun e W' => (∃ v, e = .returned v) ∧ J all W' := by
  obtain ⟨g, hg⟩ : ∃ g, g = W.heap.size := ⟨_, rfl⟩
  have hBg : ∀ k, (k = B1 ∨ k = B2 ∨ k = B3) → k ≠ g := fun k hk => by have := boxN_lt hB; rcases hk with rfl | rfl | rfl <;> omega
  rw [← hg] at hJ hY
  have hJs : ∀ s A i v, J s A → J s (A.setCell ⟨g, i, none⟩ v) := fun s A i v h => hJ s A _ (some g) h ⟨rfl, rfl, rfl, by simp [World.setCell], fun k _ hne => (Below.heap_setCell _ _ _ _ (fun e => hne (by rw [e])))⟩ (fun r e => by cases e; rfl)
  have hJb : ∀ s A C, J s A → Below A.heap.size A C → J s C := fun s A C h hb => hJ s A C none h (grown_of_below' hb) (fun r e => by cases e)
  have HJ := Lib.hid hJ; have HJS := Lib.hid hJs; have HJB := Lib.hid hJb; have HY := Lib.hid hY; have HB := Lib.hid hB; have HBG := Lib.hid hBg; have HA := Lib.hid hall; have H0 := Lib.hid h0; have HG := Lib.hid hg
  clear hJ hJs hJb hY hB hBg hall h0
  refine callsIn_wide.2 ?_
  have hb1 := HB.out.1
  go_enter Try.func100, Try.ntmps100
  go_wp2_with (refine wpList_putT rfl _ _ rfl W.heap.size rfl zeros9 zeros9 rfl ⟨heap_alloc_new _ _, rfl⟩ rfl ?_; intro w2 hB2 hoth hbb hsz2; have hbx := boxN_other HB.out (fun k hk => (hoth k (by rw [← HG.out]; exact HBG.out k hk)).trans ((below_alloc W _).block k (by have := boxN_lt HB.out; rcases hk with rfl | rfl | rfl <;> omega))); have c1 := hbx.1; have HBX := Lib.hid hbx; clear hbx)
  have hj2 : J [] w2 := HJ.out _ _ w2 (some g) (HJB.out _ _ _ H0.out (below_alloc W _)) (grown_of_below (hbb 0 (Nat.zero_le _)) (fun k hk => hoth k (by rw [← HG.out]; exact hk))) (fun r e => by cases e; rfl)
  have HJ2 := Lib.hid hj2; have HB2 := Lib.hid hB2
  clear hj2 hB2 hoth hbb hsz2 c1 hb1
  rw [← hg] at HB2 ⊢
  clear hg
  go_loopg [6] (all.length * 20 + 20) (fun κ at' wr => ∃ (q : List Nat) (done : List (List Nat)) (L : Nat), at' = .int .i64 ((L : Int) - 1) ∧ L ≤ n ∧ Hid (L = q.length ∧ (aftP mo (n - L) q sm).length * 20 + L ≤ κ ∧ (∀ y ∈ q, y ≤ mo) ∧ q.sum ≤ sm ∧ BlkT wr g (pad q) ∧ BoxN B1 B2 B3 n mo sm wr ∧ J done wr ∧ done ++ aftP mo (n - L) q sm = all))
  case atStart =>
    refine ⟨List.replicate n 0, [], n, rfl, Nat.le_refl _, by simp, ?_, fun y hy => by rw [List.eq_of_mem_replicate hy]; omega, by simp, ?_, HBX.out, HJ2.out, ?_⟩
    · rw [Nat.sub_self, ← HA.out]; omega
    · have : pad (List.replicate n 0) = zeros9 := by unfold pad; rw [List.length_replicate, List.replicate_append_replicate]; rw [show n + (9 - n) = 9 from by omega]; rfl
      rw [this]; exact HB2.out
    · rw [Nat.sub_self, ← HA.out]; rfl
  case round =>
    obtain ⟨q, done, L, rfl, hL, HX⟩ := hrel
    rcases List.eq_nil_or_concat q with rfl | ⟨q', x, rfl⟩
    · obtain rfl : L = 0 := HX.out.1
      have hend : done = all := by have := HX.out.2.2.2.2.2.2.2; simpa [aftP] using this
      have HE := Lib.hid hend; clear hend
      go_wp2_with fail
      go_end0
      exact ⟨⟨_, rfl⟩, by rw [← HE.out]; exact HX.out.2.2.2.2.2.2.1⟩
    · have hLc := HX.out.1
      rw [List.concat_eq_append] at HX hLc
      obtain ⟨M, hM⟩ : ∃ M, M = q'.length := ⟨_, rfl⟩
      obtain rfl : L = M + 1 := by rw [hLc, List.length_append, hM]; rfl
      obtain ⟨_, hκ, hqm, hqs, hblk, hbox, hjd, hdone⟩ := HX.out
      rw [show (((M + 1 : Nat)) : Int) - 1 = (M : Int) from by omega]
      have hM9 : M < 9 := by omega
      have hcx : wr.cell? ⟨g, M, none⟩ = some (.int .i64 (x : Int)) := blkT_cell hblk (by rw [hM]; exact pad_last q' x (by omega))
      have hfz := blkT_frozen hblk M
      have hc1 := hbox.1
      have hc2 := hbox.2.1
      have hc3 := hbox.2.2
      have hxm : x ≤ mo := hqm x (by simp)
      have hq'm : ∀ y ∈ q', y ≤ mo := fun y hy => hqm y (by simp [hy])
      have hq's : q'.sum + x ≤ sm := by have := hqs; rw [List.sum_append] at this; simpa using this
      have hcl : (pad (q' ++ [x])).set M 0 = pad q' := by rw [hM]; exact pad_clear q' x (by omega)
      have hmm : n - M = n - (M + 1) + 1 := by omega
      have HK := Lib.hid hκ; have HQ := Lib.hid hq'm; have HQS := Lib.hid hq's; have HBL := Lib.hid hblk; have HBO := Lib.hid hbox; have HJD := Lib.hid hjd; have HDO := Lib.hid hdone; have HCL := Lib.hid hcl; have HMM := Lib.hid hmm; have HM := Lib.hid hM
      clear HX hκ hq'm hq's hblk hbox hjd hdone hcl hmm hM hqm hqs hLc
      obtain ⟨ts, hts⟩ : ∃ ts, ts = pad (q' ++ [x]) := ⟨_, rfl⟩
      have hts9 : ts.length = 9 := by rw [hts]; exact pad_len _ (by rw [List.length_append, ← HM.out]; simp; omega)
      have hpx : ts[M]? = some x := by rw [hts, HM.out]; exact pad_last q' x (by rw [← HM.out]; omega)
      have htsum : ts.sum = q'.sum + x := by rw [hts, pad_sum, List.sum_append]; simp
      have hup : ts.set M (x + 1) = pad (q' ++ (x + 1) :: List.replicate (n - (M + 1)) 0) := by rw [hts, HM.out]; exact pad_up q' x (n - (q'.length + 1)) (by rw [← HM.out]; omega) (by rw [← HM.out]; omega)
      have hbl := HBL.out; have hcl := HCL.out
      rw [← hts] at hbl hcl
      clear HBL HCL
      have HBL := Lib.hid hbl; have HCL := Lib.hid hcl; have HTS9 := Lib.hid hts9; have HPX := Lib.hid hpx; have HTSUM := Lib.hid htsum; have HUP := Lib.hid hup
      clear hbl hcl hts9 hpx htsum hup hts hcx hfz hc1 hc2 hc3
      by_cases hxe : x = mo
      · have hback := aftP_back mo (n - (M + 1)) x q' sm (by rw [hxe]; omega)
        rw [← HMM.out] at hback
        have hbx : ((x : Int) == (mo : Int)) = true := by rw [hxe]; simp
        have HBK := Lib.hid hback; clear hback hxe
        go_wp2_with fail
        have hu52 := under_tally
        have hi52 : (Try.prog.info? 65).map (·.size) = some (tvl ts).length := by rw [tvl_len, HTS9.out]; exact info_tally
        have hrg : ∀ W, BlkT W g ts → W.rangeAt g 0 (tvl ts) := fun W h j v hv => by
          rw [Nat.zero_add, cell_of_row W _ j _ _ _ h.1]; simpa [tvA] using hv
        have hs0 : BlkT wr.drew g ts ∧ BoxN B1 B2 B3 n mo sm wr.drew := ⟨blkT_below HBL.out (below_drew _), boxN_below HBO.out (below_drew _)⟩
        refine wp_region_held_drew (S := fun w' => BlkT w' g ts ∧ BoxN B1 B2 B3 n mo sm w') (by kernel_rfl) hs0 (fun hHeld => ?_)
        refine wpAnyH_take (i := 0) (v := .int .i64 (M : Int)) rfl (by kernel_rfl) (by kernel_rfl) (by kernel_rfl) (fun _ _ _ h => h) (Or.inl ⟨by kernel_rfl, fun w hw => by first | rfl | (go_simp; done) | (go_simp; rfl) | (go_simp; intro hx; exact absurd hx (by omega))⟩) hHeld ?_
        simp only [Act.put, List.setIfInBounds_toArray, List.set_cons_zero, List.set_cons_succ]
        refine wpAnyH_take (i := 1) (v := .pointer (some ⟨g, M, none⟩)) rfl (by kernel_rfl) (by kernel_rfl) (by kernel_rfl) (fun _ _ _ h => h) (Or.inl ⟨by kernel_rfl, fun w hw => by first | rfl | (go_simp; done) | (go_simp; rfl) | (go_simp; intro hx; exact absurd hx (by omega))⟩) hHeld ?_
        simp only [Act.put, List.setIfInBounds_toArray, List.set_cons_zero, List.set_cons_succ]
        refine wpAnyH_take (i := 2) (v := .int .i64 (x : Int)) rfl (by kernel_rfl) (by kernel_rfl) (by kernel_rfl) (fun _ _ _ h => h) (Or.inl ⟨by kernel_rfl, fun w hw => by have h := blkT_cell hw.1 HPX.out; first | (go_simp; done) | (go_simp; rfl)⟩) hHeld ?_
        simp only [Act.put, List.setIfInBounds_toArray, List.set_cons_zero, List.set_cons_succ]
        refine wpAnyH_take (i := 3) (v := .int .i64 (mo : Int)) rfl (by kernel_rfl) (by kernel_rfl) (by kernel_rfl) (fun _ _ _ h => h) (Or.inl ⟨by kernel_rfl, fun w hw => by have h := hw.2.2.1; first | (go_simp; done) | (go_simp; rfl)⟩) hHeld ?_
        simp only [Act.put, List.setIfInBounds_toArray, List.set_cons_zero, List.set_cons_succ]
        refine wpAnyH_take (i := 4) (v := .bool true) rfl (by kernel_rfl) (by kernel_rfl) (by kernel_rfl) (fun _ _ _ h => h) (Or.inl ⟨by kernel_rfl, fun w hw => by first | rfl | (go_simp; done) | (go_simp; rfl) | (go_simp; intro hx; exact absurd hx (by omega))⟩) hHeld ?_
        simp only [Act.put, List.setIfInBounds_toArray, List.set_cons_zero, List.set_cons_succ]
        refine wpAnyH_take (i := 5) (v := .bool true) rfl (by kernel_rfl) (by kernel_rfl) (by kernel_rfl) (fun _ _ _ h => h) (Or.inl ⟨by kernel_rfl, fun w hw => by first | rfl | (go_simp; done) | (go_simp; rfl) | (go_simp; intro hx; exact absurd hx (by omega))⟩) hHeld ?_
        simp only [Act.put, List.setIfInBounds_toArray, List.set_cons_zero, List.set_cons_succ]
        refine wpAnyH_take (i := 6) (v := undef) rfl (by kernel_rfl) (by kernel_rfl) (by kernel_rfl) (fun _ _ _ h => h) (Or.inr ⟨by kernel_rfl, rfl⟩) hHeld ?_
        simp only [Act.put, List.setIfInBounds_toArray, List.set_cons_zero, List.set_cons_succ]
        refine wpAnyH_take (i := 7) (v := undef) rfl (by kernel_rfl) (by kernel_rfl) (by kernel_rfl) (fun _ _ _ h => h) (Or.inr ⟨by kernel_rfl, rfl⟩) hHeld ?_
        simp only [Act.put, List.setIfInBounds_toArray, List.set_cons_zero, List.set_cons_succ]
        refine wpAnyH_take (i := 8) (v := undef) rfl (by kernel_rfl) (by kernel_rfl) (by kernel_rfl) (fun _ _ _ h => h) (Or.inr ⟨by kernel_rfl, rfl⟩) hHeld ?_
        simp only [Act.put, List.setIfInBounds_toArray, List.set_cons_zero, List.set_cons_succ]
        refine wpAnyH_take (i := 9) (v := undef) rfl (by kernel_rfl) (by kernel_rfl) (by kernel_rfl) (fun _ _ _ h => h) (Or.inr ⟨by kernel_rfl, rfl⟩) hHeld ?_
        simp only [Act.put, List.setIfInBounds_toArray, List.set_cons_zero, List.set_cons_succ]
        refine wpAnyH_ready (rs := [10]) (by kernel_rfl) (by simp) (AllReadyH.cons rfl (fun K hK => ?_) AllReadyH.nil)
        go_simp
        refine hK.out _ _ hHeld (fun _ => ?_)
        clear hK K
        try simp only [Act.put, List.setIfInBounds_toArray, List.set_cons_zero, List.set_cons_succ]
        refine wpAnyH_done (by kernel_rfl) ?_ _
        clear hbx hu52 hi52 hrg hs0 hHeld
        have hfz := blkT_frozen HBL.out M
        have hcx := blkT_cell HBL.out HPX.out
        have hst := blkT_set (blkT_below HBL.out (below_drew _)) M 0
        rw [HCL.out] at hst
        have hbs := boxN_other (boxN_below HBO.out (below_drew _)) (fun k hk => Below.heap_setCell _ ⟨g, M, none⟩ (.int .i64 0) k (HBG.out k hk))
        have hjs := HJS.out _ _ M (.int .i64 0) (HJB.out _ _ _ HJD.out (below_drew _))
        have HST := Lib.hid hst; have HBS := Lib.hid hbs; have HJS2 := Lib.hid hjs
        clear hst hbs hjs
        go_wp2_with fail
        go_roundg ((aftP mo (n - M) q' sm).length * 20 + M)
        case rel => exact ⟨q', done, M, by go_num, by omega, HM.out, Nat.le_refl _, HQ.out, by have := HQS.out; omega, HST.out, HBS.out, HJS2.out, by rw [← HBK.out]; exact HDO.out⟩
        case measure => have := HK.out; rw [HBK.out] at this; omega
      · have hbx : ((x : Int) == (mo : Int)) = false := by simp; omega
        obtain ⟨S, hS⟩ : ∃ S, S = ts.sum := ⟨_, rfl⟩
        have hsum : ∀ W, Calls Try.prog 77 #[.agg (tvl ts).toArray] W fun e w' => e = .returned (.int .i64 (S : Int)) ∧ Below W.heap.size W w' := fun W => by
          rw [hS]; exact sum_any ts W HTS9.out (by rw [HTSUM.out]; have := HQS.out; omega)
        have hSx : S = q'.sum + x := by rw [hS, HTSUM.out]
        obtain ⟨sb, hsb⟩ : ∃ sb, sb = ((S : Int) == (sm : Int)) := ⟨_, rfl⟩
        have hsb' : ((S : Int) == (sm : Int)) = sb := hsb.symm
        have HSUM := Lib.hid hsum; have HSX := Lib.hid hSx; have HSB := Lib.hid hsb
        clear hsum hS hSx hsb
        go_wp2_with fail
        have hu52 := under_tally
        have hi52 : (Try.prog.info? 65).map (·.size) = some (tvl ts).length := by rw [tvl_len, HTS9.out]; exact info_tally
        have hrg : ∀ W, BlkT W g ts → W.rangeAt g 0 (tvl ts) := fun W h j v hv => by
          rw [Nat.zero_add, cell_of_row W _ j _ _ _ h.1]; simpa [tvA] using hv
        have hs0 : BlkT wr.drew g ts ∧ BoxN B1 B2 B3 n mo sm wr.drew := ⟨blkT_below HBL.out (below_drew _), boxN_below HBO.out (below_drew _)⟩
        refine wp_region_held_drew (S := fun w' => BlkT w' g ts ∧ BoxN B1 B2 B3 n mo sm w') (by kernel_rfl) hs0 (fun hHeld => ?_)
        refine wpAnyH_take (i := 0) (v := .int .i64 (M : Int)) rfl (by kernel_rfl) (by kernel_rfl) (by kernel_rfl) (fun _ _ _ h => h) (Or.inl ⟨by kernel_rfl, fun w hw => by first | rfl | (go_simp; done) | (go_simp; rfl) | (go_simp; intro hx; exact absurd hx (by omega))⟩) hHeld ?_
        simp only [Act.put, List.setIfInBounds_toArray, List.set_cons_zero, List.set_cons_succ]
        refine wpAnyH_take (i := 1) (v := .pointer (some ⟨g, M, none⟩)) rfl (by kernel_rfl) (by kernel_rfl) (by kernel_rfl) (fun _ _ _ h => h) (Or.inl ⟨by kernel_rfl, fun w hw => by first | rfl | (go_simp; done) | (go_simp; rfl) | (go_simp; intro hx; exact absurd hx (by omega))⟩) hHeld ?_
        simp only [Act.put, List.setIfInBounds_toArray, List.set_cons_zero, List.set_cons_succ]
        refine wpAnyH_take (i := 2) (v := .int .i64 (x : Int)) rfl (by kernel_rfl) (by kernel_rfl) (by kernel_rfl) (fun _ _ _ h => h) (Or.inl ⟨by kernel_rfl, fun w hw => by have h := blkT_cell hw.1 HPX.out; first | (go_simp; done) | (go_simp; rfl)⟩) hHeld ?_
        simp only [Act.put, List.setIfInBounds_toArray, List.set_cons_zero, List.set_cons_succ]
        refine wpAnyH_take (i := 3) (v := .int .i64 (mo : Int)) rfl (by kernel_rfl) (by kernel_rfl) (by kernel_rfl) (fun _ _ _ h => h) (Or.inl ⟨by kernel_rfl, fun w hw => by have h := hw.2.2.1; first | (go_simp; done) | (go_simp; rfl)⟩) hHeld ?_
        simp only [Act.put, List.setIfInBounds_toArray, List.set_cons_zero, List.set_cons_succ]
        refine wpAnyH_take (i := 4) (v := .bool false) rfl (by kernel_rfl) (by kernel_rfl) (by kernel_rfl) (fun _ _ _ h => h) (Or.inl ⟨by kernel_rfl, fun w hw => by first | rfl | (go_simp; done) | (go_simp; rfl) | (go_simp; intro hx; exact absurd hx (by omega))⟩) hHeld ?_
        simp only [Act.put, List.setIfInBounds_toArray, List.set_cons_zero, List.set_cons_succ]
        refine wpAnyH_take (i := 5) (v := .bool false) rfl (by kernel_rfl) (by kernel_rfl) (by kernel_rfl) (fun _ _ _ h => h) (Or.inl ⟨by kernel_rfl, fun w hw => by first | rfl | (go_simp; done) | (go_simp; rfl) | (go_simp; intro hx; exact absurd hx (by omega))⟩) hHeld ?_
        simp only [Act.put, List.setIfInBounds_toArray, List.set_cons_zero, List.set_cons_succ]
        refine wpAnyH_take (i := 6) (v := .agg (tvl ts).toArray) rfl (by kernel_rfl) (by kernel_rfl) (by kernel_rfl) (fun _ _ _ h => h) (yieldsIf_load_mid (by kernel_rfl) 65 _ rfl g 0 rfl (tvl ts) _ (fun w hw => hrg w hw.1) hu52 rfl hi52) hHeld ?_
        simp only [Act.put, List.setIfInBounds_toArray, List.set_cons_zero, List.set_cons_succ]
        refine wpAnyH_take (i := 8) (v := .int .i64 (sm : Int)) rfl (by kernel_rfl) (by kernel_rfl) (by kernel_rfl) (fun _ _ _ h => h) (Or.inl ⟨by kernel_rfl, fun w hw => by have h := hw.2.2.2; first | (go_simp; done) | (go_simp; rfl)⟩) hHeld ?_
        simp only [Act.put, List.setIfInBounds_toArray, List.set_cons_zero, List.set_cons_succ]
        refine wpAnyH_ready (rs := [7]) (by kernel_rfl) (by simp) (AllReadyH.cons rfl (fun K hK => ?_) AllReadyH.nil)
        go_simp
        go_at_call 77
        refine (HSUM.out _).mono ?_
        rintro e w3 ⟨rfl, hb3⟩
        have hs3 : BlkT w3 g ts ∧ BoxN B1 B2 B3 n mo sm w3 := ⟨blkT_below hs0.1 hb3, boxN_below hs0.2 hb3⟩
        refine hK.out _ _ hs3 (fun hHeld3 => ?_)
        clear hK K
        try simp only [Act.put, List.setIfInBounds_toArray, List.set_cons_zero, List.set_cons_succ]
        refine wpAnyH_take (i := 9) (v := .bool sb) rfl (by kernel_rfl) (by kernel_rfl) (by kernel_rfl) (fun _ _ _ h => h) (Or.inl ⟨by kernel_rfl, fun w hw => by first | rfl | (go_simp; done) | (go_simp; rfl) | (go_simp; intro hx; exact absurd hx (by omega))⟩) hHeld3 ?_
        simp only [Act.put, List.setIfInBounds_toArray, List.set_cons_zero, List.set_cons_succ]
        refine wpAnyH_ready (rs := [10]) (by kernel_rfl) (by simp) (AllReadyH.cons rfl (fun K hK => ?_) AllReadyH.nil)
        go_simp
        refine hK.out _ _ hHeld3 (fun _ => ?_)
        clear hK K
        try simp only [Act.put, List.setIfInBounds_toArray, List.set_cons_zero, List.set_cons_succ]
        refine wpAnyH_done (by kernel_rfl) ?_ _
        have hbr := below_trans (below_drew wr) hb3
        clear hbx hsb' hu52 hi52 hrg hs0 hHeld hHeld3 hb3
        have hfz := blkT_frozen hs3.1 M
        have hcx := blkT_cell hs3.1 HPX.out
        have HS3 := Lib.hid hs3; have HJ3 := Lib.hid (HJB.out _ _ _ HJD.out hbr); have HBR := Lib.hid hbr
        clear hs3 hbr
        cases hsbc : sb with
        | true =>
          have hSm : S = sm := by have := HSB.out; rw [hsbc] at this; simp at this; omega
          have hback := aftP_back mo (n - (M + 1)) x q' sm (by have := HSX.out; omega)
          rw [← HMM.out] at hback
          have HBK := Lib.hid hback; clear hback hsbc hSm
          have hst := blkT_set HS3.out.1 M 0
          rw [HCL.out] at hst
          have hbs := boxN_other HS3.out.2 (fun k hk => Below.heap_setCell _ ⟨g, M, none⟩ (.int .i64 0) k (HBG.out k hk))
          have hjs := HJS.out _ _ M (.int .i64 0) HJ3.out
          have HST := Lib.hid hst; have HBS := Lib.hid hbs; have HJS2 := Lib.hid hjs
          clear hst hbs hjs
          go_wp2_with fail
          go_roundg ((aftP mo (n - M) q' sm).length * 20 + M)
          case rel => exact ⟨q', done, M, by go_num, by omega, HM.out, Nat.le_refl _, HQ.out, by have := HQS.out; omega, HST.out, HBS.out, HJS2.out, by rw [← HBK.out]; exact HDO.out⟩
          case measure => have := HK.out; rw [HBK.out] at this; omega
        | false =>
          have hSm : S ≠ sm := by have := HSB.out; rw [hsbc] at this; simp at this; omega
          have hlt : x < min mo (sm - q'.sum) := by have := HSX.out; have := HQS.out; omega
          have hstep := aftP_step mo (n - (M + 1)) x q' sm hlt
          have hup := HUP.out
          obtain ⟨new, hnew⟩ : ∃ new, new = q' ++ (x + 1) :: List.replicate (n - (M + 1)) 0 := ⟨_, rfl⟩
          rw [← hnew] at hstep hup
          have hnl : new.length = n := by rw [hnew, List.length_append, List.length_cons, List.length_replicate, ← HM.out]; omega
          have hnm : ∀ y ∈ new, y ≤ mo := by
            intro y hy
            rw [hnew] at hy
            simp only [List.mem_append, List.mem_cons, List.mem_replicate] at hy
            rcases hy with hy | rfl | ⟨_, rfl⟩
            · exact HQ.out y hy
            · omega
            · omega
          have hns : new.sum ≤ sm := by rw [hnew]; simp; omega
          have hdn : done ++ new :: aftP mo 0 new sm = all := by rw [← hstep]; exact HDO.out
          have hpl : done.length < all.length := by rw [← hdn]; simp
          have hst := blkT_set HS3.out.1 M (x + 1)
          rw [hup] at hst
          have hbs := boxN_other HS3.out.2 (fun k hk => Below.heap_setCell _ ⟨g, M, none⟩ (.int .i64 ((x + 1 : Nat) : Int)) k (HBG.out k hk))
          have hjs := HJS.out _ _ M (.int .i64 ((x + 1 : Nat) : Int)) HJ3.out
          have hgl : g < (w3.setCell ⟨g, M, none⟩ (.int .i64 ((x + 1 : Nat) : Int))).heap.size := blkT_lt hst
          have hx1 : ((x : Int) + 1) = ((x + 1 : Nat) : Int) := by omega
          have HST := Lib.hid hst; have HBS := Lib.hid hbs; have HJS2 := Lib.hid hjs; have HNL := Lib.hid hnl; have HNM := Lib.hid hnm; have HNS := Lib.hid hns; have HDN := Lib.hid hdn; have HPL := Lib.hid hpl; have HSTEP := Lib.hid hstep; have HGL := Lib.hid hgl; have HX1 := Lib.hid hx1
          clear hst hbs hjs hnl hnm hns hdn hpl hstep hup hnew hgl hlt hSm hsbc hx1 HS3 HJ3 HTS9 HTSUM HUP HCL HBL HBO HJD HSUM HSX HSB
          go_upto_region 7 with (fail)
          clear hcx hfz
          rw [HX1.out]
          obtain ⟨fn, tmps, assign, body, hy, hR⟩ := HY.out done new _ HJS2.out HGL.out HPL.out HNL.out HNM.out
          unfold tyEnc aggT at hy
          clear HY
          generalize w3.setCell ⟨g, M, none⟩ (.int .i64 ((x + 1 : Nat) : Int)) = w4 at *
          refine (wpIn_wide (n := nn)).1 ?_
          gi_wp2_with (refine wpListIn_getT rfl _ rfl g rfl (pad new) HST.out ?_; unfold aggT)
          refine hR.mono ?_
          rintro e w5 ⟨rfl, hJ5, hk5, hsz5⟩
          have hb5 : BlkT w5 g (pad new) := ⟨(hk5 g (.inr (.inr (.inr rfl)))).trans HST.out.1, HST.out.2⟩
          have hbx5 := boxN_other HBS.out (fun k hk => hk5 k (by rcases hk with h | h | h; exact .inl h; exact .inr (.inl h); exact .inr (.inr (.inl h))))
          have hc1 := hbx5.1
          have HB5 := Lib.hid hb5; have HBX5 := Lib.hid hbx5; have HJ5 := Lib.hid hJ5
          clear hb5 hbx5 hJ5 hk5 hsz5 hR hy
          gi_wp2
          go_wp2_with fail
          go_roundg ((aftP mo 0 new sm).length * 20 + n)
          case rel => exact ⟨new, done ++ [new], n, by go_num, Nat.le_refl _, HNL.out.symm, by rw [Nat.sub_self]; exact Nat.le_refl _, HNM.out, HNS.out, HB5.out, HBX5.out, HJ5.out, by rw [Nat.sub_self, List.append_assoc]; exact HDN.out⟩
          case measure => have := HK.out; rw [HSTEP.out, List.length_cons] at this; omega
end Go.Proofs.Ytkdoghopbefjfaa
