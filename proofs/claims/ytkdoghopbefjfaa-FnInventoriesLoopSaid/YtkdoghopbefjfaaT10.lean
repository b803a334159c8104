/- Arrays of counts are compared; the program's IsOwnInventory, and the law. -/
import Derived.Test.YtkdoghopbefjfaaT9
import Derived.ChangeKeysEq
import Derived.Deep.RegionLaw
namespace Go.Proofs.Ytkdoghopbefjfaa
open Go.RowKit Go.BigFrame
set_option linter.unusedSimpArgs false
set_option linter.unusedVariables false
set_option maxRecDepth 4000

theorem all_range9 (ts us : List Nat) (h : ts.length = 9) (h' : us.length = 9) : ((List.range 9).all fun i => ts.getD i 0 == us.getD i 0) = decide (ts = us) := by
  rw [Bool.eq_iff_iff, decide_eq_true_iff, List.all_eq_true]
  constructor
  · intro hh
    apply List.ext_getElem (by omega)
    intro i h1 h2
    have := hh i (by simp; omega)
    simpa [List.getD_eq_getElem?_getD, h1, h2] using this
  · rintro rfl i _
    simp
theorem cellsOf_int : Try.prog.cellsOf 3 = 1 := by kernel_rfl
theorem run_eqItemsT (d : Nat) (w : World) (ts us : List Nat) (h : ts.length = 9) (h' : us.length = 9) : ∀ l : List Nat, (∀ i ∈ l, i < 9) →
    (Op.eqItems (d + 1) 3 1 (tvA ts) (tvA us) l).run Try.prog w = .ok (l.all fun i => ts.getD i 0 == us.getD i 0) w
  | [], _ => by simp [Op.eqItems]
  | i :: l, hl => by
    have hi : i < 9 := hl i List.mem_cons_self
    have ih := run_eqItemsT d w ts us h h' l (fun j hj => hl j (List.mem_cons_of_mem _ hj))
    have px : (part 3 (tvA ts) (i * 1)).run Try.prog w = .ok (.int .i64 ((ts.getD i 0 : Nat) : Int)) w := by
      simp [part, isAgg, run_underlying Try.underlying3, tvA, tvl, List.getD, List.getElem?_eq_getElem (show i < ts.length by omega)]
    have py : (part 3 (tvA us) (i * 1)).run Try.prog w = .ok (.int .i64 ((us.getD i 0 : Nat) : Int)) w := by
      simp [part, isAgg, run_underlying Try.underlying3, tvA, tvl, List.getD, List.getElem?_eq_getElem (show i < us.length by omega)]
    have pe : (Op.equalIn (d + 1) 3 (.int .i64 ((ts.getD i 0 : Nat) : Int)) (.int .i64 ((us.getD i 0 : Nat) : Int))).run Try.prog w = .ok (ts.getD i 0 == us.getD i 0) w := by
      rw [run_equalIn_int w d 3 .i64 .i64 _ _ Try.underlying3]
      congr 1
      rw [Bool.eq_iff_iff]
      simp
      omega
    simp only [Op.eqItems, Sem.run_bind, px, py, pe, Result.andThen_ok, List.all_cons]
    cases hb : (ts.getD i 0 == us.getD i 0)
    · simp
    · simp only [Bool.not_true, Bool.false_eq_true, if_false, Bool.true_and]
      exact ih
theorem run_eqlT (w : World) (ts us : List Nat) (h : ts.length = 9) (h' : us.length = 9) : (binOp .eql 65 (.agg (tvA ts)) (.agg (tvA us))).run Try.prog w = .ok (.bool (decide (ts = us))) w := by
  obtain ⟨i0, hi, hz0, hz1, hz2⟩ := info_parts info_intT
  rw [run_eql_struct, run_equalIn_array w 9999 _ _ under_tally hi, cellsOf_int, run_eqItemsT 9998 w ts us h h' _ (fun i hi => by simpa using hi), all_range9 ts us h h']
  rfl

set_option maxHeartbeats 2000000 in
theorem implIsOwnInventory_any (s : ByteArray) (w : World) (hs : s.size ≤ maxLen) :
    Calls Try.prog 24 #[.string s] w fun e w' => e = .returned (.tuple #[.bool (goodL s.data.toList && isOwnL s.data.toList), .bool (goodL s.data.toList)]) ∧ Below w.heap.size w w' := by
  have h1 := fun W => toldBy_any s W hs
  have h2 := fun W => implIsWord_any s W hs
  cases ht : toldL s.data.toList with
  | none =>
    have ho : (goodL s.data.toList && isOwnL s.data.toList) = false := by
      cases hg : goodL s.data.toList with
      | false => rfl
      | true =>
        unfold isOwnL
        rw [decide_eq_false (fun e => by have := (own_iff hg).2 e; rw [ht] at this; cases this)]; rfl
    rw [ht] at h1
    simp only [Option.isSome_none, Option.getD_none] at h1
    rw [ho]
    obtain ⟨g, hg⟩ : ∃ g, g = goodL s.data.toList := ⟨_, rfl⟩
    rw [← hg] at h2 ⊢
    have H1 := Lib.hid h1; have H2 := Lib.hid h2; clear h1 h2 hg ht ho
    go_enter Try.func24, Try.ntmps24
    go_wp2_with fail
    refine (H1.out w).mono ?_
    rintro e w1 ⟨rfl, hb⟩
    have HB := Lib.hid hb; clear hb
    go_wp2_with (refine wpList_putT rfl _ _ rfl w1.heap.size rfl zeros9 zeros9 rfl ⟨heap_alloc_new _ _, rfl⟩ rfl ?_; intro w2 hB2 _ hbb _; have HB2 := Lib.hid ((below_alloc w1 _).trans (hbb _ (Nat.le_refl _))); clear hbb)
    clear hB2
    go_quiet (first | (go_at_call 19; exact Calls.quiet_of_same ((H2.out _).mono (fun _ _ ⟨h1, h2⟩ => ⟨h1, h2.symm⟩))))
    go_wp2_with fail
    go_ret2
    exact ⟨rfl, below_trans HB.out (below_trans HB2.out (belowN _ _ _))⟩
  | some ts =>
    have hg : goodL s.data.toList = true := by
      unfold toldL at ht
      split at ht
      · rename_i h; exact h
      · cases ht
    have h9 : ts.length = 9 := by have := toldD_len s.data.toList; rw [ht] at this; exact this
    have ho : isOwnL s.data.toList = decide (ts = tal s.data.toList) := by
      unfold isOwnL
      by_cases e : ts = tal s.data.toList
      · rw [decide_eq_true e, decide_eq_true ((own_iff hg).1 (by rw [ht, e]))]
      · rw [decide_eq_false e, decide_eq_false (fun h => e (by have := (own_iff hg).2 h; rw [ht] at this; exact Option.some.inj this))]
    obtain ⟨_, hl, hd⟩ := goodL_parts (s := s) hg
    have h3 := fun W => tallyText_any s W hl hd
    have heq := fun W => run_eqlT W ts (tal s.data.toList) h9 (tal_len _)
    rw [ht] at h1
    simp only [Option.isSome_some, Option.getD_some] at h1
    rw [ho]
    rw [hg] at h2 ⊢
    obtain ⟨us, hus⟩ : ∃ us, us = tal s.data.toList := ⟨_, rfl⟩
    rw [← hus] at h3 heq ⊢
    have hu9 : us.length = 9 := by rw [hus]; exact tal_len _
    have H1 := Lib.hid h1; have H2 := Lib.hid h2; have H3 := Lib.hid h3; have HEQ := Lib.hid heq; clear h1 h2 h3 hg ht ho hd hus heq
    obtain ⟨b, hb⟩ : ∃ b, b = decide (ts = us) := ⟨_, rfl⟩
    rw [← hb] at HEQ ⊢
    clear hb
    go_enter Try.func24, Try.ntmps24
    go_wp2_with fail
    refine (H1.out w).mono ?_
    rintro e w1 ⟨rfl, hb⟩
    have HB := Lib.hid hb; clear hb
    go_wp2_with (refine wpList_putT rfl _ _ rfl w1.heap.size rfl zeros9 ts rfl ⟨heap_alloc_new _ _, rfl⟩ h9 ?_; intro w2 hB2 _ hbb hsz; have HB2 := Lib.hid ((below_alloc w1 _).trans (hbb _ (Nat.le_refl _))); clear hbb)
    have HBT := Lib.hid hB2; clear hB2
    match ts, h9 with
    | [a0, a1, a2, a3, a4, a5, a6, a7, a8], _ =>
      have hlt := blkT_lt HBT.out
      have c0 := blkT_cell (i := 0) HBT.out rfl
      have c1 := blkT_cell (i := 1) HBT.out rfl
      have c2 := blkT_cell (i := 2) HBT.out rfl
      have c3 := blkT_cell (i := 3) HBT.out rfl
      have c4 := blkT_cell (i := 4) HBT.out rfl
      have c5 := blkT_cell (i := 5) HBT.out rfl
      have c6 := blkT_cell (i := 6) HBT.out rfl
      have c7 := blkT_cell (i := 7) HBT.out rfl
      have c8 := blkT_cell (i := 8) HBT.out rfl
      have heq := HEQ.out
      simp only [tvA, tvl, List.map_cons, List.map_nil] at heq
      go_region_with (first
        | (go_at_call 19; (with_reducible refine (H2.out _).mono ?_); rintro e w3 ⟨rfl, rfl⟩)
        | (go_at_call 56; (with_reducible refine (H3.out _).mono ?_); rintro e w3 ⟨rfl, hb3⟩; unfold aggT tvA tvl; try (have d0 := (hb3.cell (p := ⟨w1.heap.size, 0, none⟩) hlt).trans c0; have d1 := (hb3.cell (p := ⟨w1.heap.size, 1, none⟩) hlt).trans c1; have d2 := (hb3.cell (p := ⟨w1.heap.size, 2, none⟩) hlt).trans c2; have d3 := (hb3.cell (p := ⟨w1.heap.size, 3, none⟩) hlt).trans c3; have d4 := (hb3.cell (p := ⟨w1.heap.size, 4, none⟩) hlt).trans c4; have d5 := (hb3.cell (p := ⟨w1.heap.size, 5, none⟩) hlt).trans c5; have d6 := (hb3.cell (p := ⟨w1.heap.size, 6, none⟩) hlt).trans c6; have d7 := (hb3.cell (p := ⟨w1.heap.size, 7, none⟩) hlt).trans c7; have d8 := (hb3.cell (p := ⟨w1.heap.size, 8, none⟩) hlt).trans c8)))
      all_goals
        go_wp2_with fail
        go_ret2
        exact ⟨rfl, by first
          | exact below_trans HB.out (below_trans HB2.out (below_trans (below_drew _) hb3))⟩
end Go.Proofs.Ytkdoghopbefjfaa
