/- Arrays of counts are compared; the program's IsOwnInventory, and the law. -/
import Derived.Test.YtaagfcdniacmnabT9
import Derived.ChangeKeysEq
import Derived.Deep.RegionLaw
namespace Go.Proofs.Ytaagfcdniacmnab
open Go.RowKit Go.BigFrame
set_option linter.unusedSimpArgs false
set_option linter.unusedVariables false
set_option maxRecDepth 4000

theorem all_range9 (ts us : List Nat) (h : ts.length = 9) (h' : us.length = 9) : ((List.range 9).all fun i => ts.getD i 0 == us.getD i 0) = decide (ts = us) := by
  rw [Bool.eq_iff_iff, decide_eq_true_iff, List.all_eq_true]
  constructor
  · intro hh
    apply List.ext_getElem (by omega)
    intro i h1 h2
    have := hh i (by simp; omega)
    simpa [List.getD_eq_getElem?_getD, h1, h2] using this
  · rintro rfl i _
    simp
theorem cellsOf_int : Try.prog.cellsOf 3 = 1 := by kernel_rfl
theorem run_eqItemsT (d : Nat) (w : World) (ts us : List Nat) (h : ts.length = 9) (h' : us.length = 9) : ∀ l : List Nat, (∀ i ∈ l, i < 9) →
    (Op.eqItems (d + 1) 3 1 (tvA ts) (tvA us) l).run Try.prog w = .ok (l.all fun i => ts.getD i 0 == us.getD i 0) w
  | [], _ => by simp [Op.eqItems]
  | i :: l, hl => by
    have hi : i < 9 := hl i List.mem_cons_self
    have ih := run_eqItemsT d w ts us h h' l (fun j hj => hl j (List.mem_cons_of_mem _ hj))
    have px : (part 3 (tvA ts) (i * 1)).run Try.prog w = .ok (.int .i64 ((ts.getD i 0 : Nat) : Int)) w := by
      simp [part, isAgg, run_underlying Try.underlying3, tvA, tvl, List.getD, List.getElem?_eq_getElem (show i < ts.length by omega)]
    have py : (part 3 (tvA us) (i * 1)).run Try.prog w = .ok (.int .i64 ((us.getD i 0 : Nat) : Int)) w := by
      simp [part, isAgg, run_underlying Try.underlying3, tvA, tvl, List.getD, List.getElem?_eq_getElem (show i < us.length by omega)]
    have pe : (Op.equalIn (d + 1) 3 (.int .i64 ((ts.getD i 0 : Nat) : Int)) (.int .i64 ((us.getD i 0 : Nat) : Int))).run Try.prog w = .ok (ts.getD i 0 == us.getD i 0) w := by
      rw [run_equalIn_int w d 3 .i64 .i64 _ _ Try.underlying3]
      congr 1
      rw [Bool.eq_iff_iff]
      simp
      omega
    simp only [Op.eqItems, Sem.run_bind, px, py, pe, Result.andThen_ok, List.all_cons]
    cases hb : (ts.getD i 0 == us.getD i 0)
    · simp
    · simp only [Bool.not_true, Bool.false_eq_true, if_false, Bool.true_and]
      exact ih
theorem run_eqlT (w : World) (ts us : List Nat) (h : ts.length = 9) (h' : us.length = 9) : (binOp .eql 58 (.agg (tvA ts)) (.agg (tvA us))).run Try.prog w = .ok (.bool (decide (ts = us))) w := by
  obtain ⟨i0, hi, hz0, hz1, hz2⟩ := info_parts info_intT
  rw [run_eql_struct, run_equalIn_array w 9999 _ _ under_tally hi, cellsOf_int, run_eqItemsT 9998 w ts us h h' _ (fun i hi => by simpa using hi), all_range9 ts us h h']
  rfl

end Go.Proofs.Ytaagfcdniacmnab
