/- FnWordsSaid's helpers (pure): the one still word; how often a digit is told. (Written once out of genw20.py.) -/
import Derived.Test.YtmlghonidheidaaW17
import Derived.Test.YtmlghonidheidaaW18
import Derived.Test.YtmlghonidheidaaI19
import Derived.Test.YtmlghonidheidaaI17
import Derived.Test.YtmlghonidheidaaI6
import Derived.Test.YtmlghonidheidaaJ2
namespace Go.Proofs.Ytmlghonidheidaa
open Go.RowKit Go.BigFrame Go.Shelf Go.Deep
set_option linter.unusedSimpArgs false
set_option linter.unusedVariables false
set_option maxRecDepth 4000

theorem strOk_eqW (o : Option (List UInt8)) : strOk o = .tuple #[.string (bs (o.getD [])), .bool o.isSome] := by cases o <;> rfl
theorem bs_back (t : ByteArray) : bs t.data.toList = t := (bs_eq rfl).symm
theorem backO_eq (l : List UInt8) : strOk (backO l) = .tuple #[.string (bs ((backO l).getD [])), .bool (goodL l)] := by
  unfold backO; cases goodL l <;> rfl
theorem back_some (l : List UInt8) : (backO l).isSome = goodL l := by unfold backO; cases goodL l <;> rfl
theorem other_some (l : List UInt8) : (otherO l).isSome = (saidO l).isSome := by
  rw [← said_reverse l]; unfold otherO; cases saidO l.reverse <;> rfl
theorem rows_ints (l : List UInt8) : (if goodL l = true then rowsL l else []) = ((if goodL l = true then (runsL l).map toRow else []) : List (List Int)).map (·.map (.int .i64)) := by
  split
  · unfold rowsL; rw [List.map_map]; rfl
  · rfl

theorem bs_two (l : List UInt8) : ((bs l).toList == [50, 50]) = decide (l = [50, 50]) := by
  rw [Go.Lib.toList_data, bs_list]
  by_cases h : l = [50, 50]
  · simp [h]
  · rw [decide_eq_false h]; simpa using h
theorem bs_neS {a b : List UInt8} : ((bs a).toList == (bs b).toList) = decide (a = b) := by
  rw [Go.Lib.toList_data, Go.Lib.toList_data, bs_list, bs_list, Bool.eq_iff_iff]; simp
theorem said_ok {l m : List UInt8} (h : saidO l = some m) : m = sayL l ∧ (∀ p ∈ runsL l, RunOk p) ∧ goodL l = true ∧ speakL l = true := by
  obtain ⟨hg1, hg2⟩ := saidO_good h
  unfold saidO at h
  split at h
  · rename_i hc
    have hs := hc.1
    cases h
    have hsp := hc.1
    unfold speakL at hs
    rw [Bool.and_eq_true, decide_eq_true_eq] at hs
    have hdig := (good_parts hg2).1
    refine ⟨rfl, fun p hp => ?_, hg2, hsp⟩
    obtain ⟨a1, a2, a3⟩ := (good_runs hdig).1 p hp
    have := le_longR' hp
    have hs2 : longR (runsL l) ≤ 9 := hs.2
    exact ⟨a1, a2, a3, by omega⟩
  · cases h
theorem still_test (wt : ByteArray) (l : List UInt8) (hg : goodL l = true) (hl : l = wt.data.toList) (Sb : Bool) (h : Sb = (goodL l && stillB wt)) : (wt.toList == [50, 50]) = Sb := by
  have hw : wt = bs l := by rw [hl]; exact (bs_back wt).symm
  have h2s : sayL [50, 50] = [50, 50] := by
    show sayR [((50 : UInt8), 2)] = _
    unfold sayR
    rw [List.flatMap_cons, sayP_two ⟨by decide, by decide, by decide, by decide⟩]; rfl
  have h22 : saidO [50, 50] = some [50, 50] := by
    unfold saidO
    rw [h2s, if_pos ⟨by decide, by decide⟩]
  rw [h, hg, Bool.true_and]
  unfold stillB
  rw [← hl, hw, bs_two]
  cases hm : saidO l with
  | none =>
    have : l ≠ [50, 50] := by intro e; rw [e, h22] at hm; cases hm
    rw [decide_eq_false this]; rfl
  | some m =>
    show _ = ((bs m).toList == (bs l).toList)
    rw [bs_neS]
    by_cases e : l = [50, 50]
    · rw [e, h22] at hm
      cases hm
      rw [e]
    · rw [decide_eq_false e]
      symm
      apply decide_eq_false
      intro em
      apply e
      obtain ⟨h1, h2, _⟩ := said_ok hm
      have hne : runsL l ≠ [] := runs_ne (by intro e0; rw [e0] at hg; cases hg)
      have := still_runs (runsL l) h2 (fun k hk => adj_runs l k _ _ (List.getElem?_eq_getElem (by omega)) (List.getElem?_eq_getElem hk)) hne (by rw [flat_runsW]; exact h1.symm.trans em)
      rw [← flat_runsW l, this]; rfl
/-- How often a digit is told by the runs that are said. -/
def spokenN (rs : List (UInt8 × Nat)) (c : UInt8) : Nat := (rs.map fun p => if p.1 = c then p.2 else 0).sum
theorem spokenN_succ (rs : List (UInt8 × Nat)) (c : UInt8) (k : Nat) (h : k < rs.length) : spokenN (rs.take (k + 1)) c = spokenN (rs.take k) c + (if rs[k].1 = c then rs[k].2 else 0) := by
  unfold spokenN
  rw [List.take_succ_eq_append_getElem h, List.map_append, List.sum_append]; simp
theorem spokenN_flat (rs : List (UInt8 × Nat)) (c : UInt8) : spokenN rs c = (flatP rs).count c := (count_flat c rs).symm

end Go.Proofs.Ytmlghonidheidaa
