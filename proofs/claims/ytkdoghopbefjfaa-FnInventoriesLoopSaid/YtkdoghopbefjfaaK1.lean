/- The runs of a text told one by one: the program's runParts. -/
import Derived.Test.YtkdoghopbefjfaaR1
import Derived.RangeFuncNested
import Derived.RangeFuncBound
import Derived.RangeFuncCalls
import Derived.RangeFuncLeaves
import Derived.RangeFuncBox
import Derived.Shelf.Abstract
import Derived.Shelf.RegionOpen
import Derived.WalkKit
import Derived.OwnWalkIn
import Derived.TacticsInMore
import Derived.LoopNIn
import Derived.LoopIn
import Derived.Maps.AppendAt
import Derived.BigQuiet
import Derived.Deep.QuietTactic
import Derived.Deep.DeepCutAuto
namespace Go.Proofs.Ytkdoghopbefjfaa
open Go.RowKit Go.BigFrame Go.Shelf
set_option linter.unusedSimpArgs false
set_option linter.unusedVariables false
set_option maxRecDepth 4000
attribute [local go_sem] Oper.semAt_some

/-- How many digits runs have together. -/
def cntR (rs : List (UInt8 × Nat)) : Nat := (rs.map (·.2)).sum
theorem cntR_snoc (rs : List (UInt8 × Nat)) (d : UInt8) (n : Nat) : cntR (rs ++ [(d, n)]) = cntR rs + n := by simp [cntR]
/-- The first m places of N. -/
def upF (N m : Nat) : List (Fin N) := (List.finRange N).take m
theorem upF_succ {N m : Nat} (h : m < N) : upF N (m + 1) = upF N m ++ [⟨m, h⟩] := by
  unfold upF
  rw [List.take_succ_eq_append_getElem (by simpa using h)]
  simp
theorem upF_len {N m : Nat} (h : m ≤ N) : (upF N m).length = m := by
  unfold upF; rw [List.length_take, List.length_finRange]; omega
theorem upF_zero (N : Nat) : upF N 0 = [] := rfl
/-- Two blocks lie as they lay. -/
def KeepsTwo (p q : Nat) (W W' : World) : Prop := W'.heap[p]? = W.heap[p]? ∧ W'.heap[q]? = W.heap[q]?
theorem keepsTwo_t {p q : Nat} {A B C : World} (h : KeepsTwo p q A B) (k : KeepsTwo p q B C) : KeepsTwo p q A C := ⟨k.1.trans h.1, k.2.trans h.2⟩
theorem keepsTwo_refl (p q : Nat) (W : World) : KeepsTwo p q W W := ⟨rfl, rfl⟩
theorem keepsTwo_b {p q m : Nat} (hp : p < m) (hq : q < m) (W : World) (l : Nat) (o o' : Obj) (hl : m ≤ l) (_ : W.heap[l]? = some o) (_ : o.isCells = false) (_ : o.isWalk = false) : KeepsTwo p q W (W.putObj l o') :=
  ⟨World.putObj_heap_other (by omega), World.putObj_heap_other (by omega)⟩
theorem keepsTwo_below {p q m : Nat} {W W' : World} (hb : Below m W W') (hp : p < m) (hq : q < m) : KeepsTwo p q W W' := ⟨hb.block p hp, hb.block q hq⟩
/-- The part of block b that is run k. -/
def partEnc (b : Nat) (rs : List (UInt8 × Nat)) (k : Fin rs.length) : Array Value := #[.slice (some ⟨b, cntR (rs.take k), none⟩) rs[k].2 rs[k].2]

theorem runs_close {l : List UInt8} {k m q : Nat} {d : UInt8} {rs : List (UInt8 × Nat)} (hrs : rs = runsL l) (hm : m < rs.length) (h : runsL (l.take k) = rs.take m ++ [(d, q)])
    (hc : k = l.length ∨ ∃ h2 : k < l.length, l[k] ≠ d) : rs[m]? = some (d, q) ∧ (k = l.length → m + 1 = rs.length) ∧ (k < l.length → m + 1 < rs.length) := by
  rcases hc with hk | ⟨h2, hne⟩
  · have e : rs = rs.take m ++ [(d, q)] := by rw [← h, hrs, List.take_of_length_le (by omega)]
    have hl : rs.length = m + 1 := by
      have := congrArg List.length e
      rw [List.length_append, List.length_take, Nat.min_eq_left (Nat.le_of_lt hm)] at this
      simpa using this
    refine ⟨?_, fun _ => by omega, fun hx => by omega⟩
    rw [e, List.getElem?_append_right (by rw [List.length_take]; omega), List.length_take, Nat.min_eq_left (Nat.le_of_lt hm), Nat.sub_self]; rfl
  · have hp : (runsL (l.take (k + 1))).dropLast <+: runsL l := runs_prefix (List.take_prefix _ _)
    have e1 : runsL (l.take (k + 1)) = rs.take m ++ [(d, q)] ++ [(l[k], 1)] := by
      rw [List.take_succ_eq_append_getElem h2, runsL_snoc, h, stepRun_other _ _ _ _ (fun e => hne e.symm)]
    have h3 : rs.take m ++ [(d, q)] ++ [(l[k], 1)] <+: runsL (l.take (k + 1)) := by rw [e1]; exact List.prefix_refl _
    have hlen : (rs.take m).length = m := by rw [List.length_take]; omega
    have hge : m + 2 ≤ rs.length := by
      -- the runs of the whole are no fewer than those of a part
      have h4 : (runsL (l.take (k + 1))).length ≤ (runsL l).length := by
        obtain ⟨t, ht⟩ := List.take_prefix (k + 1) l
        have h5 := fold_prefix t (runsL (l.take (k + 1)))
        have h6 : t.foldl stepRun (runsL (l.take (k + 1))) = runsL l := by
          conv => rhs; rw [← ht]
          unfold runsL; rw [List.foldl_append]
        rw [h6] at h5
        have h7 := h5.1.length_le
        have h8 : (runsL (l.take (k + 1))) ≠ [] := by rw [e1]; simp
        have h9 : ¬ (runsL (l.take (k + 1))).dropLast.length = (runsL l).length := fun e => h8 (h5.2 e)
        have h10 : (runsL (l.take (k + 1))).dropLast.length = (runsL (l.take (k + 1))).length - 1 := by simp
        omega
      rw [e1] at h4
      rw [hrs]
      simp only [List.length_append, List.length_cons, List.length_nil] at h4
      omega
    rw [e1] at hp
    simp only [List.dropLast_concat] at hp
    refine ⟨?_, fun hx => by omega, fun _ => by omega⟩
    rw [hrs]
    obtain ⟨t, ht⟩ := hp
    rw [← ht, List.getElem?_append_left (by rw [List.length_append, hlen]; simp), List.getElem?_append_right (by omega), hlen, Nat.sub_self]; rfl

end Go.Proofs.Ytkdoghopbefjfaa
