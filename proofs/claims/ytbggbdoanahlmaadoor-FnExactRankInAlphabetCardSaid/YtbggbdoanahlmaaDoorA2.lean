/- Runs of a word: plain lists, and the model's woRuns. -/
import Derived.Test.YtbggbdoanahlmaaDoorA1
import Derived.BigQuiet
import Derived.Deep.QuietTactic
namespace Go.Proofs.YtbggbdoanahlmaaDoor
open Go.RowKit Go.BigFrame
set_option linter.unusedSimpArgs false
set_option linter.unusedVariables false
set_option maxRecDepth 4000

/-- One digit more behind the runs that were told. -/
def stepRun (acc : List (UInt8 × Nat)) (c : UInt8) : List (UInt8 × Nat) :=
  match acc.getLast? with
  | some (d, n) => if d = c then acc.dropLast ++ [(d, n + 1)] else acc ++ [(c, 1)]
  | none => [(c, 1)]
def runsL (l : List UInt8) : List (UInt8 × Nat) := l.foldl stepRun []
theorem runsL_snoc (l : List UInt8) (c : UInt8) : runsL (l ++ [c]) = stepRun (runsL l) c := by simp [runsL]
theorem stepRun_ne (acc : List (UInt8 × Nat)) (c : UInt8) : stepRun acc c ≠ [] := by
  unfold stepRun
  split
  · split <;> simp
  · simp
theorem stepRun_last (acc : List (UInt8 × Nat)) (c : UInt8) : ∃ pre n, stepRun acc c = pre ++ [(c, n)] := by
  unfold stepRun
  split
  · split
    · rename_i d n _ h; subst h; exact ⟨_, _, rfl⟩
    · exact ⟨_, _, rfl⟩
  · exact ⟨[], 1, rfl⟩
theorem stepRun_same (pre : List (UInt8 × Nat)) (c : UInt8) (n : Nat) : stepRun (pre ++ [(c, n)]) c = pre ++ [(c, n + 1)] := by
  simp [stepRun]
theorem stepRun_other (pre : List (UInt8 × Nat)) (c d : UInt8) (n : Nat) (h : d ≠ c) : stepRun (pre ++ [(d, n)]) c = pre ++ [(d, n)] ++ [(c, 1)] := by
  simp [stepRun, h]
theorem stepRun_sum (acc : List (UInt8 × Nat)) (c : UInt8) : ((stepRun acc c).map (·.2)).sum = (acc.map (·.2)).sum + 1 := by
  unfold stepRun
  split
  · rename_i d n h
    split
    · have hne : acc ≠ [] := by intro e; simp [e] at h
      have h2 : acc.getLast hne = (d, n) := by
        have := List.getLast?_eq_some_getLast hne
        rw [h] at this; exact (Option.some.inj this).symm
      conv => rhs; rw [← List.dropLast_concat_getLast hne, h2]
      simp; omega
    · simp
  · rename_i h
    have : acc = [] := by simpa using h
    subst this; simp
theorem runsL_sum (l : List UInt8) : ((runsL l).map (·.2)).sum = l.length := by
  induction h : l.length generalizing l with
  | zero => have : l = [] := List.eq_nil_of_length_eq_zero h; subst this; rfl
  | succ n ih =>
    have hne : l ≠ [] := by intro e; simp [e] at h
    have hd := List.dropLast_concat_getLast hne
    rw [← hd, runsL_snoc, stepRun_sum, ih _ (by simp [h])]
theorem runs_last_le {l : List UInt8} {pre : List (UInt8 × Nat)} {d : UInt8} {n : Nat} (h : runsL l = pre ++ [(d, n)]) : n ≤ l.length := by
  have := runsL_sum l
  rw [h] at this
  simp at this; omega
theorem stepRun_len (acc : List (UInt8 × Nat)) (c : UInt8) : (stepRun acc c).length ≤ acc.length + 1 := by
  unfold stepRun
  split
  · split <;> (simp; try omega)
  · simp
theorem runsL_len (l : List UInt8) : (runsL l).length ≤ l.length := by
  induction h : l.length generalizing l with
  | zero => have : l = [] := List.eq_nil_of_length_eq_zero h; subst this; simp [runsL]
  | succ n ih =>
    have hne : l ≠ [] := by intro e; simp [e] at h
    have hd := List.dropLast_concat_getLast hne
    rw [← hd, runsL_snoc]
    exact Nat.le_trans (stepRun_len _ _) (by have := ih l.dropLast (by simp [h]); omega)
theorem dig_at (s : ByteArray) (h : s.data.toList.all digB = true) (k : Nat) (hk : k < s.size) : 49 ≤ s[k].toNat ∧ s[k].toNat ≤ 57 := by
  have h2 := List.all_eq_true.1 h (s.data.toList[k]'(by simpa using hk)) (List.getElem_mem _)
  have e : s.data.toList[k]'(by simpa using hk) = s[k] := by simp; rfl
  rw [e] at h2
  simpa [digB] using h2
/-- The runs told as rows of two numbers. -/
def rowOf (p : UInt8 × Nat) : List Value := [.int .i64 ((p.1.toNat : Int) - 48), .int .i64 (p.2 : Int)]
def rowsL (l : List UInt8) : List (List Value) := (runsL l).map rowOf

theorem take_snoc (s : ByteArray) (k : Nat) (h : k < s.size) : s.data.toList.take (k + 1) = s.data.toList.take k ++ [s[k]] := by
  rw [List.take_succ_eq_append_getElem (by simpa using h)]; rfl
theorem info_ints : (Tryd.prog.info? 30).map (fun i => (i.zero, i.size, i.bytes)) = some (some (.slice none 0 0), 1, 24) := by kernel_rfl
theorem info_int : (Tryd.prog.info? 3).map (fun i => (i.zero, i.size, i.bytes)) = some (some (.int .i64 0), 1, 8) := by kernel_rfl

end Go.Proofs.YtbggbdoanahlmaaDoor
