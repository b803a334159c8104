/- How often digits are in a word: the program's counts, an array. -/
import Derived.Test.YtmlghonidheidaaT1
import Derived.Test.YtmlghonidheidaaI1
import Derived.Laws.Rows
import Derived.Laws.Tables
import Derived.Deep.MidRow
import Derived.Deep.WholeRow
namespace Go.Proofs.Ytmlghonidheidaa
open Go.RowKit Go.BigFrame
set_option linter.unusedSimpArgs false
set_option linter.unusedVariables false
set_option maxRecDepth 4000

def tvl (ts : List Nat) : List Value := ts.map fun (n : Nat) => Value.int .i64 (n : Int)
def tvA (ts : List Nat) : Array Value := (tvl ts).toArray
def aggT (ts : List Nat) : Value := .agg (tvA ts)
theorem tvl_len (ts : List Nat) : (tvl ts).length = ts.length := by simp [tvl]
theorem tvA_size (ts : List Nat) : (tvA ts).size = ts.length := by simp [tvA, tvl]
theorem tvA_one (ts : List Nat) : (tvA ts).all (·.oneCell') = true := by
  refine all_oneCell_toArray (fun v hv => ?_)
  simp only [tvl, List.mem_map] at hv
  obtain ⟨n, _, rfl⟩ := hv
  rfl
theorem tvl_zeros : tvl (tal []) = [.int .i64 0, .int .i64 0, .int .i64 0, .int .i64 0, .int .i64 0, .int .i64 0, .int .i64 0, .int .i64 0, .int .i64 0] := by
  simp [tvl, tal, List.range_succ]
theorem digs_at {s : ByteArray} (hd : s.data.toList.all digB = true) (k : Nat) (h : k < s.size) : 49 ≤ s[k].toNat ∧ s[k].toNat ≤ 57 := by
  have := List.all_eq_true.1 hd s[k] (by have : s[k] = s.data.toList[k]'(by simpa using h) := by simp; rfl
                                         rw [this]; exact List.getElem_mem _)
  simpa [digB] using this

end Go.Proofs.Ytmlghonidheidaa
