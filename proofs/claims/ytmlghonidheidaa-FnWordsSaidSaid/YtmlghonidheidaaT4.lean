/- How often digits are in a word: the model's and the program's CountsOf. -/
import Derived.Test.YtmlghonidheidaaT2
import Derived.Test.YtmlghonidheidaaE4
namespace Go.Proofs.Ytmlghonidheidaa
open Go.RowKit Go.BigFrame
set_option linter.unusedSimpArgs false
set_option linter.unusedVariables false
set_option maxRecDepth 4000

def ti (ts : List Nat) : List Int := ts.map fun (n : Nat) => (n : Int)
theorem tvl_ti (ts : List Nat) : tvl ts = ivs (ti ts) := by simp [tvl, ti, ivs]
theorem ti_len (ts : List Nat) : (ti ts).length = ts.length := by simp [ti]
theorem info_intT : (Try.prog.info? 3).map (fun i => (i.zero, i.size, i.bytes)) = some (some (.int .i64 0), 1, 8) := by kernel_rfl
/-- A slice of numbers and true, or nil and false. -/
def IntsAOk (o : Option (List Int)) (w w' : World) (e : Ending) : Prop :=
  ∃ v, e = .returned (.tuple #[v, .bool o.isSome]) ∧ IntsA w' w.heap.size v (o.getD []) ∧ Below w.heap.size w w' ∧ (o = none → v = .slice none 0 0)

theorem size_intT (w : World) : (sizeOf 3).run Try.prog w = .ok 1 w := by
  obtain ⟨i0, hi, hz0, hz1, hz2⟩ := info_parts info_intT
  simp [sizeOf, typeInfo, hi, hz1]
theorem addr_zero (b : Nat) : (⟨b, 0, none⟩ : Addr).add 0 = ⟨b, 0, none⟩ := by simp [Addr.add]
end Go.Proofs.Ytmlghonidheidaa
