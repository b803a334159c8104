/- The words of the loop: the model's and the program's LoopWords, and the law. -/
import Derived.Test.YtaagfcdniacmnabT16
import Derived.Test.YtaagfcdniacmnabE5
namespace Go.Proofs.Ytaagfcdniacmnab
open Go.RowKit Go.BigFrame
set_option linter.unusedSimpArgs false
set_option linter.unusedVariables false
set_option maxRecDepth 4000

def wordsO (o : Option (List (List UInt8) × Nat)) : List (List UInt8) := (o.getD ([], 0)).1.drop (o.getD ([], 0)).2
def WordsOk (o : Option (List (List UInt8) × Nat)) (w w' : World) (e : Ending) : Prop :=
  ∃ v, e = .returned (.tuple #[v, .bool o.isSome]) ∧ StrsO w' w.heap.size v (wordsO o) ∧ Below w.heap.size w w'
theorem add_plainT (b o r : Nat) : (⟨b, o, none⟩ : Addr).add r = ⟨b, o + r, none⟩ := by
  unfold Addr.add
  split
  · subst_vars; rfl
  · rfl

/-- A way that is owned: its cells. -/
theorem loopOk_cells {o : Option (List (List UInt8) × Nat)} {w w' : World} {e : Ending} (h : LoopOk o w w' e) :
    (o = none ∧ e = .returned (.tuple #[.slice none 0 0, .int .i64 0, .bool false]) ∧ Below w.heap.size w w') ∨
    ∃ way i g n c, o = some (way, i) ∧ n = way.length ∧ i < n ∧ n ≤ 2000000000 ∧ n ≤ c ∧ c ≤ 9223372036854775807 ∧ w.heap.size ≤ g ∧ g < w'.heap.size ∧ e = .returned (.tuple #[.slice (some ⟨g, 0, none⟩) n c, .int .i64 (i : Int), .bool true]) ∧
      (∀ j (hj : j < way.length), w'.cell? ⟨g, j, none⟩ = some (.string (bs way[j]))) ∧ (∀ j, w'.frozen? ⟨g, j, none⟩ = false) ∧ Below w.heap.size w w' := by
  obtain ⟨v, rfl, h2, h3, h4, h5⟩ := h
  cases o with
  | none => rw [h4 rfl]; exact .inl ⟨rfl, rfl, h3⟩
  | some p =>
    obtain ⟨way, i⟩ := p
    obtain ⟨h6, h7⟩ := h5 (by simp)
    simp only [Option.getD_some] at h2 h6 h7
    rcases own_open h2 with ⟨_, h0, _⟩ | ⟨g, c, rfl, hB, hg, hc1, hc2, _, _, hfr⟩
    · omega
    unfold maxLen at hc2
    exact .inr ⟨way, i, g, _, c, rfl, rfl, h6, h7, hc1, by omega, hB, hg, rfl, fun j hj => strs_cells h2 rfl j hj, hfr, h3⟩

/-- A loop's way has at most so many texts. -/
theorem loopF_len (x0 : List UInt8) : ∀ (K : Nat) (way : List (List UInt8)) (x : List UInt8) (p : List (List UInt8) × Nat), Way invO x0 way x → loopF invO K way x = some p → p.1.length ≤ 1000000001
  | 0, _, _, _, _, h => by simp [loopF] at h
  | K + 1, way, x, p, hw, h => by
    unfold loopF at h
    split at h
    · rw [← Option.some.inj h]; exact wayI_len hw
    · rename_i hx
      split at h
      · cases h
      · rename_i y hy
        exact loopF_len x0 K _ _ p (way_snoc hw hx hy) h
theorem loopO_len (s : ByteArray) (K : Nat) (hK : 1000000010 ≤ K) : ((loopO K s.data.toList).getD ([], 0)).1.length ≤ 1000000001 := by
  cases h : loopO K s.data.toList with
  | none => simp
  | some p =>
    unfold loopO at h
    split at h
    · exact loopF_len s.data.toList K [] _ p (way_nil _ _) h
    · cases h
theorem wordsO_len (s : ByteArray) (w : World) (hs : s.size ≤ maxLen) (K : Nat) (hK : 1000000010 ≤ K) : (wordsO (loopO K s.data.toList)).length ≤ 2000000000 := by
  have h := loopO_len s K hK
  unfold wordsO
  rw [List.length_drop]
  omega

end Go.Proofs.Ytaagfcdniacmnab
