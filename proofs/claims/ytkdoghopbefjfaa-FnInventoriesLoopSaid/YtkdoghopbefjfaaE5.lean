/- The laws' own helpers on rows of texts that begin inside a block: equal rows are found equal; marks are laid and found again. -/
import Derived.Test.YtkdoghopbefjfaaE3
namespace Go.Proofs.Ytkdoghopbefjfaa
open Go.RowKit Go.BigFrame
set_option linter.unusedSimpArgs false
set_option linter.unusedVariables false
set_option maxRecDepth 4000

theorem markTB_len (k : Nat) (h : k ≤ 3000000000) : (markT k).length ≤ 20 := by
  have := numL_len19 k (by omega)
  simp [markT]; omega

/-- A slice value owns a row of texts, which may begin inside its block. -/
def StrsO (w : World) (B : Nat) (v : Value) (ls : List (List UInt8)) : Prop := (v = .slice none 0 0 ∧ ls = []) ∨
    ∃ g o cap, v = .slice (some ⟨g, o, none⟩) ls.length cap ∧ B ≤ g ∧ g < w.heap.size ∧ ls.length ≤ 9223372036854775807 ∧ cap ≤ 9223372036854775807 ∧
      (∀ i (hi : i < ls.length), w.cell? ⟨g, o + i, none⟩ = some (.string (bs ls[i]))) ∧ (∀ i, w.frozen? ⟨g, i, none⟩ = false)
theorem strsO_open {w : World} {B : Nat} {v : Value} {ls : List (List UInt8)} (h : StrsO w B v ls) : (v = .slice none 0 0 ∧ ls = []) ∨
    ∃ g o cap, v = .slice (some ⟨g, o, none⟩) ls.length cap ∧ B ≤ g ∧ g < w.heap.size ∧ ls.length ≤ 9223372036854775807 ∧ cap ≤ 9223372036854775807 ∧
      (∀ i (hi : i < ls.length), w.cell? ⟨g, o + i, none⟩ = some (.string (bs ls[i]))) ∧ (∀ i, w.frozen? ⟨g, i, none⟩ = false) := h
theorem strsO_of {w : World} {B : Nat} {v : Value} {ls : List (List UInt8)} (h : Strs w B v ls) : StrsO w B v ls := by
  rcases strs_open h with h | ⟨g, cap, h1, h2, h3, h4, h5, h6, h7⟩
  · exact .inl h
  · exact .inr ⟨g, 0, cap, h1, h2, h3, h4, h5, fun i hi => by rw [Nat.zero_add]; exact h6 i hi, h7⟩
theorem strsO_below {w w' : World} {B : Nat} {v : Value} {ls : List (List UInt8)} (h : StrsO w B v ls) (hb : Below w.heap.size w w') : StrsO w' B v ls := by
  rcases h with h | ⟨g, o, cap, h1, h2, h3, h4, h5, h6, h7⟩
  · exact .inl h
  · exact .inr ⟨g, o, cap, h1, h2, Nat.lt_of_lt_of_le h3 hb.size, h4, h5, fun i hi => (hb.cell (p := ⟨g, o + i, none⟩) h3).trans (h6 i hi), fun i => (hb.frozen (p := ⟨g, i, none⟩) h3).trans (h7 i)⟩

def markMix (k0 k : Nat) (xs : List (List UInt8)) : List (List UInt8) := markTS k0 k ++ xs.drop k
theorem markMix_succ (k0 k : Nat) (xs : List (List UInt8)) (h : k < xs.length) : markMix k0 (k + 1) xs = (markMix k0 k xs).set k (markT (k0 + k)) := by
  unfold markMix
  have hd : xs.drop k = xs[k] :: xs.drop (k + 1) := List.drop_eq_getElem_cons h
  rw [markTS_succ, hd, List.set_append_right _ _ (by simp [markTS_len])]
  simp only [markTS_len, Nat.sub_self, List.set_cons_zero, List.append_assoc, List.cons_append, List.nil_append]
theorem markMix_len (k0 k : Nat) (xs : List (List UInt8)) (h : k ≤ xs.length) : (markMix k0 k xs).length = xs.length := by
  simp [markMix, markTS_len]; omega

end Go.Proofs.Ytkdoghopbefjfaa
