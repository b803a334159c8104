/- The laws WayOfWord and WayOfInventory. -/
import Derived.Test.YtkdoghopbefjfaaT12
import Derived.Test.YtkdoghopbefjfaaE3
namespace Go.Proofs.Ytkdoghopbefjfaa
open Go.RowKit Go.BigFrame
set_option linter.unusedSimpArgs false
set_option linter.unusedVariables false
set_option maxRecDepth 4000

theorem wayGO_len (f : List UInt8 → Option (List UInt8)) (M : Int) (l : List UInt8) (n : Int) (h0 : 0 ≤ M) : (((wayGO f M l n).getD []).length : Int) ≤ M + 1 := by
  unfold wayGO
  split
  · rename_i h
    cases hw : wayG f n.toNat l with
    | none => simp; omega
    | some ls => have := wayG_len f _ _ _ hw; simp; omega
  · simp; omega
theorem specInventory_any (s : ByteArray) (n : Int) (w : World) (hs : s.size ≤ maxLen) :
    Calls Try.prog 34 #[.string s, .int .i64 n] w fun e w' => StrsOk (wayGO invO 40 s.data.toList n) w w' e := by
  unfold wayGO
  by_cases h : goodL s.data.toList = true ∧ 0 ≤ n ∧ n ≤ 40
  · rw [if_pos h]; exact specInventory_good s n w hs h.1 h.2.1 h.2.2
  · rw [if_neg h]; exact specInventory_bad s n w hs h
theorem implInventory_any (s : ByteArray) (n : Int) (w : World) (hs : s.size ≤ maxLen) :
    Calls Try.prog 22 #[.string s, .int .i64 n] w fun e w' => StrsOk (wayGO invO 40 s.data.toList n) w w' e := by
  unfold wayGO
  by_cases h : goodL s.data.toList = true ∧ 0 ≤ n ∧ n ≤ 40
  · rw [if_pos h]; exact implInventory_good s n w hs h.1 h.2.1 h.2.2
  · rw [if_neg h]; exact implInventory_bad s n w hs h
end Go.Proofs.Ytkdoghopbefjfaa
