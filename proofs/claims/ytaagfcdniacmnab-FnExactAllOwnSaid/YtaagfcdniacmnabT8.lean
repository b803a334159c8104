/- What a text tells: the program's toldBy, the model's taIs; IsInventory, IsOwnInventory and their laws. -/
import Derived.Test.YtaagfcdniacmnabT6
namespace Go.Proofs.Ytaagfcdniacmnab
open Go.RowKit Go.BigFrame
set_option linter.unusedSimpArgs false
set_option linter.unusedVariables false
set_option maxRecDepth 4000

theorem results_tallyT2 {fn : Func} {p t : Tmp} (h : fn.results = #[.cell p 58, .tmp t]) (tmps : Array Value) (w : World) (g : Nat) (ts : List Nat)
    (hp : tmps.getD p undef = .pointer (some ⟨g, 0, none⟩)) (hg : BlkT w g ts) : (results fn tmps).run Try.prog w = .ok (.tuple #[aggT ts, tmps.getD t undef]) w := by
  have hp' : tmps[p]?.getD undef = .pointer (some ⟨g, 0, none⟩) := by simpa using hp
  have hl := run_loadVar_row (P := Try.prog) w g 58 58 (tvA ts) (0, 0) _ hg.1 under_tally rfl (by rw [tvA_size, hg.2]; exact info_tally)
  simp [results, h, hp', asAddr, hl, aggT]
theorem toldF_len : ∀ (l : List UInt8) (b : Nat) (acc ts : List Nat), toldF b acc l = some ts → ts.length = acc.length
  | [], b, acc, ts, h => by simp [toldF] at h; rw [h]
  | [_], b, acc, ts, h => by simp [toldF] at h
  | x :: y :: r, b, acc, ts, h => by
    unfold toldF at h
    split at h
    · cases h
    · have := toldF_len r _ _ _ h
      simpa using this
theorem drop2 (s : ByteArray) (j : Nat) (h : j + 1 < s.size) : s.data.toList.drop j = s[j] :: s[j + 1] :: s.data.toList.drop (j + 2) := by
  rw [drop_at s j (by omega), drop_at s (j + 1) h]
theorem toldF_odd : ∀ (l : List UInt8) (b : Nat) (acc : List Nat), l.length % 2 = 1 → toldF b acc l = none
  | [], _, _, h => by simp at h
  | [_], _, _, _ => rfl
  | x :: y :: r, b, acc, h => by
    unfold toldF
    split
    · rfl
    · exact toldF_odd r _ _ (by simp at h; omega)
theorem zeros9_len : zeros9.length = 9 := rfl

theorem getD_at (s : ByteArray) (i : Nat) (h : i < s.size) : s.data.toList.getD i 0 = s[i] := by
  rw [List.getD_eq_getElem?_getD, List.getElem?_eq_getElem (by simpa using h)]; simp; rfl
theorem incF_odd : ∀ (l : List UInt8) (b : Nat), l.length % 2 = 1 → incF b l = false
  | [], _, h => by simp at h
  | [_], _, _ => rfl
  | x :: y :: r, b, h => by
    unfold incF
    split
    · rfl
    · exact incF_odd r _ (by simp at h; omega)

end Go.Proofs.Ytaagfcdniacmnab
