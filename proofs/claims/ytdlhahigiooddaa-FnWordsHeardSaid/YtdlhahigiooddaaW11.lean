/- Law FnWordsHeardOfAll. (By tools/genw11.py.) -/
import Derived.Test.YtdlhahigiooddaaW10
import Derived.Deep.DeepCutAuto
namespace Go.Proofs.Ytdlhahigiooddaa
open Go.RowKit Go.BigFrame Go.Shelf Go.Deep
set_option linter.unusedSimpArgs false
set_option linter.unusedVariables false
set_option maxRecDepth 4000

theorem strOk_eqW (o : Option (List UInt8)) : strOk o = .tuple #[.string (bs (o.getD [])), .bool o.isSome] := by cases o <;> rfl
theorem bs_back (t : ByteArray) : bs t.data.toList = t := (bs_eq rfl).symm
theorem htV_eq (l : List UInt8) : htV l = .tuple #[.string (bs (if goodL l = true then (htGo 20 l).1 else [])), .int .i64 ((if goodL l = true then (htGo 20 l).2 else 0 : Nat) : Int), .bool (goodL l)] := by
  unfold htV
  cases h : goodL l <;> rfl

theorem htGo_good : ∀ (n : Nat) (l : List UInt8), goodL l = true → goodL (htGo n l).1 = true
  | 0, l, h => h
  | n + 1, l, h => by
    cases h0 : hearO l with
    | none => rw [htGo_none _ _ h0]; exact h
    | some t => rw [htGo_some n l t h0]; exact htGo_good n t (hearO_good h0)
theorem back_times {l : List UInt8} (h : goodL l = true) : timesG (htGo 20 l).1 ((htGo 20 l).2 : Int) = some l := by
  obtain ⟨ls, h1, h2⟩ := htGo_way 20 l
  have h3 := htGo_le 20 l
  unfold timesG wayGO
  rw [if_pos ⟨htGo_good 20 l h, by omega, by omega⟩, Int.toNat_natCast, h1]
  show some (ls.getLastD []) = some l
  rw [h2]

end Go.Proofs.Ytdlhahigiooddaa
