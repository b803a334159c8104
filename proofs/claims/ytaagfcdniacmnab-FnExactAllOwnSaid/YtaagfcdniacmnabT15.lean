/- Inventories made again and again: the program's loop by a jump back; LoopOfInventory. -/
import Derived.Test.YtaagfcdniacmnabT14
import Derived.ScopeJumps
import Derived.WalkMore
namespace Go.Proofs.Ytaagfcdniacmnab
open Go.RowKit Go.BigFrame
set_option linter.unusedSimpArgs false
set_option linter.unusedVariables false
set_option maxRecDepth 4000

theorem wp_scope_again {P : Program} {a : Act} {w : World} {Q : Exit → Act → World → Prop} {c rest : Code} (l : Nat) (J : Act → World → Prop) (μ : Act → World → Nat) (hf : findLabel c l = some (Code.seq Code.skip rest))
    (pass : ∀ a w, J a w → rest.wp P (Exit.jump l (fun a' w' => J a' w' ∧ μ a' w' < μ a w) Q) a w)
    (first : (∀ a w, J a w → rest.wp P (Exit.jump l J Q) a w) → c.wp P (Exit.jump l J Q) a w) : (Code.scope c).wp P Q a w :=
  wp_scope_jumps l J μ hf (first fun a w h => Code.wp_mono (fun e a' w' h' => by
    cases e
    case goto l' => exact ⟨h'.1, h'.2.1⟩
    all_goals exact h') (pass a w h)) (fun a w h => wp_seq (wp_skip (pass a w h)))

/-- What holds at the label. -/
def AtLabel (s : ByteArray) (w : World) (K : Nat) (R : Option (List (List UInt8) × Nat)) (v : Value) (n : Nat) (x : ByteArray) (ok : Bool) (wr : World) : Prop :=
  ∃ way : List (List UInt8), n = way.length ∧ wr.ownsRow w.heap.size 9 1 v n (strVs way) ∧ Below w.heap.size w wr ∧ n ≤ 1000000002 ∧
    (if ok = true then Way invO s.data.toList way x.data.toList ∧ x.data.toList.length ≤ 400 ∧ loopF invO (K - n) way x.data.toList = R else R = none)
def boolV : Value → Nat
  | .bool true => 0
  | _ => 1
def labelM (K : Nat) (a' : Act) (_ : World) : Nat := 2 * K + 2 - 2 * lenV (a'.tmps.getD 7 undef)

end Go.Proofs.Ytaagfcdniacmnab
