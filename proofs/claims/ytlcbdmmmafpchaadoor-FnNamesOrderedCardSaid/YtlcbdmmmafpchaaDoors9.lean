/- The library's stable sort: symMergeCmpFunc whole; stableCmpFunc. -/
import Derived.Test.YtlcbdmmmafpchaaDoors8
namespace Go.Proofs.YtlcbdmmmafpchaaDoor
open Go.RowKit Go.BigFrame
set_option linter.unusedSimpArgs false
set_option linter.unusedVariables false
set_option maxRecDepth 4000

theorem sym_any (g : Nat) (lb : Array Value) (D : Int → Prop) (lt : Int → Int → Bool) (cv : Int → Int → Int) (o : Ord1 lt) (b n c : Nat) : ∀ (F : Nat) (P L M Q : List Int) (a m e : Nat) (W : World), SymIn b n c D lt P L M Q a m e → RowB W b (P ++ L ++ M ++ Q) → CmpAt g lb b D lt cv W → L.length + M.length < F →
    Calls Tryd.prog 117 #[.slice (some ⟨b, 0, none⟩) n c, .int .i64 (a : Int), .int .i64 (m : Int), .int .i64 (e : Int), .func (.func g) #[] lb] W (SymPost b lt P L M Q W) := by
  intro F
  induction F with
  | zero => intro P L M Q a m e W _ _ _ h; omega
  | succ F ih =>
    intro P L M Q a m e W hI h HC hF
    by_cases h1 : L.length = 1
    · exact symOneL_any g lb D lt cv o W b n c P L M Q a m e hI h1 h HC
    · by_cases h2 : M.length = 1
      · exact symOneR_any g lb D lt cv o W b n c P L M Q a m e hI h2 h1 h HC
      · exact symGen_any g lb D lt cv o W b n c P L M Q a m e (L.length + M.length) rfl hI h1 h2 h HC (fun P L' M' Q a m e W i1 i2 i3 i4 => ih P L' M' Q a m e W i1 i2 i3 (by omega))
end Go.Proofs.YtlcbdmmmafpchaaDoor
