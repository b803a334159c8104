/- Chapter 9: HarderPuzzle, the program's walk. -/
import Derived.Test.YtplcdofpikdigaaDooron
import Derived.Test.YtplcdofpikdigaaDoorqa
namespace Go.Proofs.YtplcdofpikdigaaDoor
open Go.RowKit Go.BigFrame
set_option linter.unusedSimpArgs false
set_option linter.unusedVariables false
set_option maxRecDepth 4000

def stW (W S : List UInt8) (D : Int) (k : Nat) : List UInt8 := if (rBOpenPlace W S D k && oneB (W.set k 46) S D) = true then W.set k 46 else W
def stS (W S : List UInt8) (D : Int) (k : Nat) : List UInt8 := if (rBOpenSaid W S D k && oneB W (S.set k 46) D) = true then S.set k 46 else S
def hdW (W S : List UInt8) (D : Int) : Nat → List UInt8
  | 0 => W
  | k + 1 => stW (hdW W S D k) S D k
def hdS (W S : List UInt8) (D : Int) : Nat → List UInt8
  | 0 => S
  | k + 1 => stS W (hdS W S D k) D k
theorem stW_len (W S : List UInt8) (D : Int) (k : Nat) : (stW W S D k).length = W.length := by unfold stW; split <;> simp
theorem stS_len (W S : List UInt8) (D : Int) (k : Nat) : (stS W S D k).length = S.length := by unfold stS; split <;> simp
theorem hdW_len (W S : List UInt8) (D : Int) : ∀ k, (hdW W S D k).length = W.length
  | 0 => rfl
  | k + 1 => by rw [hdW, stW_len, hdW_len W S D k]
theorem hdS_len (W S : List UInt8) (D : Int) : ∀ k, (hdS W S D k).length = S.length
  | 0 => rfl
  | k + 1 => by rw [hdS, stS_len, hdS_len W S D k]
theorem opV_W (W S : List UInt8) (D : Int) (k : Nat) : opV (rBOpenPlace W S D k) (rWOpenPlace W S D k) (rSOpenPlace W S D k) (rDOpenPlace W S D k) W S D = pzV (stW W S D k) S D := by
  unfold opV stW rWOpenPlace rSOpenPlace rDOpenPlace
  cases rBOpenPlace W S D k with
  | false => simp
  | true =>
    simp only [if_true, Bool.true_and, Int.toNat_natCast]
    split <;> rfl
theorem opV_S (W S : List UInt8) (D : Int) (k : Nat) : opV (rBOpenSaid W S D k) (rWOpenSaid W S D k) (rSOpenSaid W S D k) (rDOpenSaid W S D k) W S D = pzV W (stS W S D k) D := by
  unfold opV stS rWOpenSaid rSOpenSaid rDOpenSaid
  cases rBOpenSaid W S D k with
  | false => simp
  | true =>
    simp only [if_true, Bool.true_and, Int.toNat_natCast]
    split <;> rfl
theorem rW_len (W S : List UInt8) (D k : Int) : (rWOpenPlace W S D k).length ≤ W.length ∧ (rSOpenPlace W S D k).length ≤ S.length := by
  unfold rWOpenPlace rSOpenPlace; split <;> simp
theorem rS_len (W S : List UInt8) (D k : Int) : (rWOpenSaid W S D k).length ≤ W.length ∧ (rSOpenSaid W S D k).length ≤ S.length := by
  unfold rWOpenSaid rSOpenSaid; split <;> simp
theorem openPlaceOne_any (W S : List UInt8) (D : Int) (k : Nat) (w : World) (hW : W.length ≤ 1048576) (hS : S.length ≤ 1048576) :
    Calls Tryd.prog 46 #[pzV W S D, .int .i64 (k : Int), .func (.func 47) #[] #[]] w fun e w' => e = .returned (pzV (stW W S D k) S D) ∧ Below w.heap.size w w' := by
  have h := openIfOne_any 47 W S (rWOpenPlace W S D k) (rSOpenPlace W S D k) D (rDOpenPlace W S D k) k (rBOpenPlace W S D k) w (by have := rW_len W S D k; unfold maxLen; omega) (by have := rW_len W S D k; unfold maxLen; omega) (fun W0 args => by rfl) (fun W0 => implOpenPlace_any W S D k W0 hW hS)
  rw [opV_W] at h
  exact h
theorem openSaidOne_any (W S : List UInt8) (D : Int) (k : Nat) (w : World) (hW : W.length ≤ 1048576) (hS : S.length ≤ 1048576) :
    Calls Tryd.prog 46 #[pzV W S D, .int .i64 (k : Int), .func (.func 48) #[] #[]] w fun e w' => e = .returned (pzV W (stS W S D k) D) ∧ Below w.heap.size w w' := by
  have h := openIfOne_any 48 W S (rWOpenSaid W S D k) (rSOpenSaid W S D k) D (rDOpenSaid W S D k) k (rBOpenSaid W S D k) w (by have := rS_len W S D k; unfold maxLen; omega) (by have := rS_len W S D k; unfold maxLen; omega) (fun W0 args => by rfl) (fun W0 => implOpenSaid_any W S D k W0 hW hS)
  rw [opV_S] at h
  exact h
def rBHarderPuzzle (W S : List UInt8) (D : Int) : Bool := oneB W S D
def rWHarderPuzzle (W S : List UInt8) (D : Int) : List UInt8 := if rBHarderPuzzle W S D = true then hdW W S D W.length else []
def rSHarderPuzzle (W S : List UInt8) (D : Int) : List UInt8 := if rBHarderPuzzle W S D = true then hdS (hdW W S D W.length) S D S.length else []
def rDHarderPuzzle (W S : List UInt8) (D : Int) : Int := if rBHarderPuzzle W S D = true then D else 0
end Go.Proofs.YtplcdofpikdigaaDoor
