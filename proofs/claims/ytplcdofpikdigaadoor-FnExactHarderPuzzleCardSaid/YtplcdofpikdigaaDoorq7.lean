/- Chapter 9: OpenPlace, OpenSaid, FillGap (the program). -/
import Derived.Test.YtplcdofpikdigaaDoorq6
namespace Go.Proofs.YtplcdofpikdigaaDoor
open Go.RowKit Go.BigFrame Go.Deep
set_option linter.unusedSimpArgs false
set_option linter.unusedVariables false
set_option maxRecDepth 4000

def rBOpenPlace (W S : List UInt8) (D at' : Int) : Bool := layB W at' 46 && pzB W S D
def rWOpenPlace (W S : List UInt8) (D at' : Int) : List UInt8 := if rBOpenPlace W S D at' = true then W.set at'.toNat 46 else []
def rSOpenPlace (W S : List UInt8) (D at' : Int) : List UInt8 := if rBOpenPlace W S D at' = true then S else []
def rDOpenPlace (W S : List UInt8) (D at' : Int) : Int := if rBOpenPlace W S D at' = true then D else 0
def rBOpenSaid (W S : List UInt8) (D at' : Int) : Bool := layB S at' 46 && pzB W S D
def rWOpenSaid (W S : List UInt8) (D at' : Int) : List UInt8 := if rBOpenSaid W S D at' = true then W else []
def rSOpenSaid (W S : List UInt8) (D at' : Int) : List UInt8 := if rBOpenSaid W S D at' = true then S.set at'.toNat 46 else []
def rDOpenSaid (W S : List UInt8) (D at' : Int) : Int := if rBOpenSaid W S D at' = true then D else 0
/-- The sign of a number, as a byte. -/
def sgnU (n : Int) : UInt8 := UInt8.ofNat ((48 + n) % 256).toNat
theorem sgnU_toNat (n : Int) : ((sgnU n).toNat : Int) = (48 + n) % 256 := by
  unfold sgnU
  rw [UInt8.toNat_ofNat']
  have h1 : (0 : Int) ≤ (48 + n) % 256 := by omega
  have h2 : (48 + n) % 256 < 256 := by omega
  omega
def rBFillGap (W S : List UInt8) (D at' dg : Int) : Bool := decide ((1 : Int) ≤ dg ∧ dg ≤ D) && (layB W at' (sgnU dg) && pzB W S D)
def rWFillGap (W S : List UInt8) (D at' dg : Int) : List UInt8 := if rBFillGap W S D at' dg = true then W.set at'.toNat (sgnU dg) else []
def rSFillGap (W S : List UInt8) (D at' dg : Int) : List UInt8 := if rBFillGap W S D at' dg = true then S else []
def rDFillGap (W S : List UInt8) (D at' dg : Int) : Int := if rBFillGap W S D at' dg = true then D else 0

set_option maxHeartbeats 1000000 in
theorem implOpenPlace_any (W S : List UInt8) (D at' : Int) (w : World) (hW : W.length ≤ 1048576) (hS : S.length ≤ 1048576) :
    Calls Tryd.prog 47 #[pzV W S D, .int .i64 at'] w fun e w' => e = .returned (.tuple #[pzV (rWOpenPlace W S D at') (rSOpenPlace W S D at') (rDOpenPlace W S D at'), .bool (rBOpenPlace W S D at')]) ∧ Below w.heap.size w w' := by
  have hH := fun (W0 : World) => withWord_any W S D at' 46 W0 (by unfold maxLen; omega) (by omega)
  show Calls Tryd.prog 47 #[pzV W S D, .int .i64 at'] w fun e w' => e = .returned (.tuple #[pzIf (rBOpenPlace W S D at') (W.set at'.toNat 46) S D, .bool (rBOpenPlace W S D at')]) ∧ Below w.heap.size w w'
  obtain ⟨b, hb⟩ : ∃ b, b = rBOpenPlace W S D at' := ⟨_, rfl⟩
  rw [← hb]
  unfold rBOpenPlace at hb
  simp only [← hb] at hH
  rw [show ((46 : UInt8).toNat : Int) = 46 from rfl] at hH
  have e1 : ∃ x y z, pzIf b (W.set at'.toNat 46) S D = .agg #[.string x, .string y, .int .i64 z] := ⟨_, _, _, rfl⟩
  obtain ⟨x, y, z, e1⟩ := e1
  rw [e1] at hH ⊢
  unfold pzV at hH ⊢
  generalize bs W = t at *
  generalize bs S = u at *
  have HH := Lib.hid hH
  have HT := Lib.hid (twoP_new w (.string t) (.string u) (.int .i64 D))
  clear hH hb e1 hW hS
  go_enter Tryd.func47, Tryd.ntmps47
  go_wp2_with fail
  refine (HH.out _).mono ?_
  rintro e w1 ⟨rfl, hb⟩
  have ht := HT.out.later hb
  obtain ⟨c0, c1, c2, f0, f1, f2⟩ := ht.res.cells
  have HB := Lib.hid ht.below
  clear hb ht
  go_wp2_with fail
  refine bodyPost_ret (v := .tuple #[.agg #[.string x, .string y, .int .i64 z], .bool b]) ?_ rfl ⟨rfl, three_below HB.out (by omega) _ _ _⟩
  simp [results, Tryd.results47, go_sem, c0, c1, c2]

theorem signOf_u (n : Int) (w : World) :
    Calls Tryd.prog 60 #[.int .i64 n] w fun e w' => e = .returned (.int .u8 ((sgnU n).toNat : Int)) ∧ w = w' := by
  obtain ⟨m, hm⟩ : ∃ m, m = ((sgnU n).toNat : Int) := ⟨_, rfl⟩
  rw [← hm]
  have h2 : m = IntKind.u8.wrap (IntKind.i64.wrap (48 + n)) := by
    rw [hm, sgnU_toNat, IntKind.wrap_i64, IntKind.wrap_u8]; omega
  obtain ⟨q, hq⟩ : ∃ q, q = IntKind.i64.wrap (48 + n) := ⟨_, rfl⟩
  rw [← hq] at h2
  have HM := Lib.hid h2; have HQ := Lib.hid hq
  clear hm h2 hq
  go_enter Tryd.func60, Tryd.ntmps60
  go_wp2_with fail
  go_ret
  exact ⟨by rw [HM.out, HQ.out]; first | rfl | simp [IntKind.wrap_i64, IntKind.wrap_u8, wrap64], rfl⟩
end Go.Proofs.YtplcdofpikdigaaDoor
