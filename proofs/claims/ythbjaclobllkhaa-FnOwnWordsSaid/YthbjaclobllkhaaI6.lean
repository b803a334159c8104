/- How often a digit is in a word: the model's and the program's CountDigit. -/
import Derived.Test.YthbjaclobllkhaaI4
import Derived.Test.YthbjaclobllkhaaS
namespace Go.Proofs.Ythbjaclobllkhaa
open Go.RowKit Go.BigFrame
set_option linter.unusedSimpArgs false
set_option linter.unusedVariables false
set_option maxRecDepth 4000

def dgc (d : Int) : UInt8 := UInt8.ofNat (48 + d.toNat)
def countD (l : List UInt8) (d : Int) : Nat := l.count (dgc d)
theorem countD_le (l : List UInt8) (d : Int) : countD l d ≤ l.length := List.count_le_length
theorem dgc_nat (d : Int) (h0 : 1 ≤ d) (h1 : d ≤ 9) : ((dgc d).toNat : Int) = 48 + d := by
  unfold dgc
  rw [UInt8.toNat_ofNat', Nat.mod_eq_of_lt (by omega)]; omega
theorem dgc_eq (d : Int) (c : UInt8) (h0 : 1 ≤ d) (h1 : d ≤ 9) : ((c.toNat : Int) - 48 = d) ↔ c = dgc d := by
  have h := dgc_nat d h0 h1
  constructor
  · intro e; exact UInt8.toNat_inj.1 (by omega)
  · rintro rfl; omega
theorem countD_succ (s : ByteArray) (d : Int) (k : Nat) (h : k < s.size) : countD (s.data.toList.take (k + 1)) d = countD (s.data.toList.take k) d + if s[k] = dgc d then 1 else 0 := by
  unfold countD
  rw [take_snoc s k h, List.count_append, List.count_singleton]
  simp

def digOk (d : Int) : Bool := decide (1 ≤ d ∧ d ≤ 9)
theorem isDigit_is (b : Bool) (n : Int) (w : World) (h : digOk n = b) :
    Calls Try.prog 40 #[.int .i64 n] w fun e w' => e = .returned (.bool b) ∧ w = w' := by
  have H := Lib.hid h; clear h
  go_enter Try.func40, Try.ntmps40
  go_wp2_with fail
  refine (isWithin_is b _ _ _ _ H.out).mono ?_
  rintro e w1 ⟨rfl, rfl⟩
  go_wp2_with fail
  go_ret
  exact ⟨rfl, rfl⟩

end Go.Proofs.Ythbjaclobllkhaa
