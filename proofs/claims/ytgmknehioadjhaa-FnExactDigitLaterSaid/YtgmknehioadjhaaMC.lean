/- How often a digit is in a text (from XI6, apart from its laws: beside the tables, where XI3's say_len would clash with XN1's). -/
import Derived.Test.YtgmknehioadjhaaM8
import Derived.Test.YtgmknehioadjhaaS
namespace Go.Proofs.Ytgmknehioadjhaa
open Go.RowKit Go.BigFrame
set_option linter.unusedSimpArgs false
set_option linter.unusedVariables false
set_option maxRecDepth 4000

def dgc (d : Int) : UInt8 := UInt8.ofNat (48 + d.toNat)
def countD (l : List UInt8) (d : Int) : Nat := l.count (dgc d)
theorem countD_le (l : List UInt8) (d : Int) : countD l d ≤ l.length := List.count_le_length
theorem dgc_nat (d : Int) (h0 : 1 ≤ d) (h1 : d ≤ 9) : ((dgc d).toNat : Int) = 48 + d := by
  unfold dgc
  rw [UInt8.toNat_ofNat', Nat.mod_eq_of_lt (by omega)]; omega
theorem dgc_eq (d : Int) (c : UInt8) (h0 : 1 ≤ d) (h1 : d ≤ 9) : ((c.toNat : Int) - 48 = d) ↔ c = dgc d := by
  have h := dgc_nat d h0 h1
  constructor
  · intro e; exact UInt8.toNat_inj.1 (by omega)
  · rintro rfl; omega
theorem countD_succ (s : ByteArray) (d : Int) (k : Nat) (h : k < s.size) : countD (s.data.toList.take (k + 1)) d = countD (s.data.toList.take k) d + if s[k] = dgc d then 1 else 0 := by
  unfold countD
  rw [take_snoc s k h, List.count_append, List.count_singleton]
  simp


set_option maxHeartbeats 1000000 in
theorem woDigit_any (s : ByteArray) (d : Int) (w : World) (hs : s.size ≤ 400) (hd : s.data.toList.all digB = true) (h0 : 1 ≤ d) (h1 : d ≤ 9) :
    Calls Try.prog 43 #[.string s, .int .i64 d] w fun e w' => e = .returned (.int .i64 (countD s.data.toList d)) ∧ w = w' := by
  have HD := Lib.hid hd; clear hd
  go_enter Try.func43, Try.ntmps43
  go_wp2_with fail
  go_loop [5, 6] (fun n i => ∃ k : Nat, k ≤ s.size ∧ i = .int .i64 k ∧ n = .int .i64 (countD (s.data.toList.take k) d)) (fun _ i => s.size - (intOf i).toNat)
  case atStart => exact ⟨0, Nat.zero_le _, rfl, rfl⟩
  case round =>
    obtain ⟨k, hk, rfl, rfl⟩ := hrel
    by_cases hlt : k < s.size
    · obtain ⟨hd1, hd2⟩ := dig_at s HD.out k hlt
      have hsu := countD_succ s d k hlt
      have hle := countD_le (s.data.toList.take k) d
      have hle2 : (s.data.toList.take k).length ≤ k := List.length_take_le _ _
      obtain ⟨m, hm⟩ : ∃ m, m = countD (s.data.toList.take k) d := ⟨_, rfl⟩
      rw [← hm] at hsu hle ⊢
      have hm4 : m ≤ 400 := by omega
      have heq := dgc_eq d s[k] h0 h1
      have HS := Lib.hid hsu
      clear hm hle hle2 hsu
      by_cases he : (s[k].toNat : Int) - 48 = d
      · have hb : ((s[k].toNat : Int) - 48 == d) = true := by simpa using he
        have hc : s[k] = dgc d := heq.1 he
        have HC := Lib.hid hc
        clear heq he hc
        go_wp2
        go_round
        case rel => exact ⟨k + 1, by omega, by go_num, by rw [HS.out, if_pos HC.out]; go_num⟩
        case measure => simp [intOf] <;> omega
      · have hb : ((s[k].toNat : Int) - 48 == d) = false := by simpa using he
        have hc : ¬ s[k] = dgc d := fun h => he (heq.2 h)
        have HC := Lib.hid hc
        clear heq he hc
        go_wp2
        go_round
        case rel => exact ⟨k + 1, by omega, by go_num, by rw [HS.out, if_neg HC.out]; rfl⟩
        case measure => simp [intOf] <;> omega
    · obtain rfl : k = s.size := by omega
      go_wp2
      go_ret
      exact ⟨ret_int (by rw [List.take_of_length_le (by simp)]), rfl⟩

def digOk (d : Int) : Bool := decide (1 ≤ d ∧ d ≤ 9)
theorem isDigit_is (b : Bool) (n : Int) (w : World) (h : digOk n = b) :
    Calls Try.prog 44 #[.int .i64 n] w fun e w' => e = .returned (.bool b) ∧ w = w' := by
  have H := Lib.hid h; clear h
  go_enter Try.func44, Try.ntmps44
  go_wp2_with fail
  refine (isWithin_is b _ _ _ _ H.out).mono ?_
  rintro e w1 ⟨rfl, rfl⟩
  go_wp2_with fail
  go_ret
  exact ⟨rfl, rfl⟩

end Go.Proofs.Ytgmknehioadjhaa
