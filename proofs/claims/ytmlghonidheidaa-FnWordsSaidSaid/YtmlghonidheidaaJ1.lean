/- LongestRun, SumOfWord: the model's and the program's, and the laws. -/
import Derived.Test.YtmlghonidheidaaI4
import Derived.Test.YtmlghonidheidaaI5
namespace Go.Proofs.Ytmlghonidheidaa
open Go.RowKit Go.BigFrame
set_option linter.unusedSimpArgs false
set_option linter.unusedVariables false
set_option maxRecDepth 4000

theorem specLongestRun_any (s : ByteArray) (w : World) (hs : s.size ≤ maxLen) :
    Calls Try.prog 16 #[.string s] w fun e w' => e = .returned (.tuple #[.int .i64 (if goodL s.data.toList = true then (longL s.data.toList : Int) else 0), .bool (goodL s.data.toList)]) ∧ Below w.heap.size w w' := by
  cases hg : goodL s.data.toList with
  | false =>
    have HG := Lib.hid hg; clear hg
    go_enter Try.func16, Try.ntmps16
    go_wp2_with fail
    refine (woGood_any s w hs).mono ?_
    rintro e w1 ⟨rfl, rfl⟩
    rw [HG.out]
    go_wp2_with fail
    go_ret2
    exact ⟨rfl, Below.refl _ _⟩
  | true =>
    obtain ⟨h1, h2, h3⟩ := goodL_parts hg
    have HG := Lib.hid hg; clear hg
    go_enter Try.func16, Try.ntmps16
    go_wp2_with fail
    refine (woGood_any s w hs).mono ?_
    rintro e w1 ⟨rfl, rfl⟩
    rw [HG.out]
    go_wp2_with fail
    refine (woLongest_any s w h1 h2 h3).mono ?_
    rintro e w1 ⟨rfl, hb⟩
    have HB := Lib.hid hb; clear hb
    go_wp2_with fail
    go_ret2
    exact ⟨rfl, HB.out⟩

def sumL (l : List UInt8) : Int := l.foldl (fun a c => a + ((c.toNat : Int) - 48)) 0
theorem sumL_snoc (s : ByteArray) (k : Nat) (h : k < s.size) : sumL (s.data.toList.take (k + 1)) = sumL (s.data.toList.take k) + ((s[k].toNat : Int) - 48) := by
  rw [take_snoc s k h]; simp [sumL]

set_option maxHeartbeats 1000000 in
theorem specSumOfWord_any (s : ByteArray) (w : World) (hs : s.size ≤ maxLen) :
    Calls Try.prog 24 #[.string s] w fun e w' => e = .returned (intOk (goodL s.data.toList) (sumL s.data.toList)) ∧ Below w.heap.size w w' := by
  cases hg : goodL s.data.toList with
  | false =>
    have HG := Lib.hid hg; clear hg
    go_enter Try.func24, Try.ntmps24
    go_wp2_with fail
    refine (woGood_any s w hs).mono ?_
    rintro e w1 ⟨rfl, rfl⟩
    rw [HG.out]
    go_wp2_with fail
    go_ret2
    exact ⟨rfl, Below.refl _ _⟩
  | true =>
    obtain ⟨h1, h2, h3⟩ := goodL_parts hg
    have HG := Lib.hid hg; have HD := Lib.hid h3; clear hg h3
    go_enter Try.func24, Try.ntmps24
    go_wp2_with fail
    refine (woGood_any s w hs).mono ?_
    rintro e w1 ⟨rfl, rfl⟩
    rw [HG.out]
    go_wp2_with fail
    go_loop [4, 5] (fun m i => ∃ (k : Nat) (q : Int), k ≤ s.size ∧ i = .int .i64 k ∧ m = .int .i64 q ∧ 0 ≤ q ∧ q ≤ 9 * (k : Int) ∧ Hid (q = sumL (s.data.toList.take k))) (fun _ i => s.size - (intOf i).toNat)
    case atStart => exact ⟨0, 0, Nat.zero_le _, rfl, rfl, by omega, by omega, rfl⟩
    case round =>
      obtain ⟨k, q, hk, rfl, rfl, hq0, hq1, HQ⟩ := hrel
      by_cases hlt : k < s.size
      · obtain ⟨hd1, hd2⟩ := dig_at s HD.out k hlt
        have HS := Lib.hid (sumL_snoc s k hlt)
        go_wp2_with fail
        go_round
        case rel => exact ⟨k + 1, _, by omega, by go_num, rfl, by omega, by omega, by rw [HS.out, ← HQ.out]; exact rfl⟩
        case measure => simp [intOf] <;> omega
      · obtain rfl : k = s.size := by omega
        go_wp2_with fail
        go_ret2
        exact ⟨by rw [HQ.out, List.take_of_length_le (by simp)]; rfl, Below.refl _ _⟩

set_option maxHeartbeats 1000000 in
theorem implSumOfWord_any (s : ByteArray) (w : World) (hs : s.size ≤ maxLen) :
    Calls Try.prog 23 #[.string s] w fun e w' => e = .returned (intOk (goodL s.data.toList) (sumL s.data.toList)) ∧ Below w.heap.size w w' := by
  cases hg : goodL s.data.toList with
  | false =>
    have HG := Lib.hid hg; clear hg
    go_enter Try.func23, Try.ntmps23
    go_wp2_with fail
    refine (implIsWord_any s w hs).mono ?_
    rintro e w1 ⟨rfl, rfl⟩
    rw [HG.out]
    go_wp2_with fail
    go_ret2
    exact ⟨rfl, Below.refl _ _⟩
  | true =>
    obtain ⟨h1, h2, h3⟩ := goodL_parts hg
    have HG := Lib.hid hg; have HD := Lib.hid h3; clear hg h3
    go_enter Try.func23, Try.ntmps23
    go_wp2_with fail
    refine (implIsWord_any s w hs).mono ?_
    rintro e w1 ⟨rfl, rfl⟩
    rw [HG.out]
    go_wp2_with fail
    go_loop [4, 11] (fun m i => ∃ (k : Nat) (q : Int), k ≤ s.size ∧ i = .int .i64 k ∧ m = .int .i64 q ∧ 0 ≤ q ∧ q ≤ 9 * (k : Int) ∧ Hid (q = sumL (s.data.toList.take k))) (fun _ i => s.size - (intOf i).toNat)
    case atStart => exact ⟨0, 0, Nat.zero_le _, rfl, rfl, by omega, by omega, rfl⟩
    case round =>
      obtain ⟨k, q, hk, rfl, rfl, hq0, hq1, HQ⟩ := hrel
      by_cases hlt : k < s.size
      · obtain ⟨hd1, hd2⟩ := dig_at s HD.out k hlt
        have HS := Lib.hid (sumL_snoc s k hlt)
        go_wp2_with (go_at_call 40; refine (digitOf_is _ _ (by omega) (by omega)).mono ?_; rintro e w' ⟨rfl, rfl⟩)
        go_round
        case rel => exact ⟨k + 1, _, by omega, by go_num, rfl, by omega, by omega, by rw [HS.out, ← HQ.out]; exact rfl⟩
        case measure => simp [intOf] <;> omega
      · obtain rfl : k = s.size := by omega
        go_wp2_with fail
        go_ret2
        exact ⟨by rw [HQ.out, List.take_of_length_le (by simp)]; rfl, Below.refl _ _⟩

end Go.Proofs.Ytmlghonidheidaa
