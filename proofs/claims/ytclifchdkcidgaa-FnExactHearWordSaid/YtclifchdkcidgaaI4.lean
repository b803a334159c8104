/- LengthSaid, IsStill, SumOfWord, LongestRun: the model's and the program's. -/
import Derived.Test.YtclifchdkcidgaaI3
namespace Go.Proofs.Ytclifchdkcidgaa
open Go.RowKit Go.BigFrame
set_option linter.unusedSimpArgs false
set_option linter.unusedVariables false

/-- A number and a bool, or 0 and false. -/
def intOk (b : Bool) (n : Int) : Value := .tuple #[.int .i64 (if b = true then n else 0), .bool b]
def lenSaid (l : List UInt8) : Int := 2 * ((runsL l).length : Int)
theorem specLengthSaid_any (s : ByteArray) (w : World) (hs : s.size ≤ maxLen) :
    Calls Try.prog 41 #[.string s] w fun e w' => e = .returned (intOk (speakL s.data.toList) (lenSaid s.data.toList)) ∧ Below w.heap.size w w' := by
  cases hk : speakL s.data.toList with
  | false =>
    have HK := Lib.hid hk; clear hk
    go_enter Try.func41, Try.ntmps41
    go_wp2_with fail
    refine (woSpeakable_any s w hs).mono ?_
    rintro e w1 ⟨rfl, hb⟩
    rw [HK.out]
    have HB := Lib.hid hb; clear hb
    go_wp2_with fail
    go_ret2
    exact ⟨rfl, HB.out⟩
  | true =>
    obtain ⟨h1, h2, h3⟩ := goodL_parts (speak_good hk)
    have HK := Lib.hid hk; clear hk
    go_enter Try.func41, Try.ntmps41
    go_wp2_with fail
    refine (woSpeakable_any s w hs).mono ?_
    rintro e w1 ⟨rfl, hb⟩
    rw [HK.out]
    have HB := Lib.hid hb; clear hb
    go_wp2_with fail
    refine (woRuns_any s w1 h2 h3).mono ?_
    rintro e w2 ⟨v, vs, rfl, hrr, hb2⟩
    have hlen : (rowsL s.data.toList).length = (runsL s.data.toList).length := by simp [rowsL]
    have hN4 : (runsL s.data.toList).length ≤ 400 := Nat.le_trans (runsL_len _) (by simpa using h2)
    have HB2 := Lib.hid hb2
    obtain ⟨n, hn⟩ : ∃ n, n = (runsL s.data.toList).length := ⟨_, rfl⟩
    rw [← hn] at hlen hN4
    rcases ownsRR_open hrr with ⟨rfl, _, hx⟩ | ⟨g, cap, rfl, hc1, hc2, _⟩
    · exact absurd hx (by simp [rowsL]; exact runsL_ne (by simpa using h1))
    · rw [hlen] at *
      have HN := Lib.hid hn
      clear hrr hb2 hn hlen
      go_wp2_with fail
      go_ret2
      exact ⟨by unfold intOk lenSaid; rw [if_pos rfl, ← HN.out]; rfl, below_trans HB.out HB2.out⟩

theorem implLengthSaid_any (s : ByteArray) (w : World) (hs : s.size ≤ maxLen) :
    Calls Try.prog 42 #[.string s] w fun e w' => e = .returned (intOk (speakL s.data.toList) (lenSaid s.data.toList)) ∧ Below w.heap.size w w' := by
  obtain ⟨y, hy⟩ : ∃ y, y = goodL s.data.toList := ⟨_, rfl⟩
  have HY := Lib.hid hy; clear hy
  cases hk : speakL s.data.toList with
  | false =>
    have HK := Lib.hid hk; clear hk
    go_enter Try.func42, Try.ntmps42
    go_wp2_with fail
    refine (implIsSpeakable_any s w hs).mono ?_
    rintro e w1 ⟨rfl, hb⟩
    rw [HK.out, ← HY.out]
    have HB := Lib.hid hb; clear hb
    go_wp2_with fail
    go_ret2
    exact ⟨rfl, HB.out⟩
  | true =>
    obtain ⟨h1, h2, h3⟩ := goodL_parts (speak_good hk)
    have HK := Lib.hid hk; clear hk
    go_enter Try.func42, Try.ntmps42
    go_wp2_with fail
    refine (implIsSpeakable_any s w hs).mono ?_
    rintro e w1 ⟨rfl, hb⟩
    rw [HK.out, ← HY.out]
    have HB := Lib.hid hb; clear hb
    go_wp2_with (refine wpList_bytes _ rfl 9 50 _ rfl 5 Try.underlying9 Try.underlying50 Try.underlying5 s rfl hs ?_; intro w2 cap hb hsz hcap hcm hcell hfr)
    have hz : s.size = s.data.toList.length := by simp
    have hcell2 : ∀ i (h : i < s.data.toList.length), w2.cell? ⟨w1.heap.size, i, none⟩ = some (.int .u8 (s.data.toList[i].toNat : Int)) := fun i h => hcell i (by rw [hz]; exact h)
    have hp := runParts_any s.data.toList w1.heap.size cap w2 (by rw [← hz]; exact h2) (by rw [← hz]; exact hcap) hcm hsz hcell2
    rw [← hz] at hp
    have HP := Lib.hid hp
    have HB2 := Lib.hid hb
    clear hp hcell hcell2 hfr hb hz
    go_wp2_with fail
    refine HP.out.mono ?_
    rintro e w3 ⟨v, rfl, hown, hb3⟩
    have hN4 : (runsL s.data.toList).length ≤ 400 := Nat.le_trans (runsL_len _) (by simpa using h2)
    obtain ⟨av, cv, rfl⟩ := own_slice hown
    have HB3 := Lib.hid hb3
    obtain ⟨n, hn⟩ : ∃ n, n = (runsL s.data.toList).length := ⟨_, rfl⟩
    rw [← hn] at hN4 ⊢
    have HN := Lib.hid hn
    clear hown hb3 hn
    go_wp2_with fail
    go_ret2
    exact ⟨by unfold intOk lenSaid; rw [if_pos rfl, ← HN.out]; rfl, below_trans HB.out (below_trans HB2.out HB3.out)⟩

theorem law_LengthSaid (s : ByteArray) (w : World) (hs : s.size ≤ maxLen) :
    Calls Try.prog 12 #[.string s] w fun e w' => e = .returned (.bool true) ∧ Below w.heap.size w w' := by
  by_cases hb : 1048576 < s.size
  · go_enter Try.func12, Try.ntmps12
    go_wp2_with fail
    go_ret
    exact ⟨rfl, Below.refl _ _⟩
  · obtain ⟨x, hx⟩ : ∃ x, x = (if speakL s.data.toList = true then lenSaid s.data.toList else 0) := ⟨_, rfl⟩
    obtain ⟨y, hy⟩ : ∃ y, y = speakL s.data.toList := ⟨_, rfl⟩
    have HX : Hid (intOk (speakL s.data.toList) (lenSaid s.data.toList) = .tuple #[.int .i64 x, .bool y]) := by rw [hx, hy]; exact rfl
    clear hx hy
    have e1 : (x != x) = false := by simp
    have e2 : (y != y) = false := by simp
    go_enter Try.func12, Try.ntmps12
    go_wp2_with fail
    refine (specLengthSaid_any s w hs).mono ?_
    rintro e w1 ⟨rfl, h1⟩
    rw [HX.out]
    have H1 := Lib.hid h1; clear h1
    go_wp2_with fail
    refine (implLengthSaid_any s w1 hs).mono ?_
    rintro e w2 ⟨rfl, h2⟩
    rw [HX.out]
    have H2 := Lib.hid h2; clear h2
    go_wp2_with fail
    go_ret
    exact ⟨rfl, below_trans H1.out H2.out⟩
end Go.Proofs.Ytclifchdkcidgaa
