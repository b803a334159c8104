/- FirstTime's law. -/
import Derived.Test.YtgmknehioadjhaaME
namespace Go.Proofs.Ytgmknehioadjhaa
open Go.RowKit Go.BigFrame Go.Maps
set_option linter.unusedSimpArgs false
set_option linter.unusedVariables false
set_option maxRecDepth 4000

set_option maxHeartbeats 1000000 in
theorem law_FirstTime (s : ByteArray) (t : ByteArray) (w : World) (hs : s.size ≤ maxLen) (ht : t.size ≤ maxLen) :
    Calls Try.prog 9 #[.string s, .string t] w fun e w' => e = .returned (.bool true) ∧ Below w.heap.size w w' := by
  by_cases hbs : 1048576 < s.size
  · go_enter Try.func9, Try.ntmps9
    go_wp2_with fail
    go_ret
    exact ⟨rfl, Below.refl _ _⟩
  by_cases hbt : 1048576 < t.size
  · go_enter Try.func9, Try.ntmps9
    go_wp2_with fail
    go_ret
    exact ⟨rfl, Below.refl _ _⟩
  have HS := Lib.hid (fun (W : World) => specFirstTime_any s t W hs ht); have HI := Lib.hid (fun (W : World) => implFirstTime_any s t W hs ht)
  obtain ⟨v, hv⟩ : ∃ v, v = ftV s.data.toList t.data.toList := ⟨_, rfl⟩
  obtain ⟨b, hb⟩ : ∃ b, b = ftB s.data.toList t.data.toList := ⟨_, rfl⟩
  rw [← hv, ← hb] at HS HI
  clear hv hb
  have e1 : (v != v) = false := by simp
  have e2 : (b != b) = false := by simp
  go_enter Try.func9, Try.ntmps9
  go_wp2_with fail
  refine (HS.out w).mono ?_
  rintro e w1 ⟨rfl, h1⟩
  have B1 := Lib.hid h1; clear h1
  go_wp2_with fail
  refine (HI.out w1).mono ?_
  rintro e w2 ⟨rfl, h1⟩
  have B2 := Lib.hid h1; clear h1
  go_wp2_with fail
  go_ret
  exact ⟨rfl, below_trans B1.out B2.out⟩
end Go.Proofs.Ytgmknehioadjhaa
