/- The walk of the law HearTimes. -/
import Derived.Test.YtjjkfffddfanaaaI14
namespace Go.Proofs.Ytjjkfffddfanaaa
open Go.RowKit Go.BigFrame
set_option linter.unusedSimpArgs false
set_option linter.unusedVariables false
set_option maxRecDepth 4000

set_option maxHeartbeats 1000000 in
theorem law_HearTimes (s : ByteArray) (w : World) (hs : s.size ≤ maxLen) :
    Calls Try.prog 10 #[.string s] w fun e w' => e = .returned (.bool true) ∧ Below w.heap.size w w' := by
  by_cases hb : 1048576 < s.size
  · go_enter Try.func10, Try.ntmps10
    go_wp2_with fail
    go_ret
    exact ⟨rfl, Below.refl _ _⟩
  · cases hk : goodL s.data.toList
    · have HK := Lib.hid (show htV s.data.toList = .tuple #[.string ⟨#[]⟩, .int .i64 0, .bool false] from by unfold htV; rw [if_neg (by rw [hk]; simp)]); clear hk
      go_enter Try.func10, Try.ntmps10
      go_wp2_with fail
      refine (specHearTimes_any s w hs).mono ?_
      rintro e w1 ⟨rfl, h1⟩
      rw [HK.out]
      have H1 := Lib.hid h1; clear h1
      go_wp2_with fail
      refine (implHearTimes_any s w1 hs).mono ?_
      rintro e w2 ⟨rfl, h2⟩
      rw [HK.out]
      have H2 := Lib.hid h2; clear h2
      go_wp2_with fail
      go_ret
      exact ⟨rfl, below_trans H1.out H2.out⟩
    · obtain ⟨r, hr⟩ : ∃ r, r = bs (htGo 20 s.data.toList).1 := ⟨_, rfl⟩
      obtain ⟨q, hq⟩ : ∃ q, q = ((htGo 20 s.data.toList).2 : Int) := ⟨_, rfl⟩
      have HK := Lib.hid (show htV s.data.toList = .tuple #[.string r, .int .i64 q, .bool true] from by unfold htV; rw [if_pos hk, hr, hq]); clear hk hr hq
      go_enter Try.func10, Try.ntmps10
      go_wp2_with fail
      refine (specHearTimes_any s w hs).mono ?_
      rintro e w1 ⟨rfl, h1⟩
      rw [HK.out]
      have H1 := Lib.hid h1; clear h1
      go_wp2_with fail
      refine (implHearTimes_any s w1 hs).mono ?_
      rintro e w2 ⟨rfl, h2⟩
      rw [HK.out]
      have H2 := Lib.hid h2; clear h2
      go_wp2_with fail
      go_ret
      exact ⟨rfl, below_trans H1.out H2.out⟩
end Go.Proofs.Ytjjkfffddfanaaa
