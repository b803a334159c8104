/- The law RunsOf. -/
import Derived.Test.YtjjkfffddfanaaaW1
import Derived.Test.YtjjkfffddfanaaaI17
namespace Go.Proofs.Ytjjkfffddfanaaa
open Go.RowKit Go.BigFrame
set_option linter.unusedSimpArgs false
set_option linter.unusedVariables false
set_option maxRecDepth 4000

set_option maxHeartbeats 2000000 in
theorem law_RunsOf (s : ByteArray) (w : World) (hs : s.size ≤ maxLen) :
    Calls Try.prog 5 #[.string s] w fun e w' => e = .returned (.bool true) ∧ Below w.heap.size w w' := by
  by_cases hb : 1048576 < s.size
  · go_enter Try.func5, Try.ntmps5
    go_wp2_with fail
    go_ret
    exact ⟨rfl, Below.refl _ _⟩
  · obtain ⟨y, hy⟩ : ∃ y, y = goodL s.data.toList := ⟨_, rfl⟩
    obtain ⟨nss, hn⟩ : ∃ nss, nss = rowsN s.data.toList := ⟨_, rfl⟩
    have htot : totalSS nss ≤ 800 := by rw [hn]; exact rowsN_total _
    obtain ⟨tt, ht⟩ : ∃ tt, tt = 1 + totalSS nss := ⟨_, rfl⟩
    have ht2 : tt ≤ 801 := by omega
    have ht1 : 1 ≤ tt := by omega
    have e1 : ((tt : Int) != (tt : Int)) = false := by simp
    have e2 : (y != y) = false := by simp
    have HY := Lib.hid hy; have HN := Lib.hid hn; have HT := Lib.hid ht; have HTT := Lib.hid htot; clear hy hn ht htot
    go_enter Try.func5, Try.ntmps5
    go_wp2_with fail
    refine (specRunsOf_any s w hs).mono ?_
    intro e w1 h1
    obtain ⟨v0, vs0, rfl, h2, h3⟩ := rowsOk_ints h1
    rw [← HY.out]; rw [← HN.out] at h2
    have A1 := Lib.hid h2; have B1 := Lib.hid h3; clear h1 h2 h3
    go_wp2_with fail
    refine (implRunsOf_any s w1 hs).mono ?_
    intro e w2 h1
    obtain ⟨v1, vs1, rfl, h2, h3⟩ := rowsOk_ints h1
    rw [← HY.out]; rw [← HN.out] at h2
    have A2 := Lib.hid h2; have B2 := Lib.hid h3; clear h1 h2 h3
    go_wp2_with fail
    refine (eqIntSS_same w2 _ _ v1 v0 vs1 vs0 nss A2.out (ownsRR_below A1.out B2.out)).mono ?_
    rintro e w3 ⟨rfl, h3⟩
    have B3 := Lib.hid h3; clear h3
    go_wp2_with fail
    refine (markIntSS_any w3 _ 1 v1 vs1 nss (ownsRR_below A2.out B3.out) (by have := HTT.out; omega)).mono ?_
    rintro e w4 ⟨rfl, h4, h5⟩
    rw [← HT.out]
    have A4 := Lib.hid h4; have B4 := Lib.hid h5; clear h4 h5
    go_wp2_with fail
    refine (heldIntSS_any w4 _ 1 v1 vs1 nss A4.out (by have := HTT.out; omega)).mono ?_
    rintro e w5 ⟨rfl, h5⟩
    rw [← HT.out]
    have B5 := Lib.hid h5; clear h5
    go_wp2_with fail
    refine (implRunsOf_any s w5 hs).mono ?_
    intro e w6 h1
    obtain ⟨v6, vs6, rfl, h2, h3⟩ := rowsOk_ints h1
    rw [← HY.out]; rw [← HN.out] at h2
    have A6 := Lib.hid h2; have B6 := Lib.hid h3; clear h1 h2 h3
    go_wp2_with fail
    have C6 := Lib.hid (below_trans (below_trans ((below_trans B2.out B3.out).trans B4.out) B5.out) B6.out)
    have A1' : Hid (IntsRR w6 w.heap.size v0 vs0 nss) := ownsRR_below A1.out C6.out
    refine (eqIntSS_same w6 _ _ v6 v0 vs6 vs0 nss A6.out A1'.out).mono ?_
    rintro e w7 ⟨rfl, h7⟩
    have B7 := Lib.hid h7; clear h7
    go_wp2_with fail
    refine (heldIntSS_any w7 _ 1 v1 vs1 nss (ownsRR_below A4.out (below_trans B5.out (below_trans B6.out B7.out))) (by have := HTT.out; omega)).mono ?_
    rintro e w8 ⟨rfl, h8⟩
    rw [← HT.out]
    have B8 := Lib.hid h8; clear h8
    go_wp2_with fail
    go_ret
    exact ⟨rfl, below_trans B1.out (below_trans C6.out (below_trans B7.out B8.out))⟩

end Go.Proofs.Ytjjkfffddfanaaa
