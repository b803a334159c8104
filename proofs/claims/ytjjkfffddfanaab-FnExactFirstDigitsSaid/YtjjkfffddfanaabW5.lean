/- FirstDigits: the model's, and the law's walk. -/
import Derived.Test.YtjjkfffddfanaabK6
import Derived.Test.YtjjkfffddfanaabE2
namespace Go.Proofs.Ytjjkfffddfanaab
open Go.RowKit Go.BigFrame
set_option linter.unusedSimpArgs false
set_option linter.unusedVariables false

theorem specFirstDigits_any (s : ByteArray) (w : World) (hs : s.size ≤ maxLen) :
    Calls Try.prog 27 #[.string s] w fun e w' => IntsOk (elB s.data.toList) (digsN (firstsL s.data.toList)) w w' e := by
  cases hk : elB s.data.toList with
  | false =>
    have HK := Lib.hid hk; clear hk
    go_enter Try.func27, Try.ntmps27
    go_wp2_with fail
    refine (elGood_any s w hs).mono ?_
    rintro e w1 ⟨rfl, hb⟩
    rw [HK.out]
    have HB := Lib.hid hb; clear hb
    go_wp2_with fail
    go_ret2
    exact ⟨_, rfl, World.ownsRow_nil _ _ _ _, HB.out⟩
  | true =>
    obtain ⟨_, hsp, h60⟩ := elB_parts hk
    have hs60 : s.size ≤ 60 := by rw [← size_list]; exact h60
    have HK := Lib.hid hk; have HSP := Lib.hid hsp; clear hk hsp h60
    go_enter Try.func27, Try.ntmps27
    go_wp2_with fail
    refine (elGood_any s w hs).mono ?_
    rintro e w1 ⟨rfl, hb⟩
    rw [HK.out]
    have HB := Lib.hid hb; clear hb
    go_wp2_with fail
    refine (elFirsts_any s w1 HSP.out (by omega)).mono ?_
    rintro e w2 ⟨v, rfl, hv, hb2⟩
    have HV := Lib.hid hv; have HB2 := Lib.hid hb2; clear hv hb2
    go_wp2_with fail
    go_ret2
    exact ⟨_, rfl, by rw [if_pos rfl]; exact own_mono HV.out HB.out.size, below_trans HB.out HB2.out⟩
theorem firsts_len {l : List UInt8} (_ : elB l = true) : (digsN (firstsL l)).length ≤ 1000 := by simp [digsN, firstsL]

set_option maxHeartbeats 1000000 in
theorem law_FirstDigits (s : ByteArray) (w : World) (hs : s.size ≤ maxLen) :
    Calls Try.prog 9 #[.string s] w fun e w' => e = .returned (.bool true) ∧ Below w.heap.size w w' := by
  by_cases hb : 1048576 < s.size
  · go_enter Try.func9, Try.ntmps9
    go_wp2_with fail
    go_ret
    exact ⟨rfl, Below.refl _ _⟩
  · obtain ⟨y, hy⟩ : ∃ y, y = elB s.data.toList := ⟨_, rfl⟩
    obtain ⟨ns, hn⟩ : ∃ ns, ns = if y = true then digsN (firstsL s.data.toList) else [] := ⟨_, rfl⟩
    have hlen : ns.length ≤ 1000 := by
      rw [hn]
      split
      · rename_i h; rw [hy] at h; exact firsts_len h
      · simp
    have e2 : (y != y) = false := by simp
    obtain ⟨tt, ht⟩ : ∃ tt, tt = 1 + ns.length := ⟨_, rfl⟩
    have ht2 : tt ≤ 1001 := by omega
    have ht1 : 1 ≤ tt := by omega
    have e1 : ((tt : Int) != (tt : Int)) = false := by simp
    have HS := Lib.hid (fun (W : World) => specFirstDigits_any s W hs); have HI := Lib.hid (fun (W : World) => implFirstDigits_any s W hs)
    rw [← hy] at HS HI
    have HN := Lib.hid hn; have HT := Lib.hid ht; have HLEN := Lib.hid hlen
    clear hy hn ht hlen
    go_enter Try.func9, Try.ntmps9
    go_wp2_with fail
    refine (HS.out w).mono ?_
    rintro e w1 ⟨v0, rfl, h2, h3⟩
    rw [← HN.out] at h2
    have A1 := Lib.hid h2; have B1 := Lib.hid h3; clear h2 h3
    go_wp2_with fail
    refine (HI.out w1).mono ?_
    rintro e w2 ⟨v1, rfl, h2, h3⟩
    rw [← HN.out] at h2
    have A2 := Lib.hid h2; have B2 := Lib.hid h3; clear h2 h3
    go_wp2_with fail
    refine (eqIntS_same w2 _ _ v1 v0 ns A2.out (own_below A1.out B2.out)).mono ?_
    rintro e w3 ⟨rfl, h3⟩
    have B3 := Lib.hid h3; clear h3
    go_wp2_with fail
    refine (markIntS_any w3 _ 1 v1 ns (own_below A2.out B3.out) (by have := HLEN.out; omega)).mono ?_
    rintro e w4 ⟨rfl, h4, h5⟩
    rw [← HT.out]
    have hb4 : Below w1.heap.size w3 w4 := (Below.refl _ w3).grown h5 (Nat.le_trans B2.out.size B3.out.size) (fun g hg => ((own_below A2.out B3.out).lt g hg).1)
    have A4 := Lib.hid h4; have B4 := Lib.hid hb4; clear h4 h5 hb4
    go_wp2_with fail
    refine (heldIntS_any w4 _ 1 ns.length v1 A4.out (by have := HLEN.out; omega)).mono ?_
    rintro e w5 ⟨rfl, h5⟩
    rw [← HT.out]
    have B5 := Lib.hid h5; clear h5
    go_wp2_with fail
    refine (HI.out w5).mono ?_
    rintro e w6 ⟨v6, rfl, h2, h3⟩
    rw [← HN.out] at h2
    have A6 := Lib.hid h2; have B6 := Lib.hid h3; clear h2 h3
    go_wp2_with fail
    have C6 := Lib.hid (below_trans (below_trans ((below_trans B2.out B3.out).trans B4.out) B5.out) B6.out)
    have A1' : Hid (Ints w6 w.heap.size v0 ns) := own_below A1.out C6.out
    refine (eqIntS_same w6 _ _ v6 v0 ns A6.out A1'.out).mono ?_
    rintro e w7 ⟨rfl, h7⟩
    have B7 := Lib.hid h7; clear h7
    go_wp2_with fail
    refine (heldIntS_any w7 _ 1 ns.length v1 (own_below A4.out (below_trans B5.out (below_trans B6.out B7.out))) (by have := HLEN.out; omega)).mono ?_
    rintro e w8 ⟨rfl, h8⟩
    rw [← HT.out]
    have B8 := Lib.hid h8; clear h8
    go_wp2_with fail
    go_ret
    exact ⟨rfl, below_trans B1.out (below_trans C6.out (below_trans B7.out B8.out))⟩
end Go.Proofs.Ytjjkfffddfanaab
