/- The law CountsOf. -/
import Derived.Test.YtfkaghiopnaghaaT4
namespace Go.Proofs.Ytfkaghiopnaghaa
open Go.RowKit Go.BigFrame
set_option linter.unusedSimpArgs false
set_option linter.unusedVariables false
set_option maxRecDepth 4000

set_option maxHeartbeats 1000000 in
theorem law_CountsOf (s : ByteArray) (w : World) (hs : s.size ≤ maxLen) :
    Calls Try.prog 3 #[.string s] w fun e w' => e = .returned (.bool true) ∧ Below w.heap.size w w' := by
  by_cases hb : 1048576 < s.size
  · go_enter Try.func3, Try.ntmps3
    go_wp2_with fail
    go_ret
    exact ⟨rfl, Below.refl _ _⟩
  · obtain ⟨op, hop⟩ : ∃ op, op = (if goodL s.data.toList = true then some (ti (tal s.data.toList)) else none) := ⟨_, rfl⟩
    obtain ⟨ns, hn⟩ : ∃ ns, ns = op.getD [] := ⟨_, rfl⟩
    obtain ⟨y, hy⟩ : ∃ y, y = op.isSome := ⟨_, rfl⟩
    have hlen : ns.length ≤ 1000 := by
      rw [hn, hop]
      split <;> simp [ti_len, tal_len]
    have e2 : (y != y) = false := by simp
    obtain ⟨tt, ht⟩ : ∃ tt, tt = 1 + ns.length := ⟨_, rfl⟩
    have ht2 : tt ≤ 1001 := by omega
    have ht1 : 1 ≤ tt := by omega
    have e1 : ((tt : Int) != (tt : Int)) = false := by simp
    have HS := Lib.hid (fun (W : World) => specCountsOf_any s W hs); have HI := Lib.hid (fun (W : World) => implCountsOf_any s W hs)
    rw [← hop] at HS HI
    unfold IntsAOk at HS HI
    rw [← hy, ← hn] at HS HI
    have HN := Lib.hid hn; have HT := Lib.hid ht; have HLEN := Lib.hid hlen
    clear hy hn ht hlen hop
    go_enter Try.func3, Try.ntmps3
    go_wp2_with fail
    refine (HS.out w).mono ?_
    rintro e w1 ⟨v0, rfl, h2, h3, _⟩
    have A1 := Lib.hid h2; have B1 := Lib.hid h3; clear h2 h3
    go_wp2_with fail
    refine (HI.out w1).mono ?_
    rintro e w2 ⟨v1, rfl, h2, h3, _⟩
    have A2 := Lib.hid h2; have B2 := Lib.hid h3; clear h2 h3
    go_wp2_with fail
    refine (eqIntA_same w2 _ _ v1 v0 ns A2.out (intsA_below A1.out B2.out)).mono ?_
    rintro e w3 ⟨rfl, h3⟩
    have B3 := Lib.hid h3; clear h3
    go_wp2_with fail
    refine (markIntA_any w3 _ 1 v1 ns (intsA_below A2.out B3.out) (by have := HLEN.out; omega)).mono ?_
    rintro e w4 ⟨rfl, h4, h5, _⟩
    rw [← HT.out]
    have hb4 : Below w1.heap.size w3 w4 := h5
    have A4 := Lib.hid h4; have B4 := Lib.hid hb4; clear h4 h5 hb4
    go_wp2_with fail
    refine (heldIntA_any w4 _ 1 ns.length v1 A4.out (by have := HLEN.out; omega)).mono ?_
    rintro e w5 ⟨rfl, h5⟩
    rw [← HT.out]
    have B5 := Lib.hid h5; clear h5
    go_wp2_with fail
    refine (HI.out w5).mono ?_
    rintro e w6 ⟨v6, rfl, h2, h3, _⟩
    have A6 := Lib.hid h2; have B6 := Lib.hid h3; clear h2 h3
    go_wp2_with fail
    have C6 := Lib.hid (below_trans (below_trans ((below_trans B2.out B3.out).trans B4.out) B5.out) B6.out)
    have A1' : Hid (IntsA w6 w.heap.size v0 ns) := intsA_below A1.out C6.out
    refine (eqIntA_same w6 _ _ v6 v0 ns A6.out A1'.out).mono ?_
    rintro e w7 ⟨rfl, h7⟩
    have B7 := Lib.hid h7; clear h7
    go_wp2_with fail
    refine (heldIntA_any w7 _ 1 ns.length v1 (intsA_below A4.out (below_trans B5.out (below_trans B6.out B7.out))) (by have := HLEN.out; omega)).mono ?_
    rintro e w8 ⟨rfl, h8⟩
    rw [← HT.out]
    have B8 := Lib.hid h8; clear h8
    go_wp2_with fail
    go_ret
    exact ⟨rfl, below_trans B1.out (below_trans C6.out (below_trans B7.out B8.out))⟩

end Go.Proofs.Ytfkaghiopnaghaa
