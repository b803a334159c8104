/- Chapter 8: the laws of NameOf and WordsOfName. -/
import Derived.Test.YtjnegoninojglaaDoormc
namespace Go.Proofs.YtjnegoninojglaaDoor
open Go.RowKit Go.BigFrame
set_option linter.unusedSimpArgs false
set_option linter.unusedVariables false
set_option maxRecDepth 4000

set_option maxHeartbeats 1000000 in
theorem law_NameOf (n : Int) (w : World) (NA : NamesAt w)  :
    Calls Tryd.prog 3 #[.int .i64 n] w fun e w' => e = .returned (.bool true) ∧ Below w.heap.size w w' := by
  have HS := Lib.hid (fun (W : World) => specNameOf_any n W)
  have HI := Lib.hid (fun (W : World) (hW : Below w.heap.size w W) => implNameOf_any n W (NA.below hW))
  generalize nameO n = O0 at *
  generalize nmB n = O1 at *
  have e0 : ((bs O0).toList != (bs O0).toList) = false := by simp
  have e1 : (O1 != O1) = false := by simp
  clear NA
  go_enter Tryd.func3, Tryd.ntmps3
  go_wp2_with fail
  refine (HS.out _).mono ?_
  rintro e w1 ⟨rfl, hb⟩
  have HB := Lib.hid hb; clear hb
  go_wp2_with fail
  refine (HI.out _ HB.out).mono ?_
  rintro e w2 ⟨rfl, hb⟩
  have HB2 := Lib.hid (below_trans HB.out hb); clear hb
  go_wp2_with fail
  go_ret
  exact ⟨rfl, HB2.out⟩

set_option maxHeartbeats 1000000 in
theorem law_WordsOfName (n : Int) (w : World) (NA : NamesAt w) :
    Calls Tryd.prog 5 #[.int .i64 n] w fun e w' => e = .returned (.bool true) ∧ Below w.heap.size w w' := by
  have HS := Lib.hid (fun (W : World) => specWordsOfName_any n W)
  have HI := Lib.hid (fun (W : World) (hW : Below w.heap.size w W) => implWordsOfName_any n W (NA.below hW))
  have hlen : (wordsO n).length ≤ 7 := by unfold wordsO; split; exact wdsN_len _; simp
  generalize wordsO n = ns at *
  generalize nmB n = y at *
  have e2 : (y != y) = false := by simp
  obtain ⟨tt, ht⟩ : ∃ tt, tt = 1 + ns.length := ⟨_, rfl⟩
  have ht2 : tt ≤ 1001 := by omega
  have ht1 : 1 ≤ tt := by omega
  have e1 : ((tt : Int) != (tt : Int)) = false := by simp
  have HT := Lib.hid ht; have HLEN := Lib.hid hlen
  clear ht hlen NA
  go_enter Tryd.func5, Tryd.ntmps5
  go_wp2_with fail
  refine (HS.out w).mono ?_
  rintro e w1 ⟨v0, rfl, h2, h3⟩
  have A1 := Lib.hid h2; have B1 := Lib.hid h3; clear h2 h3
  go_wp2_with fail
  refine (HI.out w1 B1.out).mono ?_
  rintro e w2 ⟨v1, rfl, h2, h3⟩
  have A2 := Lib.hid h2; have B2 := Lib.hid h3; clear h2 h3
  go_wp2_with fail
  refine (eqStringS_same w2 _ _ v1 v0 ns A2.out (own_below A1.out B2.out)).mono ?_
  rintro e w3 ⟨rfl, h3⟩
  have B3 := Lib.hid h3; clear h3
  go_wp2_with fail
  refine (markStringS_any w3 _ 1 v1 ns (own_below A2.out B3.out) (Nat.le_trans B2.out.size B3.out.size) (by have := HLEN.out; omega)).mono ?_
  rintro e w4 ⟨rfl, h4, h5⟩
  rw [← HT.out]
  have A4 := Lib.hid h4; have B4 := Lib.hid h5; clear h4 h5
  go_wp2_with fail
  refine (heldStringS_any w4 _ 1 ns.length v1 A4.out (by have := HLEN.out; omega)).mono ?_
  rintro e w5 ⟨rfl, h5⟩
  rw [← HT.out]
  have B5 := Lib.hid h5; clear h5
  have B05 := Lib.hid (below_trans (below_trans B1.out ((below_trans B2.out B3.out).trans B4.out)) B5.out)
  go_wp2_with fail
  refine (HI.out w5 B05.out).mono ?_
  rintro e w6 ⟨v6, rfl, h2, h3⟩
  have A6 := Lib.hid h2; have B6 := Lib.hid h3; clear h2 h3
  go_wp2_with fail
  have C6 := Lib.hid (below_trans (below_trans ((below_trans B2.out B3.out).trans B4.out) B5.out) B6.out)
  have A1' : Hid (Strs w6 w.heap.size v0 ns) := own_below A1.out C6.out
  refine (eqStringS_same w6 _ _ v6 v0 ns A6.out A1'.out).mono ?_
  rintro e w7 ⟨rfl, h7⟩
  have B7 := Lib.hid h7; clear h7
  go_wp2_with fail
  refine (heldStringS_any w7 _ 1 ns.length v1 (own_below A4.out (below_trans B5.out (below_trans B6.out B7.out))) (by have := HLEN.out; omega)).mono ?_
  rintro e w8 ⟨rfl, h8⟩
  rw [← HT.out]
  have B8 := Lib.hid h8; clear h8
  go_wp2_with fail
  go_ret
  exact ⟨rfl, below_trans B1.out (below_trans C6.out (below_trans B7.out B8.out))⟩
end Go.Proofs.YtjnegoninojglaaDoor
