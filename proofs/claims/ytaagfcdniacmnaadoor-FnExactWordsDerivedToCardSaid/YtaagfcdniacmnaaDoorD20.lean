/- WordsDerivedTo: the law. -/
import Derived.Test.YtaagfcdniacmnaaDoorD19
import Derived.Test.YtaagfcdniacmnaaDoorE3
namespace Go.Proofs.YtaagfcdniacmnaaDoor
open Go.RowKit Go.BigFrame Go.Shelf
set_option linter.unusedSimpArgs false
set_option linter.unusedVariables false
set_option maxRecDepth 4000

theorem wdO_len (l : List UInt8) : ((wdO l).getD []).length ≤ 16384 := by
  unfold wdO
  split
  · rw [Option.getD_some, List.length_mergeSort]
    have := wd_len l; omega
  · simp
set_option maxHeartbeats 1000000 in
theorem law_WordsDerivedTo (s : ByteArray) (w : World) (hs : s.size ≤ maxLen) :
    Calls Tryd.prog 9 #[.string s] w fun e w' => e = .returned (.bool true) ∧ Below w.heap.size w w' := by
  by_cases hb : 1048576 < s.size
  · go_enter Tryd.func9, Tryd.ntmps9
    go_wp2_with fail
    go_ret
    exact ⟨rfl, Below.refl _ _⟩
  have hl : s.data.toList.length ≤ maxLen := by simpa using hs
  have es : bs s.data.toList = s := (bs_eq rfl).symm
  obtain ⟨y, hy⟩ : ∃ y, y = (wdO s.data.toList).isSome := ⟨_, rfl⟩
  obtain ⟨ns, hn⟩ : ∃ ns, ns = (wdO s.data.toList).getD [] := ⟨_, rfl⟩
  have hlen : ns.length ≤ 16384 := by rw [hn]; exact wdO_len _
  have e2 : (y != y) = false := by simp
  obtain ⟨tt, ht⟩ : ∃ tt, tt = 1 + ns.length := ⟨_, rfl⟩
  have ht2 : tt ≤ 1000000 := by omega
  have ht1 : 1 ≤ tt := by omega
  have e1 : ((tt : Int) != (tt : Int)) = false := by simp
  have HS := Lib.hid (fun (W : World) => specWordsDerivedTo_any s.data.toList W hl); have HI := Lib.hid (fun (W : World) => implWordsDerivedTo_any s.data.toList W hl)
  unfold AllOk at HS HI
  rw [es] at HS HI
  rw [← hy, ← hn] at HS HI
  have HN := Lib.hid hn; have HT := Lib.hid ht; have HLEN := Lib.hid hlen
  clear hy hn ht hlen hl es
  go_enter Tryd.func9, Tryd.ntmps9
  go_wp2_with fail
  refine (HS.out w).mono ?_
  rintro e w1 ⟨v0, rfl, h2, h3⟩
  have A1 : Hid (Strs w1 w.heap.size v0 ns) := Lib.hid h2; have B1 := Lib.hid h3; clear h2 h3
  go_wp2_with fail
  refine (HI.out w1).mono ?_
  rintro e w2 ⟨v1, rfl, h2, h3⟩
  have A2 : Hid (Strs w2 w1.heap.size v1 ns) := Lib.hid h2; have B2 := Lib.hid h3; clear h2 h3
  go_wp2_with fail
  refine (eqStringS_same w2 _ _ v1 v0 ns A2.out (own_below A1.out B2.out)).mono ?_
  rintro e w3 ⟨rfl, h3⟩
  have B3 := Lib.hid h3; clear h3
  go_wp2_with fail
  refine (markStringS_any w3 _ 1 v1 ns (own_below A2.out B3.out) (Nat.le_trans B2.out.size B3.out.size) (by have := HLEN.out; omega)).mono ?_
  rintro e w4 ⟨rfl, h4, h5⟩
  rw [← HT.out]
  have A4 := Lib.hid h4; have B4 := Lib.hid h5; clear h4 h5
  go_wp2_with fail
  refine (heldStringS_any w4 _ 1 ns.length v1 A4.out (by have := HLEN.out; omega)).mono ?_
  rintro e w5 ⟨rfl, h5⟩
  rw [← HT.out]
  have B5 := Lib.hid h5; clear h5
  go_wp2_with fail
  refine (HI.out w5).mono ?_
  rintro e w6 ⟨v6, rfl, h2, h3⟩
  have A6 : Hid (Strs w6 w5.heap.size v6 ns) := Lib.hid h2; have B6 := Lib.hid h3; clear h2 h3
  go_wp2_with fail
  have C6 := Lib.hid (below_trans (below_trans ((below_trans B2.out B3.out).trans B4.out) B5.out) B6.out)
  have A1' : Hid (Strs w6 w.heap.size v0 ns) := own_below A1.out C6.out
  refine (eqStringS_same w6 _ _ v6 v0 ns A6.out A1'.out).mono ?_
  rintro e w7 ⟨rfl, h7⟩
  have B7 := Lib.hid h7; clear h7
  go_wp2_with fail
  refine (heldStringS_any w7 _ 1 ns.length v1 (own_below A4.out (below_trans B5.out (below_trans B6.out B7.out))) (by have := HLEN.out; omega)).mono ?_
  rintro e w8 ⟨rfl, h8⟩
  rw [← HT.out]
  have B8 := Lib.hid h8; clear h8
  go_wp2_with fail
  go_ret
  exact ⟨rfl, below_trans B1.out (below_trans C6.out (below_trans B7.out B8.out))⟩
end Go.Proofs.YtaagfcdniacmnaaDoor
