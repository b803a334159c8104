/- GolombList and BackList: the model's, the program's, and the laws. -/
import Derived.Test.YteiclnfeabfadaaG11
namespace Go.Proofs.Yteiclnfeabfadaa
open Go.RowKit Go.BigFrame Go.Maps
set_option linter.unusedSimpArgs false
set_option linter.unusedVariables false
set_option maxRecDepth 4000

def slF (f : Nat → Nat) (n : Int) : List Int := seqL (fun i => f (i + 1)) n.toNat
theorem slF_len {f : Nat → Nat} {n : Int} (h : gN n = true) : (slF f n).length ≤ 4000 := by
  obtain ⟨N, rfl, h1, h9⟩ := gN_open h
  rw [slF, seqL_len]; omega

set_option maxHeartbeats 1000000 in
theorem implGolombList_any (n : Int) (w : World) : Calls Try.prog 17 #[.int .i64 n] w fun e w' => ∃ v, e = .returned (.tuple #[v, .bool (gN n)]) ∧ Ints w' w.heap.size v (if gN n = true then slF gol n else []) ∧ Below w.heap.size w w' := by
  cases hb : gN n with
  | false =>
    unfold gN at hb
    have H1 := Lib.hid hb
    clear hb
    go_enter Try.func17, Try.ntmps17
    go_wp2_with fail
    refine (tellUpTo_bad n 1 _ w H1.out).mono ?_
    rintro e w1 ⟨rfl, rfl⟩
    go_wp2_with fail
    refine (seqList_nil w).mono ?_
    rintro e w2 ⟨v, rfl, HX⟩
    go_wp2_with fail
    go_ret2
    exact ⟨v, rfl, HX.out⟩
  | true =>
    obtain ⟨N, rfl, h1, h9⟩ := gN_open hb
    clear hb
    go_enter Try.func17, Try.ntmps17
    go_wp2_with fail
    refine (tellUpTo_golomb N w (by omega) (by omega)).mono ?_
    rintro e w1 ⟨D, rfl, HX⟩
    go_wp2_with fail
    refine (seqList_any w1 w.heap.size N N gol D HX.out.1 HX.out.2.1 (fun i hi => by have := gol_le (1 + i) (by omega); omega) h1 (by omega)).mono ?_
    rintro e w2 ⟨v, rfl, HY⟩
    go_wp2_with fail
    go_ret2
    refine ⟨v, rfl, ?_, below_trans HX.out.2.2 HY.out.2⟩
    have := own_mono HY.out.1 HX.out.2.2.size
    unfold Ints
    rw [slF, seqL_len]
    exact this

set_option maxHeartbeats 1000000 in
theorem implBackList_any (n : Int) (w : World) : Calls Try.prog 30 #[.int .i64 n] w fun e w' => ∃ v, e = .returned (.tuple #[v, .bool (gN n)]) ∧ Ints w' w.heap.size v (if gN n = true then slF bac n else []) ∧ Below w.heap.size w w' := by
  cases hb : gN n with
  | false =>
    unfold gN at hb
    have H1 := Lib.hid hb
    clear hb
    go_enter Try.func30, Try.ntmps30
    go_wp2_with fail
    refine (tellUpTo_bad n 1 _ w H1.out).mono ?_
    rintro e w1 ⟨rfl, rfl⟩
    go_wp2_with fail
    refine (seqList_nil w).mono ?_
    rintro e w2 ⟨v, rfl, HX⟩
    go_wp2_with fail
    go_ret2
    exact ⟨v, rfl, HX.out⟩
  | true =>
    obtain ⟨N, rfl, h1, h9⟩ := gN_open hb
    clear hb
    go_enter Try.func30, Try.ntmps30
    go_wp2_with fail
    refine (tellUpTo_back N w (by omega) (by omega)).mono ?_
    rintro e w1 ⟨D, rfl, HX⟩
    go_wp2_with fail
    refine (seqList_any w1 w.heap.size N N bac D HX.out.1 HX.out.2.1 (fun i hi => by have := (bac_in (1 + i) (by omega)).2.2; omega) h1 (by omega)).mono ?_
    rintro e w2 ⟨v, rfl, HY⟩
    go_wp2_with fail
    go_ret2
    refine ⟨v, rfl, ?_, below_trans HX.out.2.2 HY.out.2⟩
    have := own_mono HY.out.1 HX.out.2.2.size
    unfold Ints
    rw [slF, seqL_len]
    exact this

set_option maxHeartbeats 1000000 in
theorem specGolombList_any (n : Int) (w : World) : Calls Try.prog 16 #[.int .i64 n] w fun e w' => ∃ v, e = .returned (.tuple #[v, .bool (gN n)]) ∧ Ints w' w.heap.size v (if gN n = true then slF gol n else []) ∧ Below w.heap.size w w' := by
  cases hb : gN n with
  | false =>
    have HN := Lib.hid (fun W => seN_is n W false hb)
    clear hb
    go_enter Try.func16, Try.ntmps16
    go_wp2_with fail
    refine (HN.out _).mono ?_
    rintro e w1 ⟨rfl, rfl⟩
    go_wp2_with fail
    go_ret2
    exact ⟨_, rfl, World.ownsRow_nil _ _ _ _, Below.refl _ _⟩
  | true =>
    obtain ⟨N, rfl, h1, h9⟩ := gN_open hb
    have HN := Lib.hid (fun W => seN_is N W true hb)
    clear hb
    go_enter Try.func16, Try.ntmps16
    go_wp2_with fail
    refine (HN.out _).mono ?_
    rintro e w1 ⟨rfl, rfl⟩
    go_wp2_with fail
    refine (seGolomb_any N w (by omega) (by omega)).mono ?_
    rintro e w2 ⟨v, rfl, HX⟩
    go_wp2_with fail
    go_ret2
    refine ⟨v, rfl, ?_, HX.out.2⟩
    unfold Ints
    rw [slF, seqL_len]
    exact HX.out.1

set_option maxHeartbeats 1000000 in
theorem specBackList_any (n : Int) (w : World) : Calls Try.prog 29 #[.int .i64 n] w fun e w' => ∃ v, e = .returned (.tuple #[v, .bool (gN n)]) ∧ Ints w' w.heap.size v (if gN n = true then slF bac n else []) ∧ Below w.heap.size w w' := by
  cases hb : gN n with
  | false =>
    have HN := Lib.hid (fun W => seN_is n W false hb)
    clear hb
    go_enter Try.func29, Try.ntmps29
    go_wp2_with fail
    refine (HN.out _).mono ?_
    rintro e w1 ⟨rfl, rfl⟩
    go_wp2_with fail
    go_ret2
    exact ⟨_, rfl, World.ownsRow_nil _ _ _ _, Below.refl _ _⟩
  | true =>
    obtain ⟨N, rfl, h1, h9⟩ := gN_open hb
    have HN := Lib.hid (fun W => seN_is N W true hb)
    clear hb
    go_enter Try.func29, Try.ntmps29
    go_wp2_with fail
    refine (HN.out _).mono ?_
    rintro e w1 ⟨rfl, rfl⟩
    go_wp2_with fail
    refine (seBack_any N w (by omega) (by omega)).mono ?_
    rintro e w2 ⟨m, v, rfl, hm1, hm2, HX⟩
    obtain ⟨g, c, rfl, hgB, hgw, hmc, hc9, hce⟩ := seqRow_cells HX.out.1 (by omega)
    have HC := Lib.hid hce; clear hce
    go_wp2_with fail
    refine (l1OwnG_any w2 g 1 N (c - 1) (fun i => bac (i + 1)) h1 (by omega) (by omega) (fun j hj => by rw [Nat.add_comm 1 j]; exact HC.out (j + 1) (by omega))).mono ?_
    rintro e w3 ⟨v, rfl, HY⟩
    go_wp2_with fail
    go_ret2
    refine ⟨v, rfl, ?_, below_trans HX.out.2 HY.out.2⟩
    have := own_mono HY.out.1 HX.out.2.size
    unfold Ints
    rw [slF, seqL_len]
    exact this

set_option maxHeartbeats 1000000 in
theorem law_GolombList (n : Int) (w : World) :
    Calls Try.prog 4 #[.int .i64 n] w fun e w' => e = .returned (.bool true) ∧ Below w.heap.size w w' := by
  obtain ⟨y, hy⟩ : ∃ y, y = gN n := ⟨_, rfl⟩
  obtain ⟨ns, hn⟩ : ∃ ns, ns = if y = true then slF gol n else [] := ⟨_, rfl⟩
  have hlen : ns.length ≤ 4000 := by
    rw [hn]
    split
    · rename_i h; rw [hy] at h; exact slF_len h
    · simp
  have e2 : (y != y) = false := by simp
  obtain ⟨tt, ht⟩ : ∃ tt, tt = 1 + ns.length := ⟨_, rfl⟩
  have ht2 : tt ≤ 4001 := by omega
  have ht1 : 1 ≤ tt := by omega
  have e1 : ((tt : Int) != (tt : Int)) = false := by simp
  have HS := Lib.hid (fun (W : World) => specGolombList_any n W); have HI := Lib.hid (fun (W : World) => implGolombList_any n W)
  rw [← hy] at HS HI
  have HN := Lib.hid hn; have HT := Lib.hid ht; have HLEN := Lib.hid hlen
  clear hy hn ht hlen
  go_enter Try.func4, Try.ntmps4
  go_wp2_with fail
  refine (HS.out w).mono ?_
  rintro e w1 ⟨v0, rfl, h2, h3⟩
  rw [← HN.out] at h2
  have A1 := Lib.hid h2; have B1 := Lib.hid h3; clear h2 h3
  go_wp2_with fail
  refine (HI.out w1).mono ?_
  rintro e w2 ⟨v1, rfl, h2, h3⟩
  rw [← HN.out] at h2
  have A2 := Lib.hid h2; have B2 := Lib.hid h3; clear h2 h3
  go_wp2_with fail
  refine (eqIntS_same w2 _ _ v1 v0 ns A2.out (own_below A1.out B2.out)).mono ?_
  rintro e w3 ⟨rfl, h3⟩
  have B3 := Lib.hid h3; clear h3
  go_wp2_with fail
  refine (markIntS_any w3 _ 1 v1 ns (own_below A2.out B3.out) (by have := HLEN.out; omega)).mono ?_
  rintro e w4 ⟨rfl, h4, h5⟩
  rw [← HT.out]
  have hb4 : Below w1.heap.size w3 w4 := (Below.refl _ w3).grown h5 (Nat.le_trans B2.out.size B3.out.size) (fun g hg => ((own_below A2.out B3.out).lt g hg).1)
  have A4 := Lib.hid h4; have B4 := Lib.hid hb4; clear h4 h5 hb4
  go_wp2_with fail
  refine (heldIntS_any w4 _ 1 ns.length v1 A4.out (by have := HLEN.out; omega)).mono ?_
  rintro e w5 ⟨rfl, h5⟩
  rw [← HT.out]
  have B5 := Lib.hid h5; clear h5
  go_wp2_with fail
  refine (HI.out w5).mono ?_
  rintro e w6 ⟨v6, rfl, h2, h3⟩
  rw [← HN.out] at h2
  have A6 := Lib.hid h2; have B6 := Lib.hid h3; clear h2 h3
  go_wp2_with fail
  have C6 := Lib.hid (below_trans (below_trans ((below_trans B2.out B3.out).trans B4.out) B5.out) B6.out)
  have A1' : Hid (Ints w6 w.heap.size v0 ns) := own_below A1.out C6.out
  refine (eqIntS_same w6 _ _ v6 v0 ns A6.out A1'.out).mono ?_
  rintro e w7 ⟨rfl, h7⟩
  have B7 := Lib.hid h7; clear h7
  go_wp2_with fail
  refine (heldIntS_any w7 _ 1 ns.length v1 (own_below A4.out (below_trans B5.out (below_trans B6.out B7.out))) (by have := HLEN.out; omega)).mono ?_
  rintro e w8 ⟨rfl, h8⟩
  rw [← HT.out]
  have B8 := Lib.hid h8; clear h8
  go_wp2_with fail
  go_ret
  exact ⟨rfl, below_trans B1.out (below_trans C6.out (below_trans B7.out B8.out))⟩


set_option maxHeartbeats 1000000 in
theorem law_BackList (n : Int) (w : World) :
    Calls Try.prog 9 #[.int .i64 n] w fun e w' => e = .returned (.bool true) ∧ Below w.heap.size w w' := by
  obtain ⟨y, hy⟩ : ∃ y, y = gN n := ⟨_, rfl⟩
  obtain ⟨ns, hn⟩ : ∃ ns, ns = if y = true then slF bac n else [] := ⟨_, rfl⟩
  have hlen : ns.length ≤ 4000 := by
    rw [hn]
    split
    · rename_i h; rw [hy] at h; exact slF_len h
    · simp
  have e2 : (y != y) = false := by simp
  obtain ⟨tt, ht⟩ : ∃ tt, tt = 1 + ns.length := ⟨_, rfl⟩
  have ht2 : tt ≤ 4001 := by omega
  have ht1 : 1 ≤ tt := by omega
  have e1 : ((tt : Int) != (tt : Int)) = false := by simp
  have HS := Lib.hid (fun (W : World) => specBackList_any n W); have HI := Lib.hid (fun (W : World) => implBackList_any n W)
  rw [← hy] at HS HI
  have HN := Lib.hid hn; have HT := Lib.hid ht; have HLEN := Lib.hid hlen
  clear hy hn ht hlen
  go_enter Try.func9, Try.ntmps9
  go_wp2_with fail
  refine (HS.out w).mono ?_
  rintro e w1 ⟨v0, rfl, h2, h3⟩
  rw [← HN.out] at h2
  have A1 := Lib.hid h2; have B1 := Lib.hid h3; clear h2 h3
  go_wp2_with fail
  refine (HI.out w1).mono ?_
  rintro e w2 ⟨v1, rfl, h2, h3⟩
  rw [← HN.out] at h2
  have A2 := Lib.hid h2; have B2 := Lib.hid h3; clear h2 h3
  go_wp2_with fail
  refine (eqIntS_same w2 _ _ v1 v0 ns A2.out (own_below A1.out B2.out)).mono ?_
  rintro e w3 ⟨rfl, h3⟩
  have B3 := Lib.hid h3; clear h3
  go_wp2_with fail
  refine (markIntS_any w3 _ 1 v1 ns (own_below A2.out B3.out) (by have := HLEN.out; omega)).mono ?_
  rintro e w4 ⟨rfl, h4, h5⟩
  rw [← HT.out]
  have hb4 : Below w1.heap.size w3 w4 := (Below.refl _ w3).grown h5 (Nat.le_trans B2.out.size B3.out.size) (fun g hg => ((own_below A2.out B3.out).lt g hg).1)
  have A4 := Lib.hid h4; have B4 := Lib.hid hb4; clear h4 h5 hb4
  go_wp2_with fail
  refine (heldIntS_any w4 _ 1 ns.length v1 A4.out (by have := HLEN.out; omega)).mono ?_
  rintro e w5 ⟨rfl, h5⟩
  rw [← HT.out]
  have B5 := Lib.hid h5; clear h5
  go_wp2_with fail
  refine (HI.out w5).mono ?_
  rintro e w6 ⟨v6, rfl, h2, h3⟩
  rw [← HN.out] at h2
  have A6 := Lib.hid h2; have B6 := Lib.hid h3; clear h2 h3
  go_wp2_with fail
  have C6 := Lib.hid (below_trans (below_trans ((below_trans B2.out B3.out).trans B4.out) B5.out) B6.out)
  have A1' : Hid (Ints w6 w.heap.size v0 ns) := own_below A1.out C6.out
  refine (eqIntS_same w6 _ _ v6 v0 ns A6.out A1'.out).mono ?_
  rintro e w7 ⟨rfl, h7⟩
  have B7 := Lib.hid h7; clear h7
  go_wp2_with fail
  refine (heldIntS_any w7 _ 1 ns.length v1 (own_below A4.out (below_trans B5.out (below_trans B6.out B7.out))) (by have := HLEN.out; omega)).mono ?_
  rintro e w8 ⟨rfl, h8⟩
  rw [← HT.out]
  have B8 := Lib.hid h8; clear h8
  go_wp2_with fail
  go_ret
  exact ⟨rfl, below_trans B1.out (below_trans C6.out (below_trans B7.out B8.out))⟩


end Go.Proofs.Yteiclnfeabfadaa
