/- AllSmooth, CountSmooth: the model's, the program's, the laws. -/
import Derived.Test.YtaagfcdniacmnaaDoorD14
import Derived.Test.YtaagfcdniacmnaaDoorE3
namespace Go.Proofs.YtaagfcdniacmnaaDoor
open Go.RowKit Go.BigFrame Go.Shelf
set_option linter.unusedSimpArgs false
set_option linter.unusedVariables false
set_option maxRecDepth 4000

theorem smO_len (n : Int) : ((smO n).getD []).length ≤ 16384 := by
  unfold smO
  split
  · rename_i h
    rw [Option.getD_some]
    exact Nat.le_trans (smAll_len _) (Nat.pow_le_pow_right (n := 2) (by omega) (show n.toNat ≤ 14 by omega))
  · simp
/-- How many there are, and a bool. -/
def CntOk (o : Option (List (List UInt8))) (w w' : World) (e : Ending) : Prop :=
  e = .returned (.tuple #[.int .i64 ((o.getD []).length : Int), .bool o.isSome]) ∧ Below w.heap.size w w'
theorem specAllSmooth_any (w : World) (n : Int) : Calls Tryd.prog 20 #[.int .i64 n] w fun e w' => AllOk (smO n) w w' e := by
  by_cases h : 0 ≤ n ∧ n ≤ 14
  · obtain ⟨N, rfl⟩ : ∃ N : Nat, n = (N : Int) := ⟨n.toNat, by omega⟩
    have hN : N ≤ 14 := by omega
    have ho : smO (N : Int) = some (smAll N) := by unfold smO; rw [if_pos h, Int.toNat_natCast]
    have hd : decide ((0 : Int) ≤ (N : Int) ∧ (N : Int) ≤ 14) = true := decide_eq_true h
    have HO := Lib.hid ho; have HD := Lib.hid hd; clear ho hd h
    go_enter Tryd.func20, Tryd.ntmps20
    go_wp2_with fail
    refine (l1In_is true _ _ _ _ HD.out).mono ?_
    rintro e w1 ⟨rfl, rfl⟩
    go_wp2_with fail
    refine (ruSmooth_any N _ hN).mono ?_
    rintro e w1 ⟨v, rfl, hown, hb⟩
    have H1 := Lib.hid hown; have HB := Lib.hid hb; clear hown hb
    go_wp2_with fail
    go_ret2
    exact ⟨v, by rw [HO.out]; rfl, by rw [HO.out]; exact H1.out, HB.out⟩
  · have ho : smO n = none := if_neg h
    have hd : decide ((0 : Int) ≤ n ∧ n ≤ 14) = false := decide_eq_false h
    have HO := Lib.hid ho; have HD := Lib.hid hd; clear ho hd
    go_enter Tryd.func20, Tryd.ntmps20
    go_wp2_with fail
    refine (l1In_is false _ _ _ _ HD.out).mono ?_
    rintro e w1 ⟨rfl, rfl⟩
    go_wp2_with fail
    go_ret2
    exact ⟨_, by rw [HO.out]; rfl, by rw [HO.out]; exact World.ownsRow_nil _ _ _ _, Below.refl _ _⟩
theorem specCountSmooth_any (w : World) (n : Int) : Calls Tryd.prog 18 #[.int .i64 n] w fun e w' => CntOk (smO n) w w' e := by
  have hlen := smO_len n
  by_cases h : 0 ≤ n ∧ n ≤ 14
  · obtain ⟨N, rfl⟩ : ∃ N : Nat, n = (N : Int) := ⟨n.toNat, by omega⟩
    have hN : N ≤ 14 := by omega
    have ho : smO (N : Int) = some (smAll N) := by unfold smO; rw [if_pos h, Int.toNat_natCast]
    have hd : decide ((0 : Int) ≤ (N : Int) ∧ (N : Int) ≤ 14) = true := decide_eq_true h
    have HO := Lib.hid ho; have HD := Lib.hid hd; clear ho hd h hlen
    go_enter Tryd.func18, Tryd.ntmps18
    go_wp2_with fail
    refine (l1In_is true _ _ _ _ HD.out).mono ?_
    rintro e w1 ⟨rfl, rfl⟩
    go_wp2_with fail
    refine (ruSmooth_any N _ hN).mono ?_
    rintro e w1 ⟨v, rfl, hown, hb⟩
    obtain ⟨av, cv, rfl⟩ := own_slice hown
    have HB := Lib.hid hb; clear hown hb
    go_wp2_with fail
    go_ret2
    exact ⟨by rw [HO.out]; rfl, HB.out⟩
  · have ho : smO n = none := if_neg h
    have hd : decide ((0 : Int) ≤ n ∧ n ≤ 14) = false := decide_eq_false h
    have HO := Lib.hid ho; have HD := Lib.hid hd; clear ho hd hlen
    go_enter Tryd.func18, Tryd.ntmps18
    go_wp2_with fail
    refine (l1In_is false _ _ _ _ HD.out).mono ?_
    rintro e w1 ⟨rfl, rfl⟩
    go_wp2_with fail
    go_ret2
    exact ⟨by rw [HO.out]; rfl, Below.refl _ _⟩
theorem implCountSmooth_any (w : World) (n : Int) : Calls Tryd.prog 19 #[.int .i64 n] w fun e w' => CntOk (smO n) w w' e := by
  have HI := Lib.hid (fun (W : World) => implAllSmooth_any W n)
  unfold AllOk at HI
  unfold CntOk
  generalize (smO n).isSome = y at *
  generalize (smO n).getD [] = xs at *
  go_enter Tryd.func19, Tryd.ntmps19
  go_wp2_with fail
  refine (HI.out _).mono ?_
  rintro e w1 ⟨v, rfl, hown, hb⟩
  obtain ⟨av, cv, rfl⟩ := own_slice hown
  have HB := Lib.hid hb; clear hown hb
  go_wp2_with fail
  go_ret2
  exact ⟨rfl, HB.out⟩
theorem law_CountSmooth (n : Int) (w : World) :
    Calls Tryd.prog 7 #[.int .i64 n] w fun e w' => e = .returned (.bool true) ∧ Below w.heap.size w w' := by
  have HS := Lib.hid (fun (W : World) => specCountSmooth_any W n)
  have HI := Lib.hid (fun (W : World) => implCountSmooth_any W n)
  unfold CntOk at HS HI
  generalize (smO n).isSome = y at *
  generalize (smO n).getD [] = xs at *
  obtain ⟨x, hx⟩ : ∃ x : Int, x = (xs.length : Int) := ⟨_, rfl⟩
  rw [← hx] at HS HI
  clear hx
  have e1 : (x != x) = false := by simp
  have e2 : (y != y) = false := by simp
  go_enter Tryd.func7, Tryd.ntmps7
  go_wp2_with fail
  refine (HS.out _).mono ?_
  rintro e w1 ⟨rfl, h1⟩
  have H1 := Lib.hid h1; clear h1
  go_wp2_with fail
  refine (HI.out _).mono ?_
  rintro e w2 ⟨rfl, h2⟩
  have H2 := Lib.hid h2; clear h2
  go_wp2_with fail
  go_ret
  exact ⟨rfl, below_trans H1.out H2.out⟩
set_option maxHeartbeats 1000000 in
theorem law_AllSmooth (n : Int) (w : World) :
    Calls Tryd.prog 8 #[.int .i64 n] w fun e w' => e = .returned (.bool true) ∧ Below w.heap.size w w' := by
  obtain ⟨y, hy⟩ : ∃ y, y = (smO n).isSome := ⟨_, rfl⟩
  obtain ⟨ns, hn⟩ : ∃ ns, ns = (smO n).getD [] := ⟨_, rfl⟩
  have hlen : ns.length ≤ 16384 := by rw [hn]; exact smO_len n
  have e2 : (y != y) = false := by simp
  obtain ⟨tt, ht⟩ : ∃ tt, tt = 1 + ns.length := ⟨_, rfl⟩
  have ht2 : tt ≤ 1000000 := by omega
  have ht1 : 1 ≤ tt := by omega
  have e1 : ((tt : Int) != (tt : Int)) = false := by simp
  have HS := Lib.hid (fun (W : World) => specAllSmooth_any W n); have HI := Lib.hid (fun (W : World) => implAllSmooth_any W n)
  unfold AllOk at HS HI
  rw [← hy, ← hn] at HS HI
  have HN := Lib.hid hn; have HT := Lib.hid ht; have HLEN := Lib.hid hlen
  clear hy hn ht hlen
  go_enter Tryd.func8, Tryd.ntmps8
  go_wp2_with fail
  refine (HS.out w).mono ?_
  rintro e w1 ⟨v0, rfl, h2, h3⟩
  have A1 : Hid (Strs w1 w.heap.size v0 ns) := Lib.hid h2; have B1 := Lib.hid h3; clear h2 h3
  go_wp2_with fail
  refine (HI.out w1).mono ?_
  rintro e w2 ⟨v1, rfl, h2, h3⟩
  have A2 : Hid (Strs w2 w1.heap.size v1 ns) := Lib.hid h2; have B2 := Lib.hid h3; clear h2 h3
  go_wp2_with fail
  refine (eqStringS_same w2 _ _ v1 v0 ns A2.out (own_below A1.out B2.out)).mono ?_
  rintro e w3 ⟨rfl, h3⟩
  have B3 := Lib.hid h3; clear h3
  go_wp2_with fail
  refine (markStringS_any w3 _ 1 v1 ns (own_below A2.out B3.out) (Nat.le_trans B2.out.size B3.out.size) (by have := HLEN.out; omega)).mono ?_
  rintro e w4 ⟨rfl, h4, h5⟩
  rw [← HT.out]
  have A4 := Lib.hid h4; have B4 := Lib.hid h5; clear h4 h5
  go_wp2_with fail
  refine (heldStringS_any w4 _ 1 ns.length v1 A4.out (by have := HLEN.out; omega)).mono ?_
  rintro e w5 ⟨rfl, h5⟩
  rw [← HT.out]
  have B5 := Lib.hid h5; clear h5
  go_wp2_with fail
  refine (HI.out w5).mono ?_
  rintro e w6 ⟨v6, rfl, h2, h3⟩
  have A6 : Hid (Strs w6 w5.heap.size v6 ns) := Lib.hid h2; have B6 := Lib.hid h3; clear h2 h3
  go_wp2_with fail
  have C6 := Lib.hid (below_trans (below_trans ((below_trans B2.out B3.out).trans B4.out) B5.out) B6.out)
  have A1' : Hid (Strs w6 w.heap.size v0 ns) := own_below A1.out C6.out
  refine (eqStringS_same w6 _ _ v6 v0 ns A6.out A1'.out).mono ?_
  rintro e w7 ⟨rfl, h7⟩
  have B7 := Lib.hid h7; clear h7
  go_wp2_with fail
  refine (heldStringS_any w7 _ 1 ns.length v1 (own_below A4.out (below_trans B5.out (below_trans B6.out B7.out))) (by have := HLEN.out; omega)).mono ?_
  rintro e w8 ⟨rfl, h8⟩
  rw [← HT.out]
  have B8 := Lib.hid h8; clear h8
  go_wp2_with fail
  go_ret
  exact ⟨rfl, below_trans B1.out (below_trans C6.out (below_trans B7.out B8.out))⟩
end Go.Proofs.YtaagfcdniacmnaaDoor
