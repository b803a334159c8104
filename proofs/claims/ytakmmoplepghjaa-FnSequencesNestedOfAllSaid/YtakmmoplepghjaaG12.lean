/- GolombList and BackList: the model's, the program's, and the laws. -/
import Derived.Test.YtakmmoplepghjaaG11
namespace Go.Proofs.Ytakmmoplepghjaa
open Go.RowKit Go.BigFrame Go.Maps
set_option linter.unusedSimpArgs false
set_option linter.unusedVariables false
set_option maxRecDepth 4000

def slF (f : Nat → Nat) (n : Int) : List Int := seqL (fun i => f (i + 1)) n.toNat
theorem slF_len {f : Nat → Nat} {n : Int} (h : gN n = true) : (slF f n).length ≤ 4000 := by
  obtain ⟨N, rfl, h1, h9⟩ := gN_open h
  rw [slF, seqL_len]; omega

set_option maxHeartbeats 1000000 in
theorem implGolombList_any (n : Int) (w : World) : Calls Try.prog 9 #[.int .i64 n] w fun e w' => ∃ v, e = .returned (.tuple #[v, .bool (gN n)]) ∧ Ints w' w.heap.size v (if gN n = true then slF gol n else []) ∧ Below w.heap.size w w' := by
  cases hb : gN n with
  | false =>
    unfold gN at hb
    have H1 := Lib.hid hb
    clear hb
    go_enter Try.func9, Try.ntmps9
    go_wp2_with fail
    refine (tellUpTo_bad n 1 _ w H1.out).mono ?_
    rintro e w1 ⟨rfl, rfl⟩
    go_wp2_with fail
    refine (seqList_nil w).mono ?_
    rintro e w2 ⟨v, rfl, HX⟩
    go_wp2_with fail
    go_ret2
    exact ⟨v, rfl, HX.out⟩
  | true =>
    obtain ⟨N, rfl, h1, h9⟩ := gN_open hb
    clear hb
    go_enter Try.func9, Try.ntmps9
    go_wp2_with fail
    refine (tellUpTo_golomb N w (by omega) (by omega)).mono ?_
    rintro e w1 ⟨D, rfl, HX⟩
    go_wp2_with fail
    refine (seqList_any w1 w.heap.size N N gol D HX.out.1 HX.out.2.1 (fun i hi => by have := gol_le (1 + i) (by omega); omega) h1 (by omega)).mono ?_
    rintro e w2 ⟨v, rfl, HY⟩
    go_wp2_with fail
    go_ret2
    refine ⟨v, rfl, ?_, below_trans HX.out.2.2 HY.out.2⟩
    have := own_mono HY.out.1 HX.out.2.2.size
    unfold Ints
    rw [slF, seqL_len]
    exact this

set_option maxHeartbeats 1000000 in
theorem implBackList_any (n : Int) (w : World) : Calls Try.prog 22 #[.int .i64 n] w fun e w' => ∃ v, e = .returned (.tuple #[v, .bool (gN n)]) ∧ Ints w' w.heap.size v (if gN n = true then slF bac n else []) ∧ Below w.heap.size w w' := by
  cases hb : gN n with
  | false =>
    unfold gN at hb
    have H1 := Lib.hid hb
    clear hb
    go_enter Try.func22, Try.ntmps22
    go_wp2_with fail
    refine (tellUpTo_bad n 1 _ w H1.out).mono ?_
    rintro e w1 ⟨rfl, rfl⟩
    go_wp2_with fail
    refine (seqList_nil w).mono ?_
    rintro e w2 ⟨v, rfl, HX⟩
    go_wp2_with fail
    go_ret2
    exact ⟨v, rfl, HX.out⟩
  | true =>
    obtain ⟨N, rfl, h1, h9⟩ := gN_open hb
    clear hb
    go_enter Try.func22, Try.ntmps22
    go_wp2_with fail
    refine (tellUpTo_back N w (by omega) (by omega)).mono ?_
    rintro e w1 ⟨D, rfl, HX⟩
    go_wp2_with fail
    refine (seqList_any w1 w.heap.size N N bac D HX.out.1 HX.out.2.1 (fun i hi => by have := (bac_in (1 + i) (by omega)).2.2; omega) h1 (by omega)).mono ?_
    rintro e w2 ⟨v, rfl, HY⟩
    go_wp2_with fail
    go_ret2
    refine ⟨v, rfl, ?_, below_trans HX.out.2.2 HY.out.2⟩
    have := own_mono HY.out.1 HX.out.2.2.size
    unfold Ints
    rw [slF, seqL_len]
    exact this

set_option maxHeartbeats 1000000 in
theorem specGolombList_any (n : Int) (w : World) : Calls Try.prog 10 #[.int .i64 n] w fun e w' => ∃ v, e = .returned (.tuple #[v, .bool (gN n)]) ∧ Ints w' w.heap.size v (if gN n = true then slF gol n else []) ∧ Below w.heap.size w w' := by
  cases hb : gN n with
  | false =>
    have HN := Lib.hid (fun W => seN_is n W false hb)
    clear hb
    go_enter Try.func10, Try.ntmps10
    go_wp2_with fail
    refine (HN.out _).mono ?_
    rintro e w1 ⟨rfl, rfl⟩
    go_wp2_with fail
    go_ret2
    exact ⟨_, rfl, World.ownsRow_nil _ _ _ _, Below.refl _ _⟩
  | true =>
    obtain ⟨N, rfl, h1, h9⟩ := gN_open hb
    have HN := Lib.hid (fun W => seN_is N W true hb)
    clear hb
    go_enter Try.func10, Try.ntmps10
    go_wp2_with fail
    refine (HN.out _).mono ?_
    rintro e w1 ⟨rfl, rfl⟩
    go_wp2_with fail
    refine (seGolomb_any N w (by omega) (by omega)).mono ?_
    rintro e w2 ⟨v, rfl, HX⟩
    go_wp2_with fail
    go_ret2
    refine ⟨v, rfl, ?_, HX.out.2⟩
    unfold Ints
    rw [slF, seqL_len]
    exact HX.out.1

set_option maxHeartbeats 1000000 in
theorem specBackList_any (n : Int) (w : World) : Calls Try.prog 23 #[.int .i64 n] w fun e w' => ∃ v, e = .returned (.tuple #[v, .bool (gN n)]) ∧ Ints w' w.heap.size v (if gN n = true then slF bac n else []) ∧ Below w.heap.size w w' := by
  cases hb : gN n with
  | false =>
    have HN := Lib.hid (fun W => seN_is n W false hb)
    clear hb
    go_enter Try.func23, Try.ntmps23
    go_wp2_with fail
    refine (HN.out _).mono ?_
    rintro e w1 ⟨rfl, rfl⟩
    go_wp2_with fail
    go_ret2
    exact ⟨_, rfl, World.ownsRow_nil _ _ _ _, Below.refl _ _⟩
  | true =>
    obtain ⟨N, rfl, h1, h9⟩ := gN_open hb
    have HN := Lib.hid (fun W => seN_is N W true hb)
    clear hb
    go_enter Try.func23, Try.ntmps23
    go_wp2_with fail
    refine (HN.out _).mono ?_
    rintro e w1 ⟨rfl, rfl⟩
    go_wp2_with fail
    refine (seBack_any N w (by omega) (by omega)).mono ?_
    rintro e w2 ⟨m, v, rfl, hm1, hm2, HX⟩
    obtain ⟨g, c, rfl, hgB, hgw, hmc, hc9, hce⟩ := seqRow_cells HX.out.1 (by omega)
    have HC := Lib.hid hce; clear hce
    go_wp2_with fail
    refine (l1OwnG_any w2 g 1 N (c - 1) (fun i => bac (i + 1)) h1 (by omega) (by omega) (fun j hj => by rw [Nat.add_comm 1 j]; exact HC.out (j + 1) (by omega))).mono ?_
    rintro e w3 ⟨v, rfl, HY⟩
    go_wp2_with fail
    go_ret2
    refine ⟨v, rfl, ?_, below_trans HX.out.2 HY.out.2⟩
    have := own_mono HY.out.1 HX.out.2.size
    unfold Ints
    rw [slF, seqL_len]
    exact this

end Go.Proofs.Ytakmmoplepghjaa
