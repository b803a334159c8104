/- Chapter 7: what the model's and the program's functions on sentences tell. -/
import Derived.Test.YtampjipbemmicaaDoor7P
namespace Go.Proofs.YtampjipbemmicaaDoor
open Go.RowKit Go.BigFrame
set_option linter.unusedSimpArgs false
set_option linter.unusedVariables false
set_option maxRecDepth 4000

set_option maxHeartbeats 1000000 in
theorem countLies_any (w : World) (u v : Value) (ns : List (List UInt8)) (fr : List UInt8) (xs : List Int) (h : ArgS w u ns) (ha : ArgL w v xs) (ht : toldB ns fr xs = true) :
    Calls Tryd.prog 63 #[.agg #[u, .string (bs fr)], v] w fun e w' => e = .returned (.int .i64 ((liesL ns fr xs : Nat) : Int)) ∧ Below w.heap.size w w' := by
  obtain ⟨p1, p2, p3, p4⟩ := toldB_parts ht
  have HSN := Lib.hid (fun (W : World) (hb : Below w.heap.size w W) => letterCounts_any W u v ns fr xs (argS_below h hb) (argL_below ha hb) ht)
  obtain ⟨A2, C2, rfl, hC2, hCm2, hcell2⟩ := ha
  obtain ⟨M, hM⟩ : ∃ M, M = xs.length := ⟨_, rfl⟩
  have HC2 := Lib.hid hcell2; have HM := Lib.hid hM
  have hcl : (cntL ns fr xs).length = M := by rw [cntL_len, hM]
  obtain ⟨R, hR⟩ : ∃ R, R = liesL ns fr xs := ⟨_, rfl⟩
  have hR2 : R = liesK (cntL ns fr xs) xs M := by rw [hR, hM]; rfl
  rw [← hR]
  generalize cntL ns fr xs = cs at *
  rw [← hM] at hC2 p2 p3 HSN ⊢
  have HR := Lib.hid hR2; have HCL := Lib.hid hcl
  clear hcell2 hM hR hR2 p1 p4 ht hcl
  go_enter Tryd.func63, Tryd.ntmps63
  go_wp2_with fail
  refine (HSN.out _ (below_alloc _ _)).mono ?_
  rintro e w1 ⟨g, rfl, hi, hb⟩
  have HB := Lib.hid (below_trans (below_alloc _ _) hb)
  obtain ⟨g1, g2, g3, g4, g5, g6⟩ := ints_cells hi
  have HG := Lib.hid g6
  clear hi hb g2 g3 g4 g6
  go_wp2_with fail
  go_loop [5, 12] (fun l i => ∃ k m : Nat, i = .int .i64 (k : Int) ∧ l = .int .i64 (m : Int) ∧ k ≤ M ∧ m ≤ k ∧ Hid (m = liesK cs xs k)) (fun _ i => M - (intOf i).toNat)
  case atStart => exact ⟨0, 0, rfl, rfl, Nat.zero_le _, Nat.le_refl _, rfl⟩
  case round =>
    obtain ⟨k, m, rfl, rfl, hk, hmk, HX⟩ := hrel
    by_cases hlt : k < M
    · have hk' : k < xs.length := by rw [← HM.out]; exact hlt
      have hk2 : k < cs.length := by rw [HCL.out]; exact hlt
      obtain ⟨b2, o2, rfl, hb2, hc2⟩ := HC2.out k hk'
      have hw2 : w1.cell? ⟨b2, o2 + k, none⟩ = some (.int .i64 xs[k]) := (HB.out.cell (p := ⟨b2, o2 + k, none⟩) hb2).trans hc2
      have hw1 : w1.cell? ⟨g, k, none⟩ = some (.int .i64 cs[k]) := HG.out k hk2
      have hst := liesK_succ cs xs k
      rw [show cs.getD k 0 = cs[k] from by simp [List.getD, hk2], show xs.getD k 0 = xs[k] from by simp [List.getD, hk']] at hst
      obtain ⟨x, hx⟩ : ∃ x, x = xs[k] := ⟨_, rfl⟩
      obtain ⟨c, hc⟩ : ∃ c, c = cs[k] := ⟨_, rfl⟩
      rw [← hx] at hw2 hst; rw [← hc] at hw1 hst
      by_cases hcx : c = x
      · have hq : (c != x) = false := by simp [hcx]
        rw [if_pos hcx] at hst
        have HST := Lib.hid hst
        clear hst hc2 hx hc hcx
        go_wp2_with fail
        go_round
        case rel => exact ⟨k + 1, m, by go_num, rfl, by omega, by omega, by rw [HST.out, ← HX.out]; rfl⟩
        case measure => simp [intOf] <;> omega
      · have hq : (c != x) = true := by simp [hcx]
        rw [if_neg hcx] at hst
        have HST := Lib.hid hst
        clear hst hc2 hx hc hcx
        go_wp2_with fail
        go_round
        case rel => exact ⟨k + 1, m + 1, by go_num, by go_num, by omega, by omega, by rw [HST.out, ← HX.out]; rfl⟩
        case measure => simp [intOf] <;> omega
    · obtain rfl : k = M := by omega
      go_wp2_with fail
      go_ret
      exact ⟨ret_int (by rw [HX.out, HR.out]), HB.out⟩


def sentO (ns : List (List UInt8)) (fr : List UInt8) (xs : List Int) : List UInt8 := if toldB ns fr xs = true then sentL ns fr xs else []
def liesO (ns : List (List UInt8)) (fr : List UInt8) (xs : List Int) : Nat := if toldB ns fr xs = true then liesL ns fr xs else 0
def trueO (ns : List (List UInt8)) (fr : List UInt8) (xs : List Int) : Bool := toldB ns fr xs && decide (liesL ns fr xs = 0)
def cntO (ns : List (List UInt8)) (fr : List UInt8) (xs : List Int) : Option (List Int) := if toldB ns fr xs = true then some (cntL ns fr xs) else none
def againL (ns : List (List UInt8)) (fr : List UInt8) (xs : List Int) : Option (List Int) := if toldB ns fr xs = true then againO ns fr xs else none
theorem liesL_le {ns : List (List UInt8)} {fr : List UInt8} {xs : List Int} (h : toldB ns fr xs = true) : liesL ns fr xs ≤ 4 := Nat.le_trans (liesK_le _ _ _) (toldB_parts h).2.2.1
theorem listOk_none {w w' : World} (hb : Below w.heap.size w w') : ListOk none w w' (.returned (.tuple #[.slice none 0 0, .bool false])) := ⟨_, rfl, intsA_nil _ _, hb⟩

set_option maxHeartbeats 1000000 in
theorem specSentenceOf_any (w : World) (u v : Value) (ns : List (List UInt8)) (fr : List UInt8) (xs : List Int) (h : ArgS w u ns) (hf : fr.length ≤ 9223372036854775807) (ha : ArgL w v xs) :
    Calls Tryd.prog 19 #[.agg #[u, .string (bs fr)], v] w fun e w' => e = .returned (.tuple #[.string (bs (sentO ns fr xs)), .bool (toldB ns fr xs)]) ∧ Below w.heap.size w w' := by
  have HTL := Lib.hid (fun (W : World) (hb : Below w.heap.size w W) => snTold_any W u v ns fr xs (argS_below h hb) hf (argL_below ha hb))
  have HIN := Lib.hid (fun (ht : toldB ns fr xs = true) (W : World) (hb : Below w.heap.size w W) => snSentence_any W u v ns fr xs (argS_below h hb) (argL_below ha hb) ht)
  obtain ⟨O, hO⟩ : ∃ O, O = sentO ns fr xs := ⟨_, rfl⟩
  rw [← hO]
  unfold sentO at hO
  generalize toldB ns fr xs = T at *
  cases T with
  | false =>
    have E : O = [] := hO
    subst E
    clear hO
    go_enter Tryd.func19, Tryd.ntmps19
    go_wp2_with fail
    refine (HTL.out _ (below_alloc _ _)).mono ?_
    rintro e w1 ⟨rfl, hb⟩
    have HB := Lib.hid (below_trans (below_alloc _ _) hb); clear hb
    go_wp2_with fail
    go_ret2
    exact ⟨rfl, HB.out⟩
  | true =>
    have E : O = sentL ns fr xs := hO
    have HIN2 := Lib.hid (HIN.out rfl)
    rw [← E] at HIN2
    clear HIN hO E
    go_enter Tryd.func19, Tryd.ntmps19
    go_wp2_with fail
    refine (HTL.out _ (below_alloc _ _)).mono ?_
    rintro e w1 ⟨rfl, hb⟩
    have hx1 := (twoAt_new w u (.string (bs fr)) 27).below hb
    obtain ⟨c0, c1, _, _⟩ := hx1.cells
    have HX1 := Lib.hid hx1
    have HB := Lib.hid (below_trans (below_alloc _ _) hb); clear hb hx1
    go_wp2_with fail
    refine (HIN2.out _ HB.out).mono ?_
    rintro e w2 ⟨rfl, hb2⟩
    have HB2 := Lib.hid (below_trans HB.out hb2); clear hb2
    go_wp2_with fail
    go_ret2
    exact ⟨rfl, HB2.out⟩

set_option maxHeartbeats 1000000 in
theorem specLiesOf_any (w : World) (u v : Value) (ns : List (List UInt8)) (fr : List UInt8) (xs : List Int) (h : ArgS w u ns) (hf : fr.length ≤ 9223372036854775807) (ha : ArgL w v xs) :
    Calls Tryd.prog 30 #[.agg #[u, .string (bs fr)], v] w fun e w' => e = .returned (.tuple #[.int .i64 ((liesO ns fr xs : Nat) : Int), .bool (toldB ns fr xs)]) ∧ Below w.heap.size w w' := by
  have HTL := Lib.hid (fun (W : World) (hb : Below w.heap.size w W) => snTold_any W u v ns fr xs (argS_below h hb) hf (argL_below ha hb))
  have HIN := Lib.hid (fun (ht : toldB ns fr xs = true) (W : World) (hb : Below w.heap.size w W) => snLies_any W u v ns fr xs (argS_below h hb) (argL_below ha hb) ht)
  obtain ⟨O, hO⟩ : ∃ O, O = liesO ns fr xs := ⟨_, rfl⟩
  rw [← hO]
  unfold liesO at hO
  generalize toldB ns fr xs = T at *
  cases T with
  | false =>
    have E : O = 0 := hO
    subst E
    clear hO
    go_enter Tryd.func30, Tryd.ntmps30
    go_wp2_with fail
    refine (HTL.out _ (below_alloc _ _)).mono ?_
    rintro e w1 ⟨rfl, hb⟩
    have HB := Lib.hid (below_trans (below_alloc _ _) hb); clear hb
    go_wp2_with fail
    go_ret2
    exact ⟨rfl, HB.out⟩
  | true =>
    have E : O = liesL ns fr xs := hO
    have HIN2 := Lib.hid (HIN.out rfl)
    rw [← E] at HIN2
    clear HIN hO E
    go_enter Tryd.func30, Tryd.ntmps30
    go_wp2_with fail
    refine (HTL.out _ (below_alloc _ _)).mono ?_
    rintro e w1 ⟨rfl, hb⟩
    have hx1 := (twoAt_new w u (.string (bs fr)) 27).below hb
    obtain ⟨c0, c1, _, _⟩ := hx1.cells
    have HX1 := Lib.hid hx1
    have HB := Lib.hid (below_trans (below_alloc _ _) hb); clear hb hx1
    go_wp2_with fail
    refine (HIN2.out _ HB.out).mono ?_
    rintro e w2 ⟨rfl, hb2⟩
    have HB2 := Lib.hid (below_trans HB.out hb2); clear hb2
    go_wp2_with fail
    go_ret2
    exact ⟨rfl, HB2.out⟩

set_option maxHeartbeats 1000000 in
theorem specCountLetters_any (w : World) (u v : Value) (ns : List (List UInt8)) (fr : List UInt8) (xs : List Int) (h : ArgS w u ns) (hf : fr.length ≤ 9223372036854775807) (ha : ArgL w v xs) :
    Calls Tryd.prog 23 #[.agg #[u, .string (bs fr)], v] w fun e w' => ListOk (cntO ns fr xs) w w' e := by
  have HTL := Lib.hid (fun (W : World) (hb : Below w.heap.size w W) => snTold_any W u v ns fr xs (argS_below h hb) hf (argL_below ha hb))
  have HIN := Lib.hid (fun (ht : toldB ns fr xs = true) (W : World) (hb : Below w.heap.size w W) => snCount_any W u v ns fr xs (argS_below h hb) (argL_below ha hb) ht)
  obtain ⟨O, hO⟩ : ∃ O, O = cntO ns fr xs := ⟨_, rfl⟩
  rw [← hO]
  unfold cntO at hO
  generalize toldB ns fr xs = T at *
  cases T with
  | false =>
    have E : O = none := hO
    subst E
    clear hO
    go_enter Tryd.func23, Tryd.ntmps23
    go_wp2_with fail
    refine (HTL.out _ (below_alloc _ _)).mono ?_
    rintro e w1 ⟨rfl, hb⟩
    have HB := Lib.hid (below_trans (below_alloc _ _) hb); clear hb
    go_wp2_with fail
    go_ret2
    exact listOk_none HB.out
  | true =>
    have E : O = some (cntL ns fr xs) := hO
    subst E
    have HIN2 := Lib.hid (HIN.out rfl)
    obtain ⟨M, hM⟩ : ∃ M, M = xs.length := ⟨_, rfl⟩
    rw [← hM] at HIN2
    clear HIN hO hM
    go_enter Tryd.func23, Tryd.ntmps23
    go_wp2_with fail
    refine (HTL.out _ (below_alloc _ _)).mono ?_
    rintro e w1 ⟨rfl, hb⟩
    have hx1 := (twoAt_new w u (.string (bs fr)) 27).below hb
    obtain ⟨c0, c1, _, _⟩ := hx1.cells
    have HX1 := Lib.hid hx1
    have HB := Lib.hid (below_trans (below_alloc _ _) hb); clear hb hx1
    go_wp2_with fail
    refine (HIN2.out _ HB.out).mono ?_
    rintro e w2 ⟨g, rfl, hi2, hb2⟩
    have HI2 := Lib.hid (intsA_mono (intsA_of hi2) HB.out.size)
    have HB2 := Lib.hid (below_trans HB.out hb2); clear hb2 hi2
    go_wp2_with fail
    go_ret2
    exact ⟨_, rfl, HI2.out, HB2.out⟩

set_option maxHeartbeats 1000000 in
theorem implSentenceOf_any (w : World) (u v : Value) (ns : List (List UInt8)) (fr : List UInt8) (xs : List Int) (h : ArgS w u ns) (hf : fr.length ≤ 9223372036854775807) (ha : ArgL w v xs) :
    Calls Tryd.prog 21 #[.agg #[u, .string (bs fr)], v] w fun e w' => e = .returned (.tuple #[.string (bs (sentO ns fr xs)), .bool (toldB ns fr xs)]) ∧ Below w.heap.size w w' := by
  have HTL := Lib.hid (fun (W : World) (hb : Below w.heap.size w W) => canTell_any W u v ns fr xs (argS_below h hb) hf (argL_below ha hb))
  have HIN := Lib.hid (fun (ht : toldB ns fr xs = true) (W : World) (hb : Below w.heap.size w W) => sentenceText_any W u v ns fr xs (argS_below h hb) (argL_below ha hb) ht)
  obtain ⟨O, hO⟩ : ∃ O, O = sentO ns fr xs := ⟨_, rfl⟩
  rw [← hO]
  unfold sentO at hO
  generalize toldB ns fr xs = T at *
  cases T with
  | false =>
    have E : O = [] := hO
    subst E
    clear hO
    go_enter Tryd.func21, Tryd.ntmps21
    go_wp2_with fail
    refine (HTL.out _ (below_alloc _ _)).mono ?_
    rintro e w1 ⟨rfl, hb⟩
    have HB := Lib.hid (below_trans (below_alloc _ _) hb); clear hb
    go_wp2_with fail
    go_ret2
    exact ⟨rfl, HB.out⟩
  | true =>
    have E : O = sentL ns fr xs := hO
    have HIN2 := Lib.hid (HIN.out rfl)
    rw [← E] at HIN2
    clear HIN hO E
    go_enter Tryd.func21, Tryd.ntmps21
    go_wp2_with fail
    refine (HTL.out _ (below_alloc _ _)).mono ?_
    rintro e w1 ⟨rfl, hb⟩
    have hx1 := (twoAt_new w u (.string (bs fr)) 27).below hb
    obtain ⟨c0, c1, _, _⟩ := hx1.cells
    have HX1 := Lib.hid hx1
    have HB := Lib.hid (below_trans (below_alloc _ _) hb); clear hb hx1
    go_wp2_with fail
    refine (HIN2.out _ HB.out).mono ?_
    rintro e w2 ⟨rfl, hb2⟩
    have HB2 := Lib.hid (below_trans HB.out hb2); clear hb2
    go_wp2_with fail
    go_ret2
    exact ⟨rfl, HB2.out⟩

set_option maxHeartbeats 1000000 in
theorem implLiesOf_any (w : World) (u v : Value) (ns : List (List UInt8)) (fr : List UInt8) (xs : List Int) (h : ArgS w u ns) (hf : fr.length ≤ 9223372036854775807) (ha : ArgL w v xs) :
    Calls Tryd.prog 31 #[.agg #[u, .string (bs fr)], v] w fun e w' => e = .returned (.tuple #[.int .i64 ((liesO ns fr xs : Nat) : Int), .bool (toldB ns fr xs)]) ∧ Below w.heap.size w w' := by
  have HTL := Lib.hid (fun (W : World) (hb : Below w.heap.size w W) => canTell_any W u v ns fr xs (argS_below h hb) hf (argL_below ha hb))
  have HIN := Lib.hid (fun (ht : toldB ns fr xs = true) (W : World) (hb : Below w.heap.size w W) => countLies_any W u v ns fr xs (argS_below h hb) (argL_below ha hb) ht)
  obtain ⟨O, hO⟩ : ∃ O, O = liesO ns fr xs := ⟨_, rfl⟩
  rw [← hO]
  unfold liesO at hO
  generalize toldB ns fr xs = T at *
  cases T with
  | false =>
    have E : O = 0 := hO
    subst E
    clear hO
    go_enter Tryd.func31, Tryd.ntmps31
    go_wp2_with fail
    refine (HTL.out _ (below_alloc _ _)).mono ?_
    rintro e w1 ⟨rfl, hb⟩
    have HB := Lib.hid (below_trans (below_alloc _ _) hb); clear hb
    go_wp2_with fail
    go_ret2
    exact ⟨rfl, HB.out⟩
  | true =>
    have E : O = liesL ns fr xs := hO
    have HIN2 := Lib.hid (HIN.out rfl)
    rw [← E] at HIN2
    clear HIN hO E
    go_enter Tryd.func31, Tryd.ntmps31
    go_wp2_with fail
    refine (HTL.out _ (below_alloc _ _)).mono ?_
    rintro e w1 ⟨rfl, hb⟩
    have hx1 := (twoAt_new w u (.string (bs fr)) 27).below hb
    obtain ⟨c0, c1, _, _⟩ := hx1.cells
    have HX1 := Lib.hid hx1
    have HB := Lib.hid (below_trans (below_alloc _ _) hb); clear hb hx1
    go_wp2_with fail
    refine (HIN2.out _ HB.out).mono ?_
    rintro e w2 ⟨rfl, hb2⟩
    have HB2 := Lib.hid (below_trans HB.out hb2); clear hb2
    go_wp2_with fail
    go_ret2
    exact ⟨rfl, HB2.out⟩

set_option maxHeartbeats 1000000 in
theorem implCountLetters_any (w : World) (u v : Value) (ns : List (List UInt8)) (fr : List UInt8) (xs : List Int) (h : ArgS w u ns) (hf : fr.length ≤ 9223372036854775807) (ha : ArgL w v xs) :
    Calls Tryd.prog 24 #[.agg #[u, .string (bs fr)], v] w fun e w' => ListOk (cntO ns fr xs) w w' e := by
  have HTL := Lib.hid (fun (W : World) (hb : Below w.heap.size w W) => canTell_any W u v ns fr xs (argS_below h hb) hf (argL_below ha hb))
  have HIN := Lib.hid (fun (ht : toldB ns fr xs = true) (W : World) (hb : Below w.heap.size w W) => letterCounts_any W u v ns fr xs (argS_below h hb) (argL_below ha hb) ht)
  obtain ⟨O, hO⟩ : ∃ O, O = cntO ns fr xs := ⟨_, rfl⟩
  rw [← hO]
  unfold cntO at hO
  generalize toldB ns fr xs = T at *
  cases T with
  | false =>
    have E : O = none := hO
    subst E
    clear hO
    go_enter Tryd.func24, Tryd.ntmps24
    go_wp2_with fail
    refine (HTL.out _ (below_alloc _ _)).mono ?_
    rintro e w1 ⟨rfl, hb⟩
    have HB := Lib.hid (below_trans (below_alloc _ _) hb); clear hb
    go_wp2_with fail
    go_ret2
    exact listOk_none HB.out
  | true =>
    have E : O = some (cntL ns fr xs) := hO
    subst E
    have HIN2 := Lib.hid (HIN.out rfl)
    obtain ⟨M, hM⟩ : ∃ M, M = xs.length := ⟨_, rfl⟩
    rw [← hM] at HIN2
    clear HIN hO hM
    go_enter Tryd.func24, Tryd.ntmps24
    go_wp2_with fail
    refine (HTL.out _ (below_alloc _ _)).mono ?_
    rintro e w1 ⟨rfl, hb⟩
    have hx1 := (twoAt_new w u (.string (bs fr)) 27).below hb
    obtain ⟨c0, c1, _, _⟩ := hx1.cells
    have HX1 := Lib.hid hx1
    have HB := Lib.hid (below_trans (below_alloc _ _) hb); clear hb hx1
    go_wp2_with fail
    refine (HIN2.out _ HB.out).mono ?_
    rintro e w2 ⟨g, rfl, hi2, hb2⟩
    have HI2 := Lib.hid (intsA_mono (intsA_of hi2) HB.out.size)
    have HB2 := Lib.hid (below_trans HB.out hb2); clear hb2 hi2
    go_wp2_with fail
    go_ret2
    exact ⟨_, rfl, HI2.out, HB2.out⟩

set_option maxHeartbeats 1000000 in
theorem specIsTrueSentence_any (w : World) (u v : Value) (ns : List (List UInt8)) (fr : List UInt8) (xs : List Int) (h : ArgS w u ns) (hf : fr.length ≤ 9223372036854775807) (ha : ArgL w v xs) :
    Calls Tryd.prog 28 #[.agg #[u, .string (bs fr)], v] w fun e w' => e = .returned (.tuple #[.bool (trueO ns fr xs), .bool (toldB ns fr xs)]) ∧ Below w.heap.size w w' := by
  have HTL := Lib.hid (fun (W : World) (hb : Below w.heap.size w W) => snTold_any W u v ns fr xs (argS_below h hb) hf (argL_below ha hb))
  have HIN := Lib.hid (fun (ht : toldB ns fr xs = true) (W : World) (hb : Below w.heap.size w W) => snLies_any W u v ns fr xs (argS_below h hb) (argL_below ha hb) ht)
  obtain ⟨O, hO⟩ : ∃ O, O = trueO ns fr xs := ⟨_, rfl⟩
  rw [← hO]
  unfold trueO at hO
  generalize toldB ns fr xs = T at *
  cases T with
  | false =>
    have E : O = false := hO
    subst E
    clear hO
    go_enter Tryd.func28, Tryd.ntmps28
    go_wp2_with fail
    refine (HTL.out _ (below_alloc _ _)).mono ?_
    rintro e w1 ⟨rfl, hb⟩
    have HB := Lib.hid (below_trans (below_alloc _ _) hb); clear hb
    go_wp2_with fail
    go_ret2
    exact ⟨rfl, HB.out⟩
  | true =>
    have HIN2 := Lib.hid (HIN.out rfl)
    generalize liesL ns fr xs = L at *
    have E : ((L : Int) == 0) = O := by rw [hO]; by_cases e : L = 0 <;> simp [e]
    clear HIN hO
    go_enter Tryd.func28, Tryd.ntmps28
    go_wp2_with fail
    refine (HTL.out _ (below_alloc _ _)).mono ?_
    rintro e w1 ⟨rfl, hb⟩
    have hx1 := (twoAt_new w u (.string (bs fr)) 27).below hb
    obtain ⟨c0, c1, _, _⟩ := hx1.cells
    have HX1 := Lib.hid hx1
    have HB := Lib.hid (below_trans (below_alloc _ _) hb); clear hb hx1
    go_wp2_with fail
    refine (HIN2.out _ HB.out).mono ?_
    rintro e w2 ⟨rfl, hb2⟩
    have HB2 := Lib.hid (below_trans HB.out hb2); clear hb2
    go_wp2_with fail
    go_ret2
    exact ⟨rfl, HB2.out⟩

set_option maxHeartbeats 1000000 in
theorem specLengthOfSentence_any (w : World) (u v : Value) (ns : List (List UInt8)) (fr : List UInt8) (xs : List Int) (h : ArgS w u ns) (hf : fr.length ≤ 9223372036854775807) (ha : ArgL w v xs) :
    Calls Tryd.prog 41 #[.agg #[u, .string (bs fr)], v] w fun e w' => e = .returned (.tuple #[.int .i64 (((sentO ns fr xs).length : Nat) : Int), .bool (toldB ns fr xs)]) ∧ Below w.heap.size w w' := by
  have HTL := Lib.hid (fun (W : World) (hb : Below w.heap.size w W) => snTold_any W u v ns fr xs (argS_below h hb) hf (argL_below ha hb))
  have HIN := Lib.hid (fun (ht : toldB ns fr xs = true) (W : World) (hb : Below w.heap.size w W) => snSentence_any W u v ns fr xs (argS_below h hb) (argL_below ha hb) ht)
  obtain ⟨O, hO⟩ : ∃ O, O = sentO ns fr xs := ⟨_, rfl⟩
  rw [← hO]
  unfold sentO at hO
  generalize toldB ns fr xs = T at *
  cases T with
  | false =>
    have E : O = [] := hO
    subst E
    clear hO
    go_enter Tryd.func41, Tryd.ntmps41
    go_wp2_with fail
    refine (HTL.out _ (below_alloc _ _)).mono ?_
    rintro e w1 ⟨rfl, hb⟩
    have HB := Lib.hid (below_trans (below_alloc _ _) hb); clear hb
    go_wp2_with fail
    go_ret2
    exact ⟨rfl, HB.out⟩
  | true =>
    have E : O = sentL ns fr xs := hO
    have HIN2 := Lib.hid (HIN.out rfl)
    rw [← E] at HIN2
    have hbs : (bs O).size = O.length := bs_size _
    clear HIN hO E
    go_enter Tryd.func41, Tryd.ntmps41
    go_wp2_with fail
    refine (HTL.out _ (below_alloc _ _)).mono ?_
    rintro e w1 ⟨rfl, hb⟩
    have hx1 := (twoAt_new w u (.string (bs fr)) 27).below hb
    obtain ⟨c0, c1, _, _⟩ := hx1.cells
    have HX1 := Lib.hid hx1
    have HB := Lib.hid (below_trans (below_alloc _ _) hb); clear hb hx1
    go_wp2_with fail
    refine (HIN2.out _ HB.out).mono ?_
    rintro e w2 ⟨rfl, hb2⟩
    have HB2 := Lib.hid (below_trans HB.out hb2); clear hb2
    go_wp2_with fail
    go_ret2
    exact ⟨rfl, HB2.out⟩

set_option maxHeartbeats 1000000 in
theorem specCountAgain_any (w : World) (u v : Value) (ns : List (List UInt8)) (fr : List UInt8) (xs : List Int) (h : ArgS w u ns) (hf : fr.length ≤ 9223372036854775807) (ha : ArgL w v xs) :
    Calls Tryd.prog 32 #[.agg #[u, .string (bs fr)], v] w fun e w' => ListOk (againL ns fr xs) w w' e := by
  have HTL := Lib.hid (fun (W : World) (hb : Below w.heap.size w W) => snTold_any W u v ns fr xs (argS_below h hb) hf (argL_below ha hb))
  have HIN := Lib.hid (fun (ht : toldB ns fr xs = true) (W : World) (hb : Below w.heap.size w W) => snAgain_any W u v ns fr xs (argS_below h hb) (argL_below ha hb) ht)
  obtain ⟨O, hO⟩ : ∃ O, O = againL ns fr xs := ⟨_, rfl⟩
  rw [← hO]
  unfold againL at hO
  generalize toldB ns fr xs = T at *
  cases T with
  | false =>
    have E : O = none := hO
    subst E
    clear hO
    go_enter Tryd.func32, Tryd.ntmps32
    go_wp2_with fail
    refine (HTL.out _ (below_alloc _ _)).mono ?_
    rintro e w1 ⟨rfl, hb⟩
    have HB := Lib.hid (below_trans (below_alloc _ _) hb); clear hb
    go_wp2_with fail
    go_ret2
    exact listOk_none HB.out
  | true =>
    have E : O = againO ns fr xs := hO
    unfold againO at E
    have HIN2 := Lib.hid (HIN.out rfl)
    obtain ⟨M, hM⟩ : ∃ M, M = xs.length := ⟨_, rfl⟩
    rw [← hM] at HIN2
    generalize (cntL ns fr xs).all (inB 0 ((ns.length : Int) - 1)) = q at *
    clear HIN hO hM
    go_enter Tryd.func32, Tryd.ntmps32
    go_wp2_with fail
    refine (HTL.out _ (below_alloc _ _)).mono ?_
    rintro e w1 ⟨rfl, hb⟩
    have hx1 := (twoAt_new w u (.string (bs fr)) 27).below hb
    obtain ⟨c0, c1, _, _⟩ := hx1.cells
    have HX1 := Lib.hid hx1
    have HB := Lib.hid (below_trans (below_alloc _ _) hb); clear hb hx1
    go_wp2_with fail
    refine (HIN2.out _ HB.out).mono ?_
    rintro e w2 ⟨g, rfl, hi2, hb2⟩
    have HI2 := Lib.hid (intsA_mono (intsA_of hi2) HB.out.size)
    have HB2 := Lib.hid (below_trans HB.out hb2); clear hb2 hi2
    cases q with
    | true =>
      have E2 : O = some (cntL ns fr xs) := E
      subst E2
      go_wp2_with fail
      go_ret2
      exact ⟨_, rfl, HI2.out, HB2.out⟩
    | false =>
      have E2 : O = none := E
      subst E2
      go_wp2_with fail
      go_ret2
      exact listOk_none HB2.out

set_option maxHeartbeats 1000000 in
theorem implIsTrueSentence_any (w : World) (u v : Value) (ns : List (List UInt8)) (fr : List UInt8) (xs : List Int) (h : ArgS w u ns) (hf : fr.length ≤ 9223372036854775807) (ha : ArgL w v xs) :
    Calls Tryd.prog 29 #[.agg #[u, .string (bs fr)], v] w fun e w' => e = .returned (.tuple #[.bool (trueO ns fr xs), .bool (toldB ns fr xs)]) ∧ Below w.heap.size w w' := by
  have HIN := Lib.hid (fun (W : World) (hb : Below w.heap.size w W) => implLiesOf_any W u v ns fr xs (argS_below h hb) hf (argL_below ha hb))
  obtain ⟨O, hO⟩ : ∃ O, O = trueO ns fr xs := ⟨_, rfl⟩
  rw [← hO]
  unfold trueO at hO
  obtain ⟨L, hL⟩ : ∃ L, L = liesO ns fr xs := ⟨_, rfl⟩
  rw [← hL] at HIN
  unfold liesO at hL
  generalize toldB ns fr xs = T at *
  cases T with
  | false =>
    have E : O = false := hO
    have E2 : L = 0 := hL
    subst E; subst E2
    clear hO hL
    go_enter Tryd.func29, Tryd.ntmps29
    go_wp2_with fail
    refine (HIN.out _ (below_alloc _ _)).mono ?_
    rintro e w1 ⟨rfl, hb⟩
    have HB := Lib.hid (below_trans (below_alloc _ _) hb); clear hb
    go_wp2_with fail
    go_ret2
    exact ⟨rfl, HB.out⟩
  | true =>
    have E2 : L = liesL ns fr xs := hL
    rw [← E2] at hO
    have E : ((L : Int) == 0) = O := by rw [hO]; by_cases e : L = 0 <;> simp [e]
    clear hO hL E2
    go_enter Tryd.func29, Tryd.ntmps29
    go_wp2_with fail
    refine (HIN.out _ (below_alloc _ _)).mono ?_
    rintro e w1 ⟨rfl, hb⟩
    have HB := Lib.hid (below_trans (below_alloc _ _) hb); clear hb
    go_wp2_with fail
    go_ret2
    exact ⟨rfl, HB.out⟩

set_option maxHeartbeats 1000000 in
theorem implLengthOfSentence_any (w : World) (u v : Value) (ns : List (List UInt8)) (fr : List UInt8) (xs : List Int) (h : ArgS w u ns) (hf : fr.length ≤ 9223372036854775807) (ha : ArgL w v xs) :
    Calls Tryd.prog 42 #[.agg #[u, .string (bs fr)], v] w fun e w' => e = .returned (.tuple #[.int .i64 (((sentO ns fr xs).length : Nat) : Int), .bool (toldB ns fr xs)]) ∧ Below w.heap.size w w' := by
  have HIN := Lib.hid (fun (W : World) (hb : Below w.heap.size w W) => implSentenceOf_any W u v ns fr xs (argS_below h hb) hf (argL_below ha hb))
  generalize sentO ns fr xs = O at *
  generalize toldB ns fr xs = T at *
  have hbs : (bs O).size = O.length := bs_size _
  go_enter Tryd.func42, Tryd.ntmps42
  go_wp2_with fail
  refine (HIN.out _ (below_alloc _ _)).mono ?_
  rintro e w1 ⟨rfl, hb⟩
  have HB := Lib.hid (below_trans (below_alloc _ _) hb); clear hb
  go_wp2_with fail
  go_ret2
  exact ⟨rfl, HB.out⟩

theorem told_again {ns : List (List UInt8)} {fr : List UInt8} {xs : List Int} (h : toldB ns fr xs = true) : toldB ns fr (cntL ns fr xs) = (cntL ns fr xs).all (inB 0 ((ns.length : Int) - 1)) := by
  obtain ⟨h1, h2, h3, _⟩ := toldB_parts h
  rw [toldB_eq, h1, cntL_len, decide_eq_true ⟨h2, h3⟩]; rfl
set_option maxHeartbeats 1000000 in
theorem implCountAgain_any (w : World) (u v : Value) (ns : List (List UInt8)) (fr : List UInt8) (xs : List Int) (h : ArgS w u ns) (hf : fr.length ≤ 9223372036854775807) (ha : ArgL w v xs) :
    Calls Tryd.prog 33 #[.agg #[u, .string (bs fr)], v] w fun e w' => ListOk (againL ns fr xs) w w' e := by
  have HIN := Lib.hid (fun (W : World) (hb : Below w.heap.size w W) => implCountLetters_any W u v ns fr xs (argS_below h hb) hf (argL_below ha hb))
  have HCT := Lib.hid (fun (W : World) (hb : Below w.heap.size w W) (v' : Value) (ys : List Int) (hv : ArgL W v' ys) => canTell_any W u v' ns fr ys (argS_below h hb) hf hv)
  obtain ⟨O, hO⟩ : ∃ O, O = againL ns fr xs := ⟨_, rfl⟩
  rw [← hO]
  unfold againL at hO
  have hta := told_again (ns := ns) (fr := fr) (xs := xs)
  obtain ⟨cs, hcs⟩ : ∃ cs, cs = cntL ns fr xs := ⟨_, rfl⟩
  obtain ⟨R, hR⟩ : ∃ R, R = cntO ns fr xs := ⟨_, rfl⟩
  rw [← hR] at HIN
  unfold cntO at hR
  unfold againO at hO
  rw [← hcs] at hR hO hta
  clear hcs
  generalize toldB ns fr xs = T at *
  cases T with
  | false =>
    have E : O = none := hO
    have E2 : R = none := hR
    subst E; subst E2
    clear hta hO hR
    go_enter Tryd.func33, Tryd.ntmps33
    go_wp2_with fail
    refine (HIN.out _ (below_alloc _ _)).mono ?_
    rintro e w1 ⟨v1, rfl, hi, hb⟩
    have HB := Lib.hid (below_trans (below_alloc _ _) hb); clear hb hi
    go_wp2_with fail
    go_ret2
    exact listOk_none HB.out
  | true =>
    have E2 : R = some cs := hR
    subst E2
    have hta2 := hta rfl
    rw [← hta2] at hO
    have HO := Lib.hid hO
    clear hta hta2 hO hR
    go_enter Tryd.func33, Tryd.ntmps33
    go_wp2_with fail
    refine (HIN.out _ (below_alloc _ _)).mono ?_
    rintro e w1 ⟨v1, rfl, hi, hb⟩
    have hi2 : IntsA w1 w.heap.size v1 cs := intsA_mono hi (by simp)
    have hx1 := (twoAt_new w u (.string (bs fr)) 27).below hb
    obtain ⟨c0, c1, _, _⟩ := hx1.cells
    have HI := Lib.hid hi2
    have HB := Lib.hid (below_trans (below_alloc _ _) hb); clear hb hi hi2 hx1
    go_wp2_with fail
    refine (HCT.out _ HB.out _ cs (argL_of HI.out)).mono ?_
    rintro e w2 ⟨rfl, hb2⟩
    have HI2 := Lib.hid (intsA_below HI.out hb2)
    have HB2 := Lib.hid (below_trans HB.out hb2); clear hb2
    generalize toldB ns fr cs = q at *
    cases q with
    | true =>
      have E3 : O = some cs := HO.out
      subst E3
      go_wp2_with fail
      go_ret2
      exact ⟨_, rfl, HI2.out, HB2.out⟩
    | false =>
      have E3 : O = none := HO.out
      subst E3
      go_wp2_with fail
      go_ret2
      exact listOk_none HB2.out
end Go.Proofs.YtampjipbemmicaaDoor
