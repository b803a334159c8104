/- Chapter 7: the model's lies, counting again; what its functions tell. -/
import Derived.Test.YtampjipbemmicaaDoor7L
namespace Go.Proofs.YtampjipbemmicaaDoor
open Go.RowKit Go.BigFrame
set_option linter.unusedSimpArgs false
set_option linter.unusedVariables false
set_option maxRecDepth 4000

def ListOk (o : Option (List Int)) (w w' : World) (e : Ending) : Prop :=
  ∃ v, e = .returned (.tuple #[v, .bool o.isSome]) ∧ IntsA w' w.heap.size v (o.getD []) ∧ Below w.heap.size w w'
theorem liesK_succ (cs xs : List Int) (k : Nat) : liesK cs xs (k + 1) = liesK cs xs k + if cs.getD k 0 = xs.getD k 0 then 0 else 1 := rfl
theorem ints_cells {w : World} {B g n c : Nat} {xs : List Int} (h : Ints w B (.slice (some ⟨g, 0, none⟩) n c) xs) : g < w.heap.size ∧ B ≤ g ∧ n = xs.length ∧ n ≤ c ∧ c ≤ 9223372036854775807 ∧ ∀ i (hi : i < xs.length), w.cell? ⟨g, i, none⟩ = some (.int .i64 xs[i]) := by
  rcases ints_open h with ⟨e, _⟩ | ⟨g', cap, e, h2, h3, h4, h5, h6, h7⟩
  · cases e
  · cases e
    refine ⟨h3, h2, rfl, ?_, ?_, fun i hi => h6 i hi⟩
    · have := argL_of (intsA_of h); obtain ⟨A', C', e', g1, g2, _⟩ := this; cases e'; exact g1
    · have := argL_of (intsA_of h); obtain ⟨A', C', e', g1, g2, _⟩ := this; cases e'; exact g2

set_option maxHeartbeats 1000000 in
theorem snLies_any (w : World) (u v : Value) (ns : List (List UInt8)) (fr : List UInt8) (xs : List Int) (h : ArgS w u ns) (ha : ArgL w v xs) (ht : toldB ns fr xs = true) :
    Calls Tryd.prog 62 #[.agg #[u, .string (bs fr)], v] w fun e w' => e = .returned (.int .i64 ((liesL ns fr xs : Nat) : Int)) ∧ Below w.heap.size w w' := by
  obtain ⟨p1, p2, p3, p4⟩ := toldB_parts ht
  have HSN := Lib.hid (fun (W : World) (hb : Below w.heap.size w W) => snCount_any W u v ns fr xs (argS_below h hb) (argL_below ha hb) ht)
  obtain ⟨A2, C2, rfl, hC2, hCm2, hcell2⟩ := ha
  obtain ⟨M, hM⟩ : ∃ M, M = xs.length := ⟨_, rfl⟩
  have HC2 := Lib.hid hcell2; have HM := Lib.hid hM
  have hcl : (cntL ns fr xs).length = M := by rw [cntL_len, hM]
  obtain ⟨R, hR⟩ : ∃ R, R = liesL ns fr xs := ⟨_, rfl⟩
  have hR2 : R = liesK (cntL ns fr xs) xs M := by rw [hR, hM]; rfl
  rw [← hR]
  generalize cntL ns fr xs = cs at *
  rw [← hM] at hC2 p2 p3 HSN ⊢
  have HR := Lib.hid hR2; have HCL := Lib.hid hcl
  clear hcell2 hM hR hR2 p1 p4 ht hcl
  go_enter Tryd.func62, Tryd.ntmps62
  go_wp2_with fail
  refine (HSN.out _ (below_alloc _ _)).mono ?_
  rintro e w1 ⟨g, rfl, hi, hb⟩
  have HB := Lib.hid (below_trans (below_alloc _ _) hb)
  obtain ⟨g1, g2, g3, g4, g5, g6⟩ := ints_cells hi
  have HG := Lib.hid g6
  clear hi hb g2 g3 g4 g6
  go_wp2_with fail
  go_loop [5, 12] (fun l i => ∃ k m : Nat, i = .int .i64 (k : Int) ∧ l = .int .i64 (m : Int) ∧ k ≤ M ∧ m ≤ k ∧ Hid (m = liesK cs xs k)) (fun _ i => M - (intOf i).toNat)
  case atStart => exact ⟨0, 0, rfl, rfl, Nat.zero_le _, Nat.le_refl _, rfl⟩
  case round =>
    obtain ⟨k, m, rfl, rfl, hk, hmk, HX⟩ := hrel
    by_cases hlt : k < M
    · have hk' : k < xs.length := by rw [← HM.out]; exact hlt
      have hk2 : k < cs.length := by rw [HCL.out]; exact hlt
      obtain ⟨b2, o2, rfl, hb2, hc2⟩ := HC2.out k hk'
      have hw2 : w1.cell? ⟨b2, o2 + k, none⟩ = some (.int .i64 xs[k]) := (HB.out.cell (p := ⟨b2, o2 + k, none⟩) hb2).trans hc2
      have hw1 : w1.cell? ⟨g, k, none⟩ = some (.int .i64 cs[k]) := HG.out k hk2
      have hst := liesK_succ cs xs k
      rw [show cs.getD k 0 = cs[k] from by simp [List.getD, hk2], show xs.getD k 0 = xs[k] from by simp [List.getD, hk']] at hst
      obtain ⟨x, hx⟩ : ∃ x, x = xs[k] := ⟨_, rfl⟩
      obtain ⟨c, hc⟩ : ∃ c, c = cs[k] := ⟨_, rfl⟩
      rw [← hx] at hw2 hst; rw [← hc] at hw1 hst
      by_cases hcx : c = x
      · have hq : (c != x) = false := by simp [hcx]
        rw [if_pos hcx] at hst
        have HST := Lib.hid hst
        clear hst hc2 hx hc hcx
        go_wp2_with fail
        go_round
        case rel => exact ⟨k + 1, m, by go_num, rfl, by omega, by omega, by rw [HST.out, ← HX.out]; rfl⟩
        case measure => simp [intOf] <;> omega
      · have hq : (c != x) = true := by simp [hcx]
        rw [if_neg hcx] at hst
        have HST := Lib.hid hst
        clear hst hc2 hx hc hcx
        go_wp2_with fail
        go_round
        case rel => exact ⟨k + 1, m + 1, by go_num, by go_num, by omega, by omega, by rw [HST.out, ← HX.out]; rfl⟩
        case measure => simp [intOf] <;> omega
    · obtain rfl : k = M := by omega
      go_wp2_with fail
      go_ret
      exact ⟨ret_int (by rw [HX.out, HR.out]), HB.out⟩

/-- What is counted, if all numbers have names. -/
def againO (ns : List (List UInt8)) (fr : List UInt8) (xs : List Int) : Option (List Int) :=
  if (cntL ns fr xs).all (inB 0 ((ns.length : Int) - 1)) = true then some (cntL ns fr xs) else none

set_option maxHeartbeats 1000000 in
theorem snAgain_any (w : World) (u v : Value) (ns : List (List UInt8)) (fr : List UInt8) (xs : List Int) (h : ArgS w u ns) (ha : ArgL w v xs) (ht : toldB ns fr xs = true) :
    Calls Tryd.prog 64 #[.agg #[u, .string (bs fr)], v] w fun e w' => ∃ g, e = .returned (.tuple #[.slice (some ⟨g, 0, none⟩) xs.length xs.length, .bool ((cntL ns fr xs).all (inB 0 ((ns.length : Int) - 1)))]) ∧ Ints w' w.heap.size (.slice (some ⟨g, 0, none⟩) xs.length xs.length) (cntL ns fr xs) ∧ Below w.heap.size w w' := by
  have hN10 : ns.length ≤ 10 := (langB_parts (toldB_parts ht).1).2.1
  have HSN := Lib.hid (fun (W : World) (hb : Below w.heap.size w W) => snCount_any W u v ns fr xs (argS_below h hb) (argL_below ha hb) ht)
  obtain ⟨A, C, rfl, hC, hCm, _⟩ := h
  obtain ⟨A2, C2, rfl, hC2, hCm2, _⟩ := ha
  obtain ⟨N, hN⟩ : ∃ N, N = ns.length := ⟨_, rfl⟩
  obtain ⟨M, hM⟩ : ∃ M, M = xs.length := ⟨_, rfl⟩
  rw [← hN] at hC HSN hN10 ⊢
  rw [← hM] at hC2 HSN ⊢
  generalize cntL ns fr xs = cs at *
  clear hN hM ht
  go_enter Tryd.func64, Tryd.ntmps64
  go_wp2_with fail
  refine (HSN.out _ (below_alloc _ _)).mono ?_
  rintro e w1 ⟨g, rfl, hi, hb⟩
  have hx1 := (twoAt_new w (.slice A N C) (.string (bs fr)) 27).below hb
  obtain ⟨c0, c1, _, _⟩ := hx1.cells
  have HB := Lib.hid (below_trans (below_alloc _ _) hb)
  have HI := Lib.hid hi
  clear hi hb hx1
  go_wp2_with fail
  refine (l1AllL_any w1 _ cs 0 _ (argL_of (intsA_of HI.out))).mono ?_
  rintro e w2 ⟨rfl, rfl⟩
  go_wp2_with fail
  go_ret2
  exact ⟨g, rfl, own_mono HI.out (by simp), HB.out⟩
end Go.Proofs.YtampjipbemmicaaDoor
