/- All smooth words of a length: the program's. -/
import Derived.Test.YtkjmocdhhndlgaaGreatDoorD12
namespace Go.Proofs.YtkjmocdhhndlgaaGreatDoor
open Go.RowKit Go.BigFrame Go.Shelf
set_option linter.unusedSimpArgs false
set_option linter.unusedVariables false
set_option maxRecDepth 4000

theorem info_strD : ∃ i, Tryz.prog.info? 9 = some i ∧ i.zero = some (.string ⟨#[]⟩) ∧ i.size = 1 ∧ i.bytes = 16 := by
  have h : (Tryz.prog.info? 9).map (fun i => (i.zero, i.size, i.bytes)) = some (some (.string ⟨#[]⟩), 1, 16) := by kernel_rfl
  obtain ⟨i, hi, hb⟩ := Option.map_eq_some_iff.1 h
  simp only [Prod.mk.injEq] at hb
  exact ⟨i, hi, hb.1, hb.2.1, hb.2.2⟩
def strsV (ls : List (List UInt8)) : List Value := ls.map fun l => .string (bs l)
theorem strsV_len (ls : List (List UInt8)) : (strsV ls).length = ls.length := by simp [strsV]
/-- A row of texts and a bool, or nil and false. -/
def AllOk (o : Option (List (List UInt8))) (w w' : World) (e : Ending) : Prop :=
  ∃ v, e = .returned (.tuple #[v, .bool o.isSome]) ∧ w'.ownsRow w.heap.size 9 1 v (o.getD []).length (strsV (o.getD [])) ∧ Below w.heap.size w w'
def smO (n : Int) : Option (List (List UInt8)) := if 0 ≤ n ∧ n ≤ 14 then some (smAll n.toNat) else none
def smTo (n m : Nat) : List (List UInt8) := ((List.range m).map (lowT n)).filter smB
theorem smTo_all (n : Nat) : smTo n (2 ^ n) = smAll n := by unfold smTo smAll; rw [lowT_all]
theorem smTo_succ (n m : Nat) : smTo n (m + 1) = smTo n m ++ (if smB (lowT n m) = true then [lowT n m] else []) := by
  unfold smTo
  rw [List.range_succ, List.map_append, List.filter_append]
  simp only [List.map_cons, List.map_nil, List.filter_cons, List.filter_nil]
theorem smTo_len (n m : Nat) : (smTo n m).length ≤ m := by
  unfold smTo; exact Nat.le_trans (List.length_filter_le _ _) (by simp)
theorem lowT_on : ∀ (n k : Nat), (lowT n k).all onB = true
  | 0, _ => rfl
  | n + 1, k => by
    rw [lowT, List.all_append, lowT_on n]
    have h2 : k % 2 < 2 := Nat.mod_lt _ (by decide)
    have h3 : k % 2 = 0 ∨ k % 2 = 1 := by omega
    rcases h3 with h3 | h3 <;> rw [h3] <;> rfl
theorem lowT_low (n k : Nat) (h : n ≤ 60) : lowB (lowT n k) = true := by
  unfold lowB; rw [lowT_len, lowT_on, decide_eq_true h]; rfl
theorem smB_dep {l : List UInt8} (h : lowB l = true) : (depO l).isSome = smB l := by unfold depO smB; rw [if_pos h]

set_option maxHeartbeats 1000000 in
theorem implAllSmooth_any (w : World) (n : Int) : Calls Tryz.prog 20 #[.int .i64 n] w fun e w' => AllOk (smO n) w w' e := by
  obtain ⟨i0, hi, hz0, hz1, hz2⟩ := info_strD
  by_cases h : 0 ≤ n ∧ n ≤ 14
  · obtain ⟨N, rfl⟩ : ∃ N : Nat, n = (N : Int) := ⟨n.toNat, by omega⟩
    have hN : N ≤ 14 := by omega
    have ho : smO (N : Int) = some (smTo N (2 ^ N)) := by unfold smO; rw [if_pos h, Int.toNat_natCast, smTo_all]
    have hd : decide ((0 : Int) ≤ (N : Int) ∧ (N : Int) ≤ 14) = true := decide_eq_true h
    obtain ⟨M, hM⟩ : ∃ M, M = 2 ^ N := ⟨_, rfl⟩
    have hM2 : M ≤ 16384 := by rw [hM]; exact Nat.pow_le_pow_right (by omega) hN
    have hpow : ((2 : Int) ^ N) = (M : Int) := by rw [hM]; exact (Int.natCast_pow 2 N).symm
    rw [← hM] at ho
    have HO := Lib.hid ho; have HD := Lib.hid hd; clear ho hd h hM
    go_enter Tryz.func20, Tryz.ntmps20
    go_wp2_with fail
    refine (isWithin_is true _ _ _ _ HD.out).mono ?_
    rintro e w1 ⟨rfl, rfl⟩
    go_wp2_with fail
    go_loopw [4, 13] (fun v iv wr => ∃ (k : Nat), iv = .int .i64 (k : Int) ∧ k ≤ M ∧ (∃ a c, v = .slice a (smTo N k).length c) ∧ Hid (wr.ownsRow w.heap.size 9 1 v (smTo N k).length (strsV (smTo N k)) ∧ Below w.heap.size w wr)) (fun _ iv _ => M - (intOf iv).toNat)
    case atStart => exact ⟨0, rfl, Nat.zero_le _, ⟨_, _, rfl⟩, own_lit w w.heap.size 9 [] (Nat.le_refl _) (Nat.zero_le _), below_alloc _ _⟩
    case round =>
      obtain ⟨k, rfl, hk, ⟨av, cv, rfl⟩, HX⟩ := hrel
      have hLk := smTo_len N k
      by_cases hlt : k < M
      · have HT := Lib.hid (fun (W : World) => lowText_any k N W hN (by omega))
        have hsu := smTo_succ N k
        have hsm := smB_dep (lowT_low N k (by omega))
        have his := fun (W : World) => implIsSmooth_any (bs (lowT N k)) W (by rw [bs_size, lowT_len]; unfold maxLen; omega)
        rw [bs_list, hsm] at his
        have HIS := Lib.hid his
        generalize lowT N k = T at *
        generalize hE : smTo N k = E at *
        obtain ⟨L, hL⟩ : ∃ L, L = E.length := ⟨_, rfl⟩
        have hLe : (strsV E).length = L := by rw [strsV_len, hL]
        have hrow : wr.ownsRow w.heap.size 9 1 (.slice av L cv) L (strsV E) := by rw [hL]; exact HX.out.1
        have hLk2 : L ≤ k := by rw [hL]; exact hLk
        rw [← hL]
        have HROW := Lib.hid hrow; have HSU := Lib.hid hsu; have HL := Lib.hid hL; have HB := Lib.hid HX.out.2
        clear hsu hsm his hE hLe hrow hL hLk HX
        go_wp2_with fail
        refine (HT.out _).mono ?_
        rintro e w2 ⟨rfl, hb2⟩
        have HB2 := Lib.hid hb2; clear hb2
        go_wp2_with fail
        refine (HIS.out _).mono ?_
        rintro e w3 ⟨rfl, hb3⟩
        have HB3 := Lib.hid (below_trans HB2.out hb3); clear hb3
        cases hs : smB T with
        | false =>
          rw [hs] at HSU
          go_wp2_with fail
          go_roundw
          case rel =>
            have e5 : smTo N (k + 1) = E := by rw [HSU.out]; simp
            refine ⟨k + 1, by go_num, by omega, ⟨av, cv, by rw [e5, ← HL.out]⟩, ?_, below_trans HB.out HB3.out⟩
            rw [e5, ← HL.out]
            exact own_below HROW.out HB3.out
          case measure => simp [intOf] <;> omega
        | true =>
          rw [hs] at HSU
          go_wp2_with (at_builtin; refine wpList_app _ rfl _ _ 29 rfl w.heap.size 9 i0 (.string ⟨#[]⟩) 16 Tryz.underlying29 hi hz0 hz1 hz2 rfl _ L _ rfl ((own_below HROW.out HB3.out).alloc _) _ 1 1 [.string (bs T)] rfl rfl ?c1 ?c2 ?c3 ?c4 ?c5 ?_)
          case c1 => intro j u hj; cases j with | zero => (simp at hj; subst hj; simp [Addr.add]) | succ j => simp at hj
          case c2 => intro u hu; simp at hu; subst hu; rfl
          case c3 => unfold maxLen; omega
          case c4 => omega
          case c5 => have := HB.out.size; have := HB3.out.size; simp; omega
          intro v' w4 hown' hgrow _
          obtain ⟨av', cv', rfl⟩ := own_slice hown'
          have R1 := Lib.hid hown'
          have hbw : Below w.heap.size w w3 := below_trans HB.out HB3.out
          have R2 := Lib.hid ((hbw.alloc hbw.size _).grown hgrow (by have := hbw.size; simp; omega) (fun q hq => (HROW.out.lt q hq).1))
          clear hown' hgrow hbw
          go_wp2_with fail
          go_roundw
          case rel =>
            have e5 : smTo N (k + 1) = E ++ [T] := by rw [HSU.out]; simp
            have e6 : (E ++ [T]).length = L + 1 := by rw [List.length_append, ← HL.out]; rfl
            refine ⟨k + 1, by go_num, by omega, ⟨av', cv', by rw [e5, e6]⟩, ?_, R2.out⟩
            rw [e5, e6]
            have e7 : strsV (E ++ [T]) = strsV E ++ [.string (bs T)] := by simp [strsV]
            rw [e7]
            exact R1.out
          case measure => simp [intOf] <;> omega
      · obtain rfl : k = M := by omega
        generalize hE : smTo N k = E at *
        have HROW := Lib.hid HX.out.1; have HB := Lib.hid HX.out.2
        clear HX hE
        go_wp2_with fail
        go_ret2
        exact ⟨_, by rw [HO.out]; rfl, by rw [HO.out]; exact HROW.out, HB.out⟩
  · have ho : smO n = none := if_neg h
    have hd : decide ((0 : Int) ≤ n ∧ n ≤ 14) = false := decide_eq_false h
    have HO := Lib.hid ho; have HD := Lib.hid hd; clear ho hd
    go_enter Tryz.func20, Tryz.ntmps20
    go_wp2_with fail
    refine (isWithin_is false _ _ _ _ HD.out).mono ?_
    rintro e w2 ⟨rfl, rfl⟩
    go_wp2_with fail
    go_ret2
    exact ⟨_, by rw [HO.out]; rfl, by rw [HO.out]; exact World.ownsRow_nil _ _ _ _, Below.refl _ _⟩
end Go.Proofs.YtkjmocdhhndlgaaGreatDoor
