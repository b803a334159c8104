/- WordsDerivedTo: the model's helpers, and what is laid into its place (pure). -/
import Derived.Test.YtkjmocdhhndlgaaGreatDoorD17
import Derived.Sort.Walk0
namespace Go.Proofs.YtkjmocdhhndlgaaGreatDoor
open Go.RowKit Go.BigFrame Go.Shelf
set_option linter.unusedSimpArgs false
set_option linter.unusedVariables false
set_option maxRecDepth 4000

theorem sortedD {R l : List (List UInt8)} (hp : R.Perm l) (hs : R.Pairwise (· ≤ ·)) : R = l.mergeSort fun x y => decide (x ≤ y) := by
  have tr : ∀ a b c : List UInt8, decide (a ≤ b) = true → decide (b ≤ c) = true → decide (a ≤ c) = true := fun a b c h1 h2 => by simp only [decide_eq_true_eq] at *; exact List.le_trans h1 h2
  have tot : ∀ a b : List UInt8, (decide (a ≤ b) || decide (b ≤ a)) = true := fun a b => by simp only [Bool.or_eq_true, decide_eq_true_eq]; exact List.le_total a b
  refine List.Perm.eq_of_pairwise (le := fun a b => a ≤ b) (fun a b _ _ h1 h2 => List.le_antisymm h1 h2) hs ?_ (hp.trans (List.mergeSort_perm l _).symm)
  exact (List.pairwise_mergeSort tr tot l).imp fun h => by simpa using h
theorem insD (out : List (List UInt8)) (s : List UInt8) (k : Nat) (hk : k ≤ out.length) (hs : out.Pairwise (· ≤ ·)) (h1 : ∀ j (hj : j < out.length), j < k → out[j] < s)
    (h2 : ∀ h : k < out.length, ¬ out[k] < s) : (out.take k ++ s :: out.drop k).Pairwise (· ≤ ·) ∧ (out.take k ++ s :: out.drop k).Perm (out ++ [s]) := by
  have hs' := hs
  rw [← List.take_append_drop k out] at hs'
  obtain ⟨p1, p2, p3⟩ := List.pairwise_append.1 hs'
  constructor
  · refine List.pairwise_append.2 ⟨p1, List.pairwise_cons.2 ⟨fun b hb => ?_, p2⟩, fun a ha b hb => ?_⟩
    · obtain ⟨j, hj, e⟩ := List.getElem_of_mem hb
      rw [List.getElem_drop] at e
      rw [List.length_drop] at hj
      rw [← e]
      have hkl : k < out.length := by omega
      have hle : out[k] ≤ out[k + j]'(by omega) := by
        by_cases e' : j = 0
        · subst e'; exact List.le_refl _
        · exact List.pairwise_iff_getElem.1 hs k (k + j) hkl (by omega) (by omega)
      exact List.le_trans (List.not_lt.1 (h2 hkl)) hle
    · obtain ⟨i, hi, e⟩ := List.getElem_of_mem ha
      have hik : i < k := by rw [List.length_take] at hi; omega
      rw [List.getElem_take] at e
      rcases List.mem_cons.1 hb with rfl | hb
      · rw [← e]; exact List.le_of_lt (h1 i (by omega) hik)
      · exact p3 a ha b hb
  · have e : (out.take k ++ s :: out.drop k).Perm (s :: (out.take k ++ out.drop k)) := List.perm_middle
    rw [List.take_append_drop] at e
    exact e.trans (List.perm_append_singleton s out).symm
theorem cmpD (x y : List UInt8) : Op.bytesLess (bs x).toList (bs y).toList = decide (x < y) := by
  rw [Go.Lib.toList_data, Go.Lib.toList_data, bytesLess_eq]
  exact decide_eq_decide.2 (by simp [bs])
theorem add_plainD (b o r : Nat) : (⟨b, o, none⟩ : Addr).add r = ⟨b, o + r, none⟩ := by
  unfold Addr.add
  split
  · subst_vars; rfl
  · rfl
theorem strsV_one (ls : List (List UInt8)) : ∀ u ∈ strsV ls, u.oneCell' = true := by
  intro u hu
  simp only [strsV, List.mem_map] at hu
  obtain ⟨l, _, rfl⟩ := hu
  rfl
theorem run_append_noneD {P : Program} (w : World) (t ty e : TypeId) (i : TypeInfo) (ht : P.underlying t = some (.slice e)) (hi : P.info? e = some i) (b : Option Addr) (n c : Nat) (h : n ≤ c) :
    (Builtin.append_ #[t, t] ty #[.slice b n c, .slice none 0 0]).run P w = .ok (.slice b n c) w := by
  cases b with
  | none => simp [Builtin.append_, run_underlying ht, sizeOf, typeInfo, hi, Builtin.lenOf, Builtin.firstCells, h]
  | some a => simp [Builtin.append_, run_underlying ht, sizeOf, typeInfo, hi, Builtin.lenOf, Builtin.firstCells, h, storeCells]
theorem wpList_appD0 {P : Program} (w : World) {ops : Array Oper} {rest : List Oper} {o : Oper} {a : Act} {Q : Exit → Act → World → Prop} (hgd : o.guard = none) (s x : Operand) (t : TypeId)
    (ho : o.op = .call { callee := .builtin .append, args := #[s, x], argTypes := #[t, t] })
    (e : TypeId) (i : TypeInfo) (ht : P.underlying t = some (.slice e)) (hi : P.info? e = some i) (b : Option Addr) (n c : Nat) (hs : a.eval s = .slice b n c) (hx : a.eval x = .slice none 0 0) (hn : n ≤ c)
    (h : wpList P ops Q rest (a.put o.dst (.slice b n c)) w) : wpList P ops Q (o :: rest) a w := by
  refine wpList_plain hgd fun K hK => ?_
  unfold Oper.wp execOp
  simp only [ho, resolve, invoke, builtin, Sem.run_bind, Sem.run_pure, Result.andThen_ok, List.map_toArray, List.map_cons, List.map_nil, hs, hx, run_append_noneD w t o.type e i ht hi b n c hn]
  exact hK _ _ h

set_option maxHeartbeats 1000000 in
theorem l1OwnSD_any (w : World) (g m c : Nat) (ls : List (List UInt8)) (hm : m = ls.length) (h9 : m ≤ 2000000000) (hc : ∀ j (hj : j < ls.length), w.cell? ⟨g, j, none⟩ = some (.string (bs ls[j]))) :
    Calls Tryz.prog 45 #[.slice (some ⟨g, 0, none⟩) m c] w fun e w' => ∃ v, e = .returned v ∧ w'.ownsRow w.heap.size 9 1 v m (strsV ls) ∧ Below w.heap.size w w' := by
  obtain ⟨i0, hi, hz0, hz1, hz2⟩ := info_strD
  have HC := Lib.hid hc; have HM := Lib.hid hm; clear hc hm
  go_enter Tryz.func45, Tryz.ntmps45
  go_wp2_with (at_builtin; refine wpList_app _ rfl _ _ 29 rfl w.heap.size 9 i0 (.string ⟨#[]⟩) 16 Tryz.underlying29 hi hz0 hz1 hz2 rfl _ 0 [] rfl (own_lit w w.heap.size 9 [] (Nat.le_refl _) (by simp [maxLen])) ⟨g, 0, none⟩ m c (strsV ls) rfl (by rw [HM.out]; simp [strsV]) ?c1 ?c2 ?c3 ?c4 ?c5 ?_)
  case c1 =>
    intro j u hj
    rw [add_plainD, Nat.zero_add]
    obtain ⟨hjl, e⟩ := List.getElem?_eq_some_iff.1 hj
    have hjl' : j < ls.length := by simpa [strsV] using hjl
    have hlt := World.block_lt_of_cell? w _ (HC.out j hjl')
    rw [(below_alloc w _).cell (p := ⟨g, j, none⟩) hlt, HC.out j hjl', ← e]
    simp [strsV]
  case c2 => exact strsV_one ls
  case c3 => unfold maxLen; omega
  case c4 => omega
  case c5 => simp
  intro v' w1 hown hgr hwh
  have hown : w1.ownsRow w.heap.size 9 1 v' m (strsV ls) := by simpa using hown
  have HO := Lib.hid hown
  have HB := Lib.hid ((below_alloc w (.cells #[] 9)).grown hgr (by simp) (fun r e => by cases e; exact Nat.le_refl _))
  clear hown hgr hwh
  go_wp2_with fail
  go_ret
  exact ⟨_, rfl, HO.out, HB.out⟩
theorem l1OwnSD_nil (w : World) :
    Calls Tryz.prog 45 #[.slice none 0 0] w fun e w' => ∃ v, e = .returned v ∧ w'.ownsRow w.heap.size 9 1 v 0 (strsV []) ∧ Below w.heap.size w w' := by
  obtain ⟨i0, hi, hz0, hz1, hz2⟩ := info_strD
  go_enter Tryz.func45, Tryz.ntmps45
  go_wp2_with (at_builtin; refine wpList_appD0 _ rfl _ _ 29 rfl 9 i0 Tryz.underlying29 hi (some ⟨w.heap.size, 0, none⟩) 0 0 rfl rfl (Nat.le_refl _) ?_)
  go_ret
  exact ⟨_, rfl, own_lit w w.heap.size 9 [] (Nat.le_refl _) (by simp [maxLen]), below_alloc _ _⟩
set_option maxHeartbeats 1000000 in
theorem l1HasSD_any (w : World) (B L : Nat) (v : Value) (O : List (List UInt8)) (y : List UInt8) (hy : y ∉ O) (hL : L = O.length) (h8 : L ≤ 1000) (h : w.ownsRow B 9 1 v L (strsV O)) :
    Calls Tryz.prog 44 #[v, .string (bs y)] w fun e w' => e = .returned (.bool false) ∧ Below w.heap.size w w' := by
  rcases own_open h with ⟨rfl, rfl, h3⟩ | ⟨g, cap, rfl, hBg, hg, hn, hcp, _, hce, hfr⟩
  · clear h hy hL
    go_enter Tryz.func44, Tryz.ntmps44
    go_wp2_with fail
    refine wp_loop_rounds 1 ?_
    rw [rounds_succ]
    go_wp2
    go_ret
    exact ⟨rfl, Below.refl _ _⟩
  · have hce2 : ∀ i (hi : i < O.length), w.cell? ⟨g, i, none⟩ = some (.string (bs O[i])) := fun i hi => by
      have := hce i (by rw [strsV_len]; exact hi)
      simpa [strsV] using this
    have HC := Lib.hid hce2; have HL := Lib.hid hL; have HY := Lib.hid hy
    clear h hce hce2 hL hy hfr hn hcp
    go_enter Tryz.func44, Tryz.ntmps44
    go_wp2_with fail
    go_loopw [9] (fun iv wr => ∃ k : Nat, iv = .int .i64 (k : Int) ∧ k ≤ L ∧ Hid (Below w.heap.size w wr)) (fun iv _ => L - (intOf iv).toNat)
    case atStart => exact ⟨0, rfl, Nat.zero_le _, below_refl _⟩
    case round =>
      obtain ⟨k, rfl, hk, HW⟩ := hrel
      by_cases hlt : k < L
      · have hkO : k < O.length := by rw [← HL.out]; exact hlt
        have h1 : wr.cell? ⟨g, k, none⟩ = some (.string (bs O[k])) := (HW.out.cell (p := ⟨g, k, none⟩) hg).trans (HC.out k hkO)
        have hne : O[k] ≠ y := fun e => HY.out (by rw [← e]; exact List.getElem_mem hkO)
        have hq := bs_ne (a := O[k]) (b := y)
        rw [decide_eq_false hne] at hq
        obtain ⟨z, hz⟩ : ∃ z, z = O[k] := ⟨_, rfl⟩
        rw [← hz] at hq h1
        clear hne hkO hz
        go_wp2_with fail
        go_roundw
        case rel => exact ⟨k + 1, by go_num, by omega, HW.out⟩
        case measure => simp [intOf] <;> omega
      · obtain rfl : k = L := by omega
        go_wp2_with fail
        go_ret
        exact ⟨rfl, HW.out⟩
end Go.Proofs.YtkjmocdhhndlgaaGreatDoor
