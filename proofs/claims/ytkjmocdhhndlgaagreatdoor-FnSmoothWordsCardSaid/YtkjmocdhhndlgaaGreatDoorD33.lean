/- What is drawn for the law FnSmoothWords: low words and their kin. -/
import Derived.Test.YtkjmocdhhndlgaaGreatDooru5
import Derived.Test.YtkjmocdhhndlgaaGreatDooru3
import Derived.Test.YtkjmocdhhndlgaaGreatDoorD29
namespace Go.Proofs.YtkjmocdhhndlgaaGreatDoor
open Go.RowKit Go.BigFrame Go.Deep
set_option linter.unusedSimpArgs false
set_option linter.unusedVariables false
set_option maxRecDepth 4000

theorem lit_textsD (w : World) (xs : List ByteArray) (T : TypeId) : ∀ i (h : i < xs.length), (w.alloc (.cells (xs.map Value.string).toArray T)).cell? ⟨w.heap.size, i, none⟩ = some (.string xs[i]) := by
  intro i h
  have hcl := heap_alloc_new w (.cells (xs.map Value.string).toArray T)
  simp only [World.cell?, hcl]
  simp [h]

set_option maxHeartbeats 1000000 in
theorem of_cD (w0 w : World) (g K b L c : Nat) (cv : Value) (ns : List Int) (xs : List ByteArray) (ha : ArgY w0 cv ns) (hc : Cur w0 w g cv K) (hK : K ≤ 100000000) (hL : xs.length = L) (h1 : 1 ≤ L) (h9 : L ≤ 100000) (hLc : L ≤ c) (hc9 : c ≤ 9223372036854775807)
    (hbg : b ≠ g) (hb : b < w.heap.size) (hx : ∀ i (h : i < xs.length), w.cell? ⟨b, i, none⟩ = some (.string xs[i])) :
    Calls Tryz.prog 82 #[.pointer (some ⟨g, 0, none⟩), .slice (some ⟨b, 0, none⟩) L c] w fun e w' => ∃ x ∈ xs, e = .returned (.string x) ∧ Cur w0 w' g cv (K + 2) ∧ w.grownBy w' (some g) := by
  have HP := Lib.hid (pick_c w0 w g K L cv ns ha hc hK h1 (by omega))
  have HX := Lib.hid hx; have HL := Lib.hid hL
  clear ha hc hx hL
  go_enter Tryz.func82, Tryz.ntmps82
  go_wp2_with fail
  refine HP.out.mono ?_
  rintro e w1 ⟨x, rfl, hx, hcu, hg⟩
  have hxl : x < xs.length := by rw [HL.out]; exact hx
  have hcell : w1.cell? ⟨b, x, none⟩ = some (.string xs[x]) := hg.cell (HX.out x hxl) (fun e => hbg (by injection e))
  have hmem := List.getElem_mem hxl
  have HM := Lib.hid hmem
  generalize xs[x] = y at hcell HM
  have HG := Lib.hid hg; have HC := Lib.hid hcu
  clear hcu hg hmem hxl
  go_wp2_with fail
  go_ret
  exact ⟨y, HM.out, rfl, HC.out, HG.out⟩

theorem num_two : ∀ d : Nat, d = 1 ∨ d = 2 → numL d = [sgn d] := by
  rintro d (rfl | rfl) <;> decide +kernel

set_option maxHeartbeats 2000000 in
theorem low_c (w0 w : World) (g K : Nat) (cv : Value) (ns : List Int) (ha : ArgY w0 cv ns) (hc : Cur w0 w g cv K) (hK : K ≤ 50000) :
    Calls Tryz.prog 52 #[.pointer (some ⟨g, 0, none⟩)] w fun e w' => TextC w0 g cv (K + 100) e w' := by
  have HO := Lib.hid (one_c w0 w g K 2 cv ns ha hc (by omega) (by omega) (by omega))
  have HA := Lib.hid ha
  clear hc ha
  go_enter Tryz.func52, Tryz.ntmps52
  go_wp2_with fail
  refine HO.out.mono ?_
  rintro e w1 ⟨b, rfl, hcu, hg⟩
  have HC := Lib.hid hcu
  clear hcu hg HO
  cases b with
  | true =>
    go_wp2_with fail
    refine (pick_c w0 w1 g (K + 2) 16 cv ns HA.out HC.out (by omega) (by omega) (by omega)).mono ?_
    rintro e w2 ⟨x, rfl, hx, hcu, hg⟩
    have HC2 := Lib.hid hcu
    clear hcu hg HC
    go_wp2_with fail
    go_loopw [3, 4] (fun o k wr => ∃ (r : Nat) (l : List UInt8), l.length + r = x ∧ k = .int .i64 (r : Int) ∧ o = .string (bs l) ∧ Hid (l.all onB = true) ∧ Hid (Cur w0 wr g cv (K + 4 + 2 * l.length))) (fun _ k _ => (intOf k).toNat)
    case atStart => exact ⟨x, [], by simp, rfl, rfl, Lib.hid rfl, Lib.hid HC2.out⟩
    case round =>
      obtain ⟨r, l, hlr, rfl, rfl, HON, HW⟩ := hrel
      obtain ⟨wr0, hwr0⟩ : ∃ x, x = wr := ⟨_, rfl⟩
      subst hwr0
      cases r with
      | zero =>
        go_wp2_with fail
        go_ret
        exact ⟨bs l, rfl, by rw [bs_size]; omega, HW.out.mono (by omega)⟩
      | succ r =>
        have hsz : (bs l).size = l.length := bs_size l
        have hl15 : l.length ≤ 14 := by omega
        have hr15 : r ≤ 15 := by omega
        obtain ⟨O, hO⟩ : ∃ O, O = bs l := ⟨_, rfl⟩
        obtain ⟨J, hJ⟩ : ∃ J, J = l.length := ⟨_, rfl⟩
        rw [← hO, ← hJ] at hsz
        rw [← hJ] at HW hl15
        have HOO := Lib.hid hO; have HJ := Lib.hid hJ; have HLR := Lib.hid hlr
        rw [← hO]
        clear hlr hO hJ
        have hlt := HW.out.lt
        have hcl := lit_textsD wr0 [⟨#[49]⟩, ⟨#[50]⟩] 9
        have HCL := Lib.hid hcl
        clear hcl
        go_wp2_with fail
        refine (of_cD w0 _ g (K + 4 + 2 * J) wr0.heap.size 2 2 cv ns [⟨#[49]⟩, ⟨#[50]⟩] HA.out (HW.out.later (below_alloc _ _)) (by omega) rfl (by omega) (by omega) (by omega) (by omega) (by omega) (by simp) HCL.out).mono ?_
        rintro e w3 ⟨y, hy, rfl, hcu, hg⟩
        have hyc : ∃ d : Nat, (d = 1 ∨ d = 2) ∧ y = bs [sgn d] := by
          simp only [List.mem_cons, List.not_mem_nil, or_false] at hy
          rcases hy with rfl | rfl
          · exact ⟨1, .inl rfl, rfl⟩
          · exact ⟨2, .inr rfl, rfl⟩
        obtain ⟨d, hd, rfl⟩ := hyc
        have HC3 := Lib.hid hcu
        have hs1 : (bs [sgn d]).size = 1 := by rw [bs_size]; rfl
        obtain ⟨T, hT⟩ : ∃ T, O ++ bs [sgn d] = T := ⟨_, rfl⟩
        have hTs : T.size = J + 1 := by rw [← hT, ByteArray.size_append, hsz, hs1]
        have hTl : T = bs (l ++ [sgn d]) := by rw [← hT, HOO.out, bs_append]
        have hon : (l ++ [sgn d]).all onB = true := by
          rw [List.all_append, HON.out]
          rcases hd with rfl | rfl <;> rfl
        have hlow : lowB (l ++ [sgn d]) = true := by
          unfold lowB; rw [hon, decide_eq_true (by rw [List.length_append, ← HJ.out]; simp; omega : (l ++ [sgn d]).length ≤ 60)]; rfl
        have hrd := fun W => ruDepth_any (l ++ [sgn d]) W hlow
        rw [← hTl, depV_eq] at hrd
        obtain ⟨zb, hzb⟩ : ∃ zb, zb = (depO (l ++ [sgn d])).isSome := ⟨_, rfl⟩
        obtain ⟨dn, hdn⟩ : ∃ dn : Nat, dn = (depO (l ++ [sgn d])).getD 0 := ⟨_, rfl⟩
        rw [← hzb, ← hdn] at hrd
        have HRD := Lib.hid hrd; have HTL := Lib.hid hTl; have HON2 := Lib.hid hon
        have hTJ : J < T.size := by omega
        have hTe : (T[J].toNat : Int) - 48 = (d : Int) := by
          have : T[J] = sgn d := by
            have e1 : T.data.toList = l ++ [sgn d] := by rw [hTl, bs_list]
            have e2 : T.data.toList[J]'(by rw [e1, List.length_append, ← HJ.out]; simp) = sgn d := by
              simp only [e1]
              rw [List.getElem_append_right (by rw [← HJ.out]; exact Nat.le_refl _)]
              simp
            rw [← e2]; simp; rfl
          rw [this]
          rcases hd with rfl | rfl <;> rfl
        have hT48 : 48 ≤ T[J].toNat := by omega
        have hdm : ((d : Int) % 256) = (d : Int) := by omega
        have hTm : ((T.size : Nat) : Int) - 1 = (J : Int) := by omega
        obtain ⟨d2, hd2⟩ : ∃ d2 : Nat, d2 = 3 - d := ⟨_, rfl⟩
        have hd23 : (3 : Int) - (d : Int) = (d2 : Int) := by omega
        have hd22 : d2 = 1 ∨ d2 = 2 := by omega
        have hnm := fun W => l1Num_any 9 (d2 : Int) W (by omega) (by omega) (by omega)
        rw [Int.toNat_natCast, num_two d2 hd22] at hnm
        have HNM := Lib.hid hnm
        have hs2 : (bs [sgn d2]).size = 1 := by rw [bs_size]; rfl
        have HD22 := Lib.hid hd22
        have hsO : O.size ≤ 14 := by omega
        clear hy hcu hg hTl hon hlow hrd hzb hdn hnm hd2 hd22
        have HTS := Lib.hid hTs; have HSZ := Lib.hid hsz
        go_wp2_with fail
        refine (HRD.out _).mono ?_
        rintro e w4 ⟨rfl, hb⟩
        have HC4 := Lib.hid (HC3.out.later hb)
        clear hb HRD
        cases zb with
        | true =>
          go_wp2_with fail
          go_roundw
          case rel => exact ⟨r, l ++ [sgn d], by have := HLR.out; simp; omega, by go_num, by rw [HTL.out], HON2, Lib.hid (HC4.out.mono (by have := HJ.out; simp; omega))⟩
          case measure => simp [intOf] <;> omega
        | false =>
          go_wp2_with fail
          refine (HNM.out _).mono ?_
          rintro e w5 ⟨rfl, hb⟩
          have HC5 := Lib.hid (HC4.out.later hb)
          clear hb
          go_wp2_with fail
          go_roundw
          case rel =>
            exact ⟨r, l ++ [sgn d2], by have := HLR.out; simp; omega, by go_num, by rw [HOO.out, bs_append], Lib.hid (by
              rw [List.all_append, HON.out]
              rcases HD22.out with e | e <;> rw [e] <;> rfl), Lib.hid (HC5.out.mono (by have := HJ.out; simp; omega))⟩
          case measure => simp [intOf] <;> omega
  | false =>
    go_wp2_with fail
    refine (pick_c w0 w1 g (K + 2) 6 cv ns HA.out HC.out (by omega) (by omega) (by omega)).mono ?_
    rintro e w2 ⟨x, rfl, hx, hcu, hg⟩
    have HC2 := Lib.hid hcu
    clear hcu hg HC
    by_cases x0 : x = 0
    · subst x0
      have HP := Lib.hid (wordOf_c w0 w2 g (K + 4) 8 cv ns HA.out HC2.out (by omega) (by omega) (by omega))
      go_wp2_with fail
      refine HP.out.mono ?_
      rintro e w3 ⟨t, rfl, ht, hcu⟩
      have HC3 := Lib.hid hcu
      clear hcu HP
      go_wp2_with fail
      go_ret
      exact ⟨t, rfl, ht, HC3.out.mono (by omega)⟩
    · by_cases x1 : x = 1
      · subst x1
        go_wp2_with fail
        refine (pick_c w0 w2 g (K + 4) 2 cv ns HA.out HC2.out (by omega) (by omega) (by omega)).mono ?_
        rintro e w3 ⟨y, rfl, hy, hcu, hg⟩
        have HC3 := Lib.hid hcu
        clear hcu hg HC2
        obtain ⟨y1, hy1⟩ : ∃ y1 : Nat, y1 = 1 + y := ⟨_, rfl⟩
        have hyI : (1 : Int) + (y : Int) = (y1 : Int) := by omega
        have hy9 : 1 ≤ y1 ∧ y1 ≤ 2 := by omega
        clear hy1
        have hlt := HC3.out.lt
        go_wp2_with fail
        refine (among_c w0 _ g (K + 6) w3.heap.size 5 5 cv ns [1, 2, 3, 60, 61] HA.out (HC3.out.later (below_alloc _ _)) (by omega) rfl (by omega) (by omega) (by omega) (by omega) (by omega) (by simp) (lit_cellsW w3 _ _)).mono ?_
        rintro e w4 ⟨z, hz, rfl, hcu, hg⟩
        have hzn : ∃ q : Nat, z = (q : Int) ∧ q ≤ 61 := by
          simp only [List.mem_cons, List.not_mem_nil, or_false] at hz
          exact ⟨z.toNat, by omega, by omega⟩
        obtain ⟨q, rfl, hq⟩ := hzn
        have HC4 := Lib.hid hcu
        clear hcu hg hz
        have HTM := Lib.hid (woTimes_z (y1 : Int) q w4 (by omega) (by omega) (by omega))
        go_wp2_with fail
        refine HTM.out.mono ?_
        rintro e w5 ⟨rfl, hb⟩
        have HC5 := Lib.hid (HC4.out.later hb)
        clear hb HTM
        go_wp2_with fail
        go_ret
        exact ⟨_, rfl, by rw [bs_size, List.length_replicate]; omega, HC5.out.mono (by omega)⟩
      · have e0 : ((x : Int) == 0) = false := beq_eq_false_iff_ne.2 (by omega)
        have e1 : ((x : Int) == 1) = false := beq_eq_false_iff_ne.2 (by omega)
        have HP := Lib.hid (sureWord_c w0 w2 g (K + 4) 9 2 cv ns HA.out HC2.out (by omega) (by omega) (by omega) (by omega) (by omega))
        go_wp2_with fail
        refine HP.out.mono ?_
        rintro e w3 ⟨l, rfl, h1, h2, h3, hcu⟩
        have HC3 := Lib.hid hcu
        clear hcu HP
        go_wp2_with fail
        go_ret
        exact ⟨bs l, rfl, by rw [bs_size]; omega, HC3.out.mono (by omega)⟩

/-- A text is drawn. -/
def TextDD (w : World) (e : Ending) (w' : World) : Prop := ∃ t : ByteArray, e = .returned (.string t) ∧ t.size ≤ 402 ∧ Below w.heap.size w w'
def NumDD (w : World) (e : Ending) (w' : World) : Prop := ∃ x : Int, e = .returned (.int .i64 x) ∧ (Lit.int .i64 x).wf = true ∧ Below w.heap.size w w'
def TextNN (w : World) (e : Ending) (w' : World) : Prop := ∃ (t : ByteArray) (x : Int), e = .returned (.tuple #[.string t, .int .i64 x]) ∧ t.size ≤ 402 ∧ (Lit.int .i64 x).wf = true ∧ Below w.heap.size w w'

set_option maxHeartbeats 1000000 in
theorem drawExchangeWord_c (w : World) (cv : Value) (ns : List Int) (ha : ArgY w cv ns) :
    Calls Tryz.prog 28 #[cv] w fun e w' => TextDD w e w' := by
  have HP := Lib.hid (low_c w _ w.heap.size 0 cv ns ha (cur_new w cv) (by omega))
  obtain ⟨A, C, rfl, _⟩ := ha
  go_enter Tryz.func28, Tryz.ntmps28
  go_wp2_with fail
  refine HP.out.mono ?_
  rintro e w1 ⟨t, rfl, ht, hcu⟩
  have HC := Lib.hid hcu.below
  clear hcu
  go_wp2_with fail
  go_ret
  exact ⟨t, rfl, ht, HC.out⟩

set_option maxHeartbeats 1000000 in
theorem drawDepthOf_c (w : World) (cv : Value) (ns : List Int) (ha : ArgY w cv ns) :
    Calls Tryz.prog 6 #[cv] w fun e w' => TextDD w e w' := by
  have HP := Lib.hid (drawExchangeWord_c w cv ns ha)
  obtain ⟨A, C, rfl, _⟩ := ha
  go_enter Tryz.func6, Tryz.ntmps6
  go_wp2_with fail
  refine HP.out.mono ?_
  rintro e w1 ⟨t, rfl, ht, hb⟩
  have HC := Lib.hid hb
  clear hb
  go_wp2_with fail
  go_ret
  exact ⟨t, rfl, ht, HC.out⟩

set_option maxHeartbeats 1000000 in
theorem drawCountSmooth_c (w : World) (cv : Value) (ns : List Int) (ha : ArgY w cv ns) :
    Calls Tryz.prog 48 #[cv] w fun e w' => NumDD w e w' := by
  have HA := Lib.hid ha
  have hcn := cur_new w cv
  obtain ⟨A, C, rfl, _⟩ := ha
  have HC1 := Lib.hid hcn
  clear hcn
  go_enter Tryz.func48, Tryz.ntmps48
  go_wp2_with fail
  have hlt := HC1.out.lt
  have hcl := lit_cellsW (w.alloc (.cells #[.slice A ns.length C, .int .i64 0, .int .u64 0] 57)) [0, 1, 2, 3, 4, 5, 6, 8, 10, 14, 15, -1] 3
  rw [World.size_alloc] at hcl
  refine (among_c w _ w.heap.size 0 (w.heap.size + 1) 12 12 _ ns [0, 1, 2, 3, 4, 5, 6, 8, 10, 14, 15, -1] HA.out (HC1.out.later (below_alloc _ _)) (by omega) rfl (by omega) (by omega) (by omega) (by omega) (by omega) (by simp) hcl).mono ?_
  clear hcl
  rintro e w2 ⟨x, hx, rfl, hcu, hg⟩
  have HC2 := Lib.hid hcu.below
  have HW2 : Hid ((Lit.int .i64 x).wf = true) := by
    simp only [List.mem_cons, List.not_mem_nil, or_false] at hx
    exact Lib.hid (WalkArith.wf_i64 (by omega))
  clear hcu hg hx hlt
  go_wp2_with fail
  go_ret
  exact ⟨x, rfl, HW2.out, HC2.out⟩

set_option maxHeartbeats 1000000 in
theorem drawAllSmooth_c (w : World) (cv : Value) (ns : List Int) (ha : ArgY w cv ns) :
    Calls Tryz.prog 19 #[cv] w fun e w' => NumDD w e w' := by
  have HP := Lib.hid (drawCountSmooth_c w cv ns ha)
  obtain ⟨A, C, rfl, _⟩ := ha
  go_enter Tryz.func19, Tryz.ntmps19
  go_wp2_with fail
  refine HP.out.mono ?_
  rintro e w1 ⟨x, rfl, hx, hb⟩
  have HC := Lib.hid hb; have HX := Lib.hid hx
  clear hb hx
  go_wp2_with fail
  go_ret
  exact ⟨x, rfl, HX.out, HC.out⟩

set_option maxHeartbeats 1000000 in
theorem drawSmoothInOwn_c (w : World) (cv : Value) (ns : List Int) (ha : ArgY w cv ns) :
    Calls Tryz.prog 24 #[cv] w fun e w' => TextNN w e w' := by
  have HO := Lib.hid (one_c w _ w.heap.size 0 8 cv ns ha (cur_new w cv) (by omega) (by omega) (by omega))
  have HA := Lib.hid ha
  obtain ⟨A, C, rfl, _⟩ := ha
  go_enter Tryz.func24, Tryz.ntmps24
  go_wp2_with fail
  refine HO.out.mono ?_
  rintro e w1 ⟨b, rfl, hcu, hg⟩
  have HC := Lib.hid hcu
  clear hcu hg HO
  cases b with
  | true =>
    have HP := Lib.hid (low_c w w1 w.heap.size 2 _ ns HA.out HC.out (by omega))
    go_wp2_with fail
    refine HP.out.mono ?_
    rintro e w2 ⟨t, rfl, ht, hcu⟩
    have HC2 := Lib.hid hcu
    clear hcu HP
    have hlt := HC2.out.lt
    go_wp2_with fail
    refine (among_c w _ w.heap.size 102 w2.heap.size 4 4 _ ns [-1, 0, 5000, 5001] HA.out (HC2.out.later (below_alloc _ _)) (by omega) rfl (by omega) (by omega) (by omega) (by omega) (by omega) (by simp) (lit_cellsW w2 _ _)).mono ?_
    rintro e w3 ⟨x, hx, rfl, hcu, hg⟩
    have HC3 := Lib.hid hcu.below
    have HW3 : Hid ((Lit.int .i64 x).wf = true) := by
      simp only [List.mem_cons, List.not_mem_nil, or_false] at hx
      exact Lib.hid (WalkArith.wf_i64 (by omega))
    clear hcu hg hx hlt
    go_wp2_with fail
    go_ret2
    exact ⟨t, x, rfl, ht, HW3.out, HC3.out⟩
  | false =>
    have HP := Lib.hid (sureWord_c w w1 w.heap.size 2 4 2 _ ns HA.out HC.out (by omega) (by omega) (by omega) (by omega) (by omega))
    go_wp2_with fail
    refine HP.out.mono ?_
    rintro e w2 ⟨l, rfl, h1, h2, h3, hcu⟩
    have HC2 := Lib.hid hcu
    clear hcu HP h3
    go_wp2_with fail
    refine (pick_c w w2 w.heap.size 20 200 _ ns HA.out HC2.out (by omega) (by omega) (by omega)).mono ?_
    rintro e w3 ⟨x, rfl, hx, hcu, hg⟩
    have HC3 := Lib.hid hcu.below
    clear hcu hg
    go_wp2_with fail
    go_ret2
    exact ⟨bs l, (x : Int), rfl, by rw [bs_size]; omega, WalkArith.wf_i64 (by omega), HC3.out⟩
end Go.Proofs.YtkjmocdhhndlgaaGreatDoor
