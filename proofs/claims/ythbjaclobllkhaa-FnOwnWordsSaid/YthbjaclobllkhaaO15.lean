/- What is drawn for the law FnOwnWords. -/
import Derived.Test.Ythbjaclobllkhaau5
import Derived.Test.Ythbjaclobllkhaau3
import Derived.Test.YthbjaclobllkhaaO14
import Derived.Test.YthbjaclobllkhaaO5
namespace Go.Proofs.Ythbjaclobllkhaa
open Go.RowKit Go.BigFrame Go.Deep
set_option linter.unusedSimpArgs false
set_option linter.unusedVariables false
set_option maxRecDepth 4000

theorem results_tmp4 {fn : Func} {t u v x : Tmp} (h : fn.results = #[.tmp t, .tmp u, .tmp v, .tmp x]) (tmps : Array Value) (P : Program) (w : World) :
    (results fn tmps).run P w = .ok (.tuple #[tmps.getD t undef, tmps.getD u undef, tmps.getD v undef, tmps.getD x undef]) w := by
  simp [results, h]

set_option maxHeartbeats 1000000 in
theorem two_c (w0 w : World) (g K : Nat) (cv : Value) (ns : List Int) (ha : ArgY w0 cv ns) (hc : Cur w0 w g cv K) (hK : K ≤ 50000) :
    Calls Try.prog 25 #[.pointer (some ⟨g, 0, none⟩)] w fun e w' => ∃ x y : Int, e = .returned (.tuple #[.int .i64 x, .int .i64 y]) ∧ -1 ≤ x ∧ x ≤ 10 ∧ -1 ≤ y ∧ y ≤ 10 ∧ Cur w0 w' g cv (K + 6) := by
  have HO := Lib.hid (one_c w0 w g K 14 cv ns ha hc (by omega) (by omega) (by omega))
  have HA := Lib.hid ha
  clear hc ha
  go_enter Try.func25, Try.ntmps25
  go_wp2_with fail
  refine HO.out.mono ?_
  rintro e w1 ⟨b, rfl, hcu, hg⟩
  have HC := Lib.hid hcu
  clear hcu hg HO
  cases b with
  | true =>
    have hlt := HC.out.lt
    go_wp2_with fail
    refine (among_c w0 _ g (K + 2) w1.heap.size 4 4 cv ns [0, 1, 9, 10] HA.out (HC.out.later (below_alloc _ _)) (by omega) rfl (by omega) (by omega) (by omega) (by omega) (by omega) (by simp) (lit_cellsW w1 _ _)).mono ?_
    rintro e w2 ⟨x, hx, rfl, hcu, hg⟩
    have HC2 := Lib.hid hcu
    have hx9 : -1 ≤ x ∧ x ≤ 10 := by simp only [List.mem_cons, List.not_mem_nil, or_false] at hx; omega
    clear hcu hg hx HC hlt
    have hlt := HC2.out.lt
    go_wp2_with fail
    refine (among_c w0 _ g (K + 4) w2.heap.size 4 4 cv ns [1, 9, 10, -1] HA.out (HC2.out.later (below_alloc _ _)) (by omega) rfl (by omega) (by omega) (by omega) (by omega) (by omega) (by simp) (lit_cellsW w2 _ _)).mono ?_
    rintro e w3 ⟨y, hy, rfl, hcu, hg⟩
    have HC3 := Lib.hid hcu
    have hy9 : -1 ≤ y ∧ y ≤ 10 := by simp only [List.mem_cons, List.not_mem_nil, or_false] at hy; omega
    clear hcu hg hy HC2 hlt
    go_wp2_with fail
    go_ret2
    exact ⟨x, y, rfl, hx9.1, hx9.2, hy9.1, hy9.2, HC3.out⟩
  | false =>
    go_wp2_with fail
    refine (pick_c w0 w1 g (K + 2) 4 cv ns HA.out HC.out (by omega) (by omega) (by omega)).mono ?_
    rintro e w2 ⟨x, rfl, hx, hcu, hg⟩
    have HC2 := Lib.hid hcu
    clear hcu hg HC
    obtain ⟨A, hA⟩ : ∃ A : Nat, A = 1 + x := ⟨_, rfl⟩
    have hAI : (1 : Int) + (x : Int) = (A : Int) := by omega
    have hA4 : A ≤ 4 := by omega
    clear hA
    go_wp2_with fail
    refine (pick_c w0 w2 g (K + 4) 3 cv ns HA.out HC2.out (by omega) (by omega) (by omega)).mono ?_
    rintro e w3 ⟨y, rfl, hy, hcu, hg⟩
    have HC3 := Lib.hid hcu
    clear hcu hg HC2
    obtain ⟨B, hB⟩ : ∃ B : Nat, B = A + y := ⟨_, rfl⟩
    have hBI : (A : Int) + (y : Int) = (B : Int) := by omega
    obtain ⟨Q, hQ⟩ : ∃ Q : Nat, Q = B % 4 := ⟨_, rfl⟩
    have hQt : (B : Int).tmod 4 = (Q : Int) := by rw [Int.tmod_eq_emod_of_nonneg (by omega)]; omega
    have hQ4 : Q ≤ 3 := by omega
    have hB9 : B ≤ 6 := by omega
    clear hB hQ
    go_wp2_with fail
    go_ret2
    exact ⟨(A : Int), (1 : Int) + (Q : Int), rfl, by omega, by omega, by omega, by omega, HC3.out⟩

/-- Three numbers, and their kin, are drawn. -/
def Num3D (w : World) (e : Ending) (w' : World) : Prop := ∃ x y z : Int, e = .returned (.tuple #[.int .i64 x, .int .i64 y, .int .i64 z]) ∧ (-1 ≤ x ∧ x ≤ 10) ∧ (-1 ≤ y ∧ y ≤ 10) ∧ (-1 ≤ z ∧ z ≤ 200000) ∧ Below w.heap.size w w'
def Num4D (w : World) (e : Ending) (w' : World) : Prop := ∃ x y z k : Int, e = .returned (.tuple #[.int .i64 x, .int .i64 y, .int .i64 z, .int .i64 k]) ∧ (-1 ≤ x ∧ x ≤ 10) ∧ (-1 ≤ y ∧ y ≤ 10) ∧ (-1 ≤ z ∧ z ≤ 10) ∧ (1 ≤ k ∧ k ≤ 200) ∧ Below w.heap.size w w'
def TxtNum2D (w : World) (e : Ending) (w' : World) : Prop := ∃ (t : ByteArray) (x y : Int), e = .returned (.tuple #[.string t, .int .i64 x, .int .i64 y]) ∧ t.size ≤ 402 ∧ (-1 ≤ x ∧ x ≤ 10) ∧ (-1 ≤ y ∧ y ≤ 10) ∧ Below w.heap.size w w'
def TxtD (w : World) (e : Ending) (w' : World) : Prop := ∃ t : ByteArray, e = .returned (.string t) ∧ t.size ≤ 402 ∧ Below w.heap.size w w'

set_option maxHeartbeats 1000000 in
theorem drawOwnWord_c (w : World) (cv : Value) (ns : List Int) (ha : ArgY w cv ns) :
    Calls Try.prog 5 #[cv] w fun e w' => Num3D w e w' := by
  have HP := Lib.hid (two_c w _ w.heap.size 0 cv ns ha (cur_new w cv) (by omega))
  have HA := Lib.hid ha
  obtain ⟨A, C, rfl, _⟩ := ha
  go_enter Try.func5, Try.ntmps5
  go_wp2_with fail
  refine HP.out.mono ?_
  rintro e w1 ⟨x, y, rfl, hx1, hx2, hy1, hy2, hcu⟩
  have HC := Lib.hid hcu
  clear hcu HP
  have hlt := HC.out.lt
  go_wp2_with fail
  refine (among_c w _ w.heap.size 6 w1.heap.size 9 9 _ ns [1, 2, 3, 5, 10, 30, 400, 401, 0] HA.out (HC.out.later (below_alloc _ _)) (by omega) rfl (by omega) (by omega) (by omega) (by omega) (by omega) (by simp) (lit_cellsW w1 _ _)).mono ?_
  rintro e w2 ⟨z, hz, rfl, hcu, hg⟩
  have HC2 := Lib.hid hcu.below
  have hz9 : -1 ≤ z ∧ z ≤ 200000 := by simp only [List.mem_cons, List.not_mem_nil, or_false] at hz; omega
  clear hcu hg hz hlt
  go_wp2_with fail
  go_ret3
  exact ⟨x, y, z, rfl, ⟨hx1, hx2⟩, ⟨hy1, hy2⟩, hz9, HC2.out⟩

set_option maxHeartbeats 1000000 in
theorem drawOwnDigit_c (w : World) (cv : Value) (ns : List Int) (ha : ArgY w cv ns) :
    Calls Try.prog 10 #[cv] w fun e w' => Num3D w e w' := by
  have HP := Lib.hid (two_c w _ w.heap.size 0 cv ns ha (cur_new w cv) (by omega))
  have HA := Lib.hid ha
  obtain ⟨A, C, rfl, _⟩ := ha
  go_enter Try.func10, Try.ntmps10
  go_wp2_with fail
  refine HP.out.mono ?_
  rintro e w1 ⟨x, y, rfl, hx1, hx2, hy1, hy2, hcu⟩
  have HC := Lib.hid hcu
  clear hcu HP
  go_wp2_with fail
  refine (one_c w w1 w.heap.size 6 8 _ ns HA.out HC.out (by omega) (by omega) (by omega)).mono ?_
  rintro e w2 ⟨b, rfl, hcu, hg⟩
  have HC2 := Lib.hid hcu
  clear hcu hg HC
  cases b with
  | true =>
    have hlt := HC2.out.lt
    go_wp2_with fail
    refine (among_c w _ w.heap.size 8 w2.heap.size 5 5 _ ns [0, 1, 100000, 100001, -1] HA.out (HC2.out.later (below_alloc _ _)) (by omega) rfl (by omega) (by omega) (by omega) (by omega) (by omega) (by simp) (lit_cellsW w2 _ _)).mono ?_
    rintro e w3 ⟨z, hz, rfl, hcu, hg⟩
    have HC3 := Lib.hid hcu.below
    have hz9 : -1 ≤ z ∧ z ≤ 200000 := by simp only [List.mem_cons, List.not_mem_nil, or_false] at hz; omega
    clear hcu hg hz hlt
    go_wp2_with fail
    go_ret3
    exact ⟨x, y, z, rfl, ⟨hx1, hx2⟩, ⟨hy1, hy2⟩, hz9, HC3.out⟩
  | false =>
    go_wp2_with fail
    refine (pick_c w w2 w.heap.size 8 200 _ ns HA.out HC2.out (by omega) (by omega) (by omega)).mono ?_
    rintro e w3 ⟨z, rfl, hz, hcu, hg⟩
    have HC3 := Lib.hid hcu.below
    clear hcu hg
    go_wp2_with fail
    go_ret3
    exact ⟨x, y, (1 : Int) + (z : Int), rfl, ⟨hx1, hx2⟩, ⟨hy1, hy2⟩, ⟨by omega, by omega⟩, HC3.out⟩

set_option maxHeartbeats 1000000 in
theorem drawOwnCount_c (w : World) (cv : Value) (ns : List Int) (ha : ArgY w cv ns) :
    Calls Try.prog 16 #[cv] w fun e w' => Num4D w e w' := by
  have HP := Lib.hid (two_c w _ w.heap.size 0 cv ns ha (cur_new w cv) (by omega))
  have HA := Lib.hid ha
  obtain ⟨A, C, rfl, _⟩ := ha
  go_enter Try.func16, Try.ntmps16
  go_wp2_with fail
  refine HP.out.mono ?_
  rintro e w1 ⟨x, y, rfl, hx1, hx2, hy1, hy2, hcu⟩
  have HC := Lib.hid hcu
  clear hcu HP
  have hlt := HC.out.lt
  go_wp2_with fail
  refine (among_c w _ w.heap.size 6 w1.heap.size 7 7 _ ns [x, y, 1, 2, 0, 9, 10] HA.out (HC.out.later (below_alloc _ _)) (by omega) rfl (by omega) (by omega) (by omega) (by omega) (by omega) (by simp) (lit_cellsW w1 _ _)).mono ?_
  rintro e w2 ⟨z, hz, rfl, hcu, hg⟩
  have HC2 := Lib.hid hcu
  have hz9 : -1 ≤ z ∧ z ≤ 10 := by simp only [List.mem_cons, List.not_mem_nil, or_false] at hz; omega
  clear hcu hg hz hlt HC
  go_wp2_with fail
  refine (pick_c w w2 w.heap.size 8 200 _ ns HA.out HC2.out (by omega) (by omega) (by omega)).mono ?_
  rintro e w3 ⟨k, rfl, hk, hcu, hg⟩
  have HC3 := Lib.hid hcu.below
  clear hcu hg
  go_wp2_with fail
  (try simp only [Exit.inBlock, Exit.then])
  refine bodyPost_ret (results_tmp4 rfl _ _ _) rfl ?_
  exact ⟨x, y, z, (1 : Int) + (k : Int), rfl, ⟨hx1, hx2⟩, ⟨hy1, hy2⟩, hz9, ⟨by omega, by omega⟩, HC3.out⟩

set_option maxHeartbeats 1000000 in
theorem drawWordOfLengths_c (w : World) (cv : Value) (ns : List Int) (ha : ArgY w cv ns) :
    Calls Try.prog 20 #[cv] w fun e w' => TxtNum2D w e w' := by
  have HP := Lib.hid (two_c w _ w.heap.size 0 cv ns ha (cur_new w cv) (by omega))
  have HA := Lib.hid ha
  obtain ⟨A, C, rfl, _⟩ := ha
  go_enter Try.func20, Try.ntmps20
  go_wp2_with fail
  refine HP.out.mono ?_
  rintro e w1 ⟨x, y, rfl, hx1, hx2, hy1, hy2, hcu⟩
  have HC := Lib.hid hcu
  clear hcu HP
  have HW := Lib.hid (wordOf_c w w1 w.heap.size 6 9 _ ns HA.out HC.out (by omega) (by omega) (by omega))
  go_wp2_with fail
  refine HW.out.mono ?_
  rintro e w2 ⟨t, rfl, ht, hcu⟩
  have HC2 := Lib.hid hcu.below
  clear hcu HW HC
  go_wp2_with fail
  go_ret3
  exact ⟨t, x, y, rfl, ht, ⟨hx1, hx2⟩, ⟨hy1, hy2⟩, HC2.out⟩

set_option maxHeartbeats 1000000 in
theorem drawLengthsOf_c (w : World) (cv : Value) (ns : List Int) (ha : ArgY w cv ns) :
    Calls Try.prog 23 #[cv] w fun e w' => TxtD w e w' := by
  have HW := Lib.hid (wordOf_c w _ w.heap.size 0 14 cv ns ha (cur_new w cv) (by omega) (by omega) (by omega))
  obtain ⟨A, C, rfl, _⟩ := ha
  go_enter Try.func23, Try.ntmps23
  go_wp2_with fail
  refine HW.out.mono ?_
  rintro e w2 ⟨t, rfl, ht, hcu⟩
  have HC2 := Lib.hid hcu.below
  clear hcu HW
  go_wp2_with fail
  go_ret
  exact ⟨t, rfl, ht, HC2.out⟩

theorem own_size (a b n : Int) : (bs ((ownO' a b n 400).getD [])).size ≤ 400 := by
  rw [bs_size]
  cases h : askB a b n 400 with
  | true =>
    have := (askB_iff.1 h).2
    rw [ownO_val h, sgL_len, ownW_len h]; omega
  | false =>
    unfold ownO'; rw [h]; simp

set_option maxHeartbeats 1000000 in
theorem drawIsOwnBeginning_c (w : World) (cv : Value) (ns : List Int) (ha : ArgY w cv ns) :
    Calls Try.prog 18 #[cv] w fun e w' => TxtNum2D w e w' := by
  have HP := Lib.hid (two_c w _ w.heap.size 0 cv ns ha (cur_new w cv) (by omega))
  have HA := Lib.hid ha
  obtain ⟨A, C, rfl, _⟩ := ha
  go_enter Try.func18, Try.ntmps18
  go_wp2_with fail
  refine HP.out.mono ?_
  rintro e w1 ⟨x, y, rfl, hx1, hx2, hy1, hy2, hcu⟩
  have HC := Lib.hid hcu
  clear hcu HP
  go_wp2_with fail
  refine (ruTwo_is x y w1).mono ?_
  rintro e w2 ⟨rfl, rfl⟩
  obtain ⟨tb, htb⟩ : ∃ tb, tb = twoB x y := ⟨_, rfl⟩
  rw [← htb]
  clear htb
  cases tb with
  | false =>
    have HW := Lib.hid (wordOf_c w w1 w.heap.size 6 9 _ ns HA.out HC.out (by omega) (by omega) (by omega))
    go_wp2_with fail
    refine HW.out.mono ?_
    rintro e w2 ⟨t, rfl, ht, hcu⟩
    have HC2 := Lib.hid hcu.below
    clear hcu HW HC
    go_wp2_with fail
    go_ret3
    exact ⟨t, x, y, rfl, ht, ⟨hx1, hx2⟩, ⟨hy1, hy2⟩, HC2.out⟩
  | true =>
    go_wp2_with fail
    refine (one_c w w1 w.heap.size 6 3 _ ns HA.out HC.out (by omega) (by omega) (by omega)).mono ?_
    rintro e w2 ⟨b, rfl, hcu, hg⟩
    have HC2 := Lib.hid hcu
    clear hcu hg HC
    cases b with
    | true =>
      have HW := Lib.hid (wordOf_c w w2 w.heap.size 8 9 _ ns HA.out HC2.out (by omega) (by omega) (by omega))
      go_wp2_with fail
      refine HW.out.mono ?_
      rintro e w3 ⟨t, rfl, ht, hcu⟩
      have HC3 := Lib.hid hcu.below
      clear hcu HW HC2
      go_wp2_with fail
      go_ret3
      exact ⟨t, x, y, rfl, ht, ⟨hx1, hx2⟩, ⟨hy1, hy2⟩, HC3.out⟩
    | false =>
      go_wp2_with fail
      refine (pick_c w w2 w.heap.size 8 30 _ ns HA.out HC2.out (by omega) (by omega) (by omega)).mono ?_
      rintro e w3 ⟨k, rfl, hk, hcu, hg⟩
      have HC3 := Lib.hid hcu
      clear hcu hg HC2
      have how := fun W => specOwnWord_any x y ((1 : Int) + (k : Int)) W
      simp only [strOk_eq] at how
      have hts := own_size x y ((1 : Int) + (k : Int))
      generalize bs ((ownO' x y ((1 : Int) + (k : Int)) 400).getD []) = t at how hts
      generalize (ownO' x y ((1 : Int) + (k : Int)) 400).isSome = ok at how
      have HOW := Lib.hid how
      clear how
      go_wp2_with fail
      refine (HOW.out _).mono ?_
      rintro e w4 ⟨rfl, hb⟩
      have HC4 := Lib.hid (HC3.out.later hb)
      clear hb HC3 HOW
      go_wp2_with fail
      refine (one_c w w4 w.heap.size 10 3 _ ns HA.out HC4.out (by omega) (by omega) (by omega)).mono ?_
      rintro e w5 ⟨b, rfl, hcu, hg⟩
      have HC5 := Lib.hid hcu
      clear hcu hg HC4
      cases b with
      | true =>
        go_wp2_with fail
        refine (spoilt_c w w5 w.heap.size 12 400 4 _ ns t _ HA.out HC5.out (by omega) hts (by omega) (by rfl) (by omega) (by omega)).mono ?_
        rintro e w6 ⟨s, rfl, hs, hcu⟩
        have HC6 := Lib.hid hcu.below
        clear hcu HC5
        go_wp2_with fail
        go_ret3
        exact ⟨s, x, y, rfl, by omega, ⟨hx1, hx2⟩, ⟨hy1, hy2⟩, HC6.out⟩
      | false =>
        have HC6 := Lib.hid HC5.out.below
        go_wp2_with fail
        go_ret3
        exact ⟨t, x, y, rfl, by omega, ⟨hx1, hx2⟩, ⟨hy1, hy2⟩, HC6.out⟩
end Go.Proofs.Ythbjaclobllkhaa
