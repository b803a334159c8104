/- The program's FirstDigits. -/
import Derived.Test.YtjjkfffddfanaabK4
namespace Go.Proofs.Ytjjkfffddfanaab
open Go.RowKit Go.BigFrame Go.Shelf
set_option linter.unusedSimpArgs false
set_option linter.unusedVariables false
attribute [local go_sem] Oper.semAt_some

theorem info_int5 : (Try.prog.info? 3).map (fun i => (i.zero, i.size, i.bytes)) = some (some (.int .i64 0), 1, 8) := by kernel_rfl
/-- Digits as numbers. -/
def digsN (l : List UInt8) : List Int := l.map (fun c => (c.toNat : Int) - 48)
def digsV (l : List UInt8) : List Value := (digsN l).map (.int .i64)
theorem digsV_len (l : List UInt8) : (digsV l).length = l.length := by simp [digsV, digsN]
theorem digsV_snoc (l : List UInt8) (c : UInt8) : digsV (l ++ [c]) = digsV l ++ [.int .i64 ((c.toNat : Int) - 48)] := by simp [digsV, digsN]
/-- A row of numbers and a bool, or nil and false. -/
def IntsOk (b : Bool) (ns : List Int) (w w' : World) (e : Ending) : Prop :=
  ∃ v, e = .returned (.tuple #[v, .bool b]) ∧ Ints w' w.heap.size v (if b = true then ns else []) ∧ Below w.heap.size w w'
/-- What the loop keeps: the variable's box, the row that its value owns, and all that was there before. -/
def RowI (w : World) (c : Nat) (got : List UInt8) (W : World) : Prop :=
  (∃ v, Boxed W c 33 v ∧ W.ownsRow w.heap.size 3 1 v got.length (digsV got) ∧ True) ∧ Below w.heap.size w W ∧ got.length ≤ 10

set_option maxRecDepth 100000 in
set_option maxHeartbeats 1000000 in
theorem implFirstDigits_any (s : ByteArray) (w : World) (hs : s.size ≤ maxLen) :
    Calls Try.prog 28 #[.string s] w fun e w' => IntsOk (elB s.data.toList) (digsN (firstsL s.data.toList)) w w' e := by
  obtain ⟨i0, hi, hz0, hz1, hz2⟩ := info_parts info_int5
  cases hk : elB s.data.toList with
  | false =>
    have HK := Lib.hid hk; clear hk
    go_enter Try.func28, Try.ntmps28
    go_wp2_with fail
    refine (isShort_any s w hs).mono ?_
    rintro e w1 ⟨rfl, hb⟩
    rw [HK.out]
    have HB := Lib.hid hb; clear hb
    go_wp2_with fail
    go_ret2
    exact ⟨_, rfl, World.ownsRow_nil _ _ _ _, HB.out⟩
  | true =>
    obtain ⟨_, hsp, h60⟩ := elB_parts hk
    have hs60 : s.size ≤ 60 := by rw [← size_list]; exact h60
    have HK := Lib.hid hk; have HSP := Lib.hid hsp; clear hk hsp h60
    refine calls_marks Try.func28 rfl fun Q hQ => ?_
    simp only [Try.ntmps28, List.size_toArray, List.length_cons, List.length_nil, Nat.reduceAdd, Nat.reduceSub, Array.replicate_succ, Array.replicate_zero, List.push_toArray, List.append_toArray, List.nil_append, List.cons_append]
    go_wp2_with fail
    refine (isShort_any s w hs).mono ?_
    rintro e w0 ⟨rfl, hb0⟩
    rw [HK.out]
    have HB0 := Lib.hid hb0; clear hb0
    go_wp2_with (refine wpList_make_own _ rfl _ _ 33 rfl w0.heap.size 3 i0 (.int .i64 0) 1 Try.underlying33 hi hz0 hz1 .i64 .i64 10 10 rfl rfl rfl (by rw [hz2]; omega) (by unfold maxLen; omega) (Nat.le_refl _) ?_; intro w1 hown hgr)
    have hlt1 : w0.heap.size < w1.heap.size := (hown.lt w0.heap.size rfl).2
    have hb1 : Below w.heap.size w w1 := HB0.out.trans (((Below.refl w0.heap.size w0).grown hgr (Nat.le_refl _) (fun k h => by cases h)).mono HB0.out.size)
    have HO := Lib.hid hown; have HB1 := Lib.hid hb1
    clear hown hgr hb1
    go_wp2_with fail
    refine (firstSigns_is _ _).mono ?_
    rintro e w2 ⟨rfl, hw2⟩
    have hs2 : w2.heap.size = w1.heap.size + 1 + 1 := by rw [hw2]; simp
    have hbox : w2.cell? ⟨w1.heap.size + 1, 0, none⟩ = some (.string s) := by rw [hw2]; simp [go_sem]
    have hvar : Boxed w2 w1.heap.size 33 (.slice (some ⟨w0.heap.size, 0, none⟩) 0 10) := by rw [hw2]; exact (Boxed.new w1 _ _).alloc _
    have hb12 : Below w1.heap.size w1 w2 := by rw [hw2]; exact ((Below.refl _ w1).alloc (Nat.le_refl _) _).alloc (by simp) _
    have hb2 : Below w.heap.size w w2 := HB1.out.trans (hb12.mono HB1.out.size)
    have hrow : w2.ownsRow w.heap.size 3 1 (.slice (some ⟨w0.heap.size, 0, none⟩) 0 10) 0 [] := own_mono (own_below HO.out hb12) HB0.out.size
    have HS2 := Lib.hid hs2; have HX := Lib.hid hbox; have HV := Lib.hid hvar; have HB2 := Lib.hid hb2; have HR := Lib.hid hrow
    have hsz0 := HB0.out.size
    clear hw2 hs2 hbox hvar hb12 hb2 hrow
    go_wp2_with fail
    refine wp_signs s HSP.out (by omega) (w1.heap.size + 1) (by rw [HS2.out]; omega) HX.out rfl (RowI w w1.heap.size)
      (OwnFrom.and (Own.from (holdsRow_own w.heap.size w1.heap.size 33 3 1 (fun got => List.length got) digsV (fun _ _ => True)) _) (OwnFrom.and (ownFrom_below (Nat.le_refl _) (by rw [HS2.out]; omega)) (fun _ _ _ _ h _ _ => h)))
      ⟨⟨_, HV.out, HR.out, trivial⟩, HB2.out, by simp⟩ (fun _ _ _ => False) (fun _ _ _ _ _ h _ _ => h)
      (fun x => { tmps := #[.string s, undef, .slice none 0 0, .bool false, .pointer (some ⟨w1.heap.size, 0, none⟩), .int .u8 (((sayN x s.data.toList).headD 0).toNat : Int), .string s, .bool true, .bool false, .slice (some ⟨w0.heap.size, 0, none⟩) 0 10, .string s, .func (.func 77) #[] #[.pointer (some ⟨w1.heap.size + 1, 0, none⟩)], .int .u8 (((sayN x s.data.toList).headD 0).toNat : Int), undef, undef, undef, undef, undef, undef], defers := [] }) ?assign ?body ?done ?stop
    case assign =>
      intro lp x W K hK
      simp only [List.setIfInBounds_toArray, List.set_cons_succ, List.set_cons_zero]
      gi_wp2
      exact hK
    case body =>
      rintro lp pre x W Q2 hno hQ2 - - - ⟨⟨v, hv, hrow, -⟩, hbw, hl10⟩ hlt
      obtain ⟨hd1, hd2⟩ := firsts_dig HSP.out x
      have hl11 : (gotS s.data.toList pre ++ [(sayN x s.data.toList).headD 0]).length ≤ 10 := by simp [gotS]; omega
      have hsn := Lib.hid (digsV_snoc (gotS s.data.toList pre) ((sayN x s.data.toList).headD 0))
      generalize (sayN x s.data.toList).headD 0 = d at *
      generalize gotS s.data.toList pre = got at *
      have hc0 : W.cell? ⟨w1.heap.size, 0, none⟩ = some v := hv.cell
      obtain ⟨av, cv, rfl⟩ := own_slice hrow
      have hc1 := Lib.hid hc0
      have HVV := Lib.hid hv; have HRR := Lib.hid hrow; have HBW := Lib.hid hbw
      have h3b : w1.heap.size < W.heap.size := hv.lt
      clear hv hrow hbw
      have hcge : w.heap.size ≤ w1.heap.size := HB1.out.size
      have hc0 := hc1.out
      gi_wp2_with fail
      refine region_round (by kernel_rfl) (fun ⟨a, w, h⟩ => hno.1 ⟨a, w, h⟩) ?_
      refine wpAny_take (i := 1) (v := .int .u8 (d.toNat : Int)) rfl (by kernel_rfl) (by kernel_rfl) (by kernel_rfl) (fun _ _ _ h => (hno.2 _ _ _ h).elim) (Or.inl ⟨by rfl, fun w => by first | rfl | (go_simp; done) | (go_simp; rfl)⟩) ?_
      refine wpAny_ready (rs := [0, 2]) (by kernel_rfl) (by simp) (AllReady.cons rfl (fun K hK => ?_) (AllReady.cons rfl (fun K hK => ?_) AllReady.nil))
      · go_simp
        (first | (refine hK _ _ ?_; clear hK K) | skip)
        refine wpAny_ready (rs := [2]) (by kernel_rfl) (by simp) (AllReady.cons rfl (fun K hK => ?_) AllReady.nil)
        go_simp
        go_wp2_with (go_at_call 56; refine (digitOf_is _ _ (by omega) (by omega)).mono ?_; rintro e w' ⟨rfl, rfl⟩)
        (first | (refine hK _ _ ?_; clear hK K) | skip)
        refine wpAny_ready (rs := [3]) (by kernel_rfl) (by simp) (AllReady.cons rfl (fun K hK => ?_) AllReady.nil)
        go_simp
        (first | (refine hK _ _ ?_; clear hK K) | skip)
        refine wpAny_ready (rs := [4]) (by kernel_rfl) (by simp) (AllReady.cons rfl (fun K hK => ?_) AllReady.nil)
        refine step_app2 rfl (.tmp 13) (.tmp 16) 33 rfl w.heap.size 3 i0 (.int .i64 0) 8 Try.underlying33 hi hz0 hz1 hz2 rfl (.slice av got.length cv) got.length (digsV got) rfl (own_below (HRR.out.alloc _) (below_drew _)) ⟨W.heap.size, 0, none⟩ 1 1 [.int .i64 ((d.toNat : Int) - 48)] rfl rfl (cell_one_new _ _ _) (by simp [Value.oneCell']) (by unfold maxLen; omega) (by omega) (by have := HBW.out.size; simp; omega) ?_
        intro v' w3 hown' hgrow _
        obtain ⟨g', cap', rfl⟩ := ownsRow_succ hown'
        obtain ⟨q1, q2, q3, q4, q5⟩ := boxed_app HVV.out (by decide) HRR.out HBW.out.size hcge hown' hgrow
        have hc3 := q1.cell; have hf3 := q1.frozen
        have Q2' := Lib.hid q2; have Q3 := Lib.hid q3; have Q4 := Lib.hid q4; have Q5 := Lib.hid q5; clear q1 q2 q3 q4 q5 hown' hgrow
        (refine hK _ _ ?_; clear hK K)
        refine wpAny_ready (rs := [5]) (by kernel_rfl) (by simp) (AllReady.cons rfl (fun K hK => ?_) AllReady.nil)
        go_simp
        (first | (refine hK _ _ ?_; clear hK K) | skip)
        refine wpAny_done (by kernel_rfl) ?_ _
        simp only [Exit.inBlock]
        exact hQ2 _ _ (Q4.out.from _) ⟨⟨_, Q2'.out, by rw [hsn.out]; simpa using Q3.out, trivial⟩, HBW.out.trans Q5.out, hl11⟩
      · go_simp
        go_wp2_with (go_at_call 56; refine (digitOf_is _ _ (by omega) (by omega)).mono ?_; rintro e w' ⟨rfl, rfl⟩)
        (first | (refine hK _ _ ?_; clear hK K) | skip)
        refine wpAny_ready (rs := [0, 3]) (by kernel_rfl) (by simp) (AllReady.cons rfl (fun K hK => ?_) (AllReady.cons rfl (fun K hK => ?_) AllReady.nil))
        · go_simp
          (first | (refine hK _ _ ?_; clear hK K) | skip)
          refine wpAny_ready (rs := [3]) (by kernel_rfl) (by simp) (AllReady.cons rfl (fun K hK => ?_) AllReady.nil)
          go_simp
          (first | (refine hK _ _ ?_; clear hK K) | skip)
          refine wpAny_ready (rs := [4]) (by kernel_rfl) (by simp) (AllReady.cons rfl (fun K hK => ?_) AllReady.nil)
          refine step_app2 rfl (.tmp 13) (.tmp 16) 33 rfl w.heap.size 3 i0 (.int .i64 0) 8 Try.underlying33 hi hz0 hz1 hz2 rfl (.slice av got.length cv) got.length (digsV got) rfl (own_below (HRR.out.alloc _) (below_drew _)) ⟨W.heap.size, 0, none⟩ 1 1 [.int .i64 ((d.toNat : Int) - 48)] rfl rfl (cell_one_new _ _ _) (by simp [Value.oneCell']) (by unfold maxLen; omega) (by omega) (by have := HBW.out.size; simp; omega) ?_
          intro v' w3 hown' hgrow _
          obtain ⟨g', cap', rfl⟩ := ownsRow_succ hown'
          obtain ⟨q1, q2, q3, q4, q5⟩ := boxed_app HVV.out (by decide) HRR.out HBW.out.size hcge hown' hgrow
          have hc3 := q1.cell; have hf3 := q1.frozen
          have Q2' := Lib.hid q2; have Q3 := Lib.hid q3; have Q4 := Lib.hid q4; have Q5 := Lib.hid q5; clear q1 q2 q3 q4 q5 hown' hgrow
          (refine hK _ _ ?_; clear hK K)
          refine wpAny_ready (rs := [5]) (by kernel_rfl) (by simp) (AllReady.cons rfl (fun K hK => ?_) AllReady.nil)
          go_simp
          (first | (refine hK _ _ ?_; clear hK K) | skip)
          refine wpAny_done (by kernel_rfl) ?_ _
          simp only [Exit.inBlock]
          exact hQ2 _ _ (Q4.out.from _) ⟨⟨_, Q2'.out, by rw [hsn.out]; simpa using Q3.out, trivial⟩, HBW.out.trans Q5.out, hl11⟩
        · go_simp
          (first | (refine hK _ _ ?_; clear hK K) | skip)
          refine wpAny_ready (rs := [0]) (by kernel_rfl) (by simp) (AllReady.cons rfl (fun K hK => ?_) AllReady.nil)
          go_simp
          (first | (refine hK _ _ ?_; clear hK K) | skip)
          refine wpAny_ready (rs := [4]) (by kernel_rfl) (by simp) (AllReady.cons rfl (fun K hK => ?_) AllReady.nil)
          refine step_app2 rfl (.tmp 13) (.tmp 16) 33 rfl w.heap.size 3 i0 (.int .i64 0) 8 Try.underlying33 hi hz0 hz1 hz2 rfl (.slice av got.length cv) got.length (digsV got) rfl (own_below (HRR.out.alloc _) (below_drew _)) ⟨W.heap.size, 0, none⟩ 1 1 [.int .i64 ((d.toNat : Int) - 48)] rfl rfl (cell_one_new _ _ _) (by simp [Value.oneCell']) (by unfold maxLen; omega) (by omega) (by have := HBW.out.size; simp; omega) ?_
          intro v' w3 hown' hgrow _
          obtain ⟨g', cap', rfl⟩ := ownsRow_succ hown'
          obtain ⟨q1, q2, q3, q4, q5⟩ := boxed_app HVV.out (by decide) HRR.out HBW.out.size hcge hown' hgrow
          have hc3 := q1.cell; have hf3 := q1.frozen
          have Q2' := Lib.hid q2; have Q3 := Lib.hid q3; have Q4 := Lib.hid q4; have Q5 := Lib.hid q5; clear q1 q2 q3 q4 q5 hown' hgrow
          (refine hK _ _ ?_; clear hK K)
          refine wpAny_ready (rs := [5]) (by kernel_rfl) (by simp) (AllReady.cons rfl (fun K hK => ?_) AllReady.nil)
          go_simp
          (first | (refine hK _ _ ?_; clear hK K) | skip)
          refine wpAny_done (by kernel_rfl) ?_ _
          simp only [Exit.inBlock]
          exact hQ2 _ _ (Q4.out.from _) ⟨⟨_, Q2'.out, by rw [hsn.out]; simpa using Q3.out, trivial⟩, HBW.out.trans Q5.out, hl11⟩
    case done =>
      rintro D W hD ⟨⟨v, hv, hrow, -⟩, hbw, hl10⟩ hK
      have HKK := Lib.hid hK; have HBW := Lib.hid hbw; have HRR := Lib.hid hrow
      have hc0 : W.cell? ⟨w1.heap.size, 0, none⟩ = some v := hv.cell
      obtain ⟨av, cv, rfl⟩ := own_slice hrow
      clear hv hrow hbw hK
      go_wp2_with fail
      (try simp only [Exit.inBlock, Exit.then])
      have hD2 : w.heap.size ≤ D := by have := HS2.out; omega
      refine hQ.marked _ _ D _ rfl HKK.out (results_tmp2 rfl _ _ _) ⟨_, rfl, ?_, below_mark HBW.out hD2 HKK.out⟩
      rw [if_pos rfl]
      have := ownsRow_putObj HRR.out (.deferred none) HKK.out rfl
      unfold Ints
      rw [show (digsN (firstsL s.data.toList)).length = (firstsL s.data.toList).length by simp [digsN]]
      exact this
    case stop =>
      rintro D c k W _ _ h _
      exact h.elim
end Go.Proofs.Ytjjkfffddfanaab
