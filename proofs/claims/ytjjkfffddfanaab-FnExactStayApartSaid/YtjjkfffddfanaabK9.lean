/- StayApart: the program's and the model's, and the law's walk. -/
import Derived.Test.YtjjkfffddfanaabK7
namespace Go.Proofs.Ytjjkfffddfanaab
open Go.RowKit Go.BigFrame Go.Shelf
set_option linter.unusedSimpArgs false
set_option linter.unusedVariables false
set_option maxRecDepth 4000
attribute [local go_sem] Oper.semAt_some

/-- Two answers of StayApart. -/
def apartO (a b c : Bool) : Value := .tuple #[.bool (a && b && c), .bool (a && b)]

theorem three_boxes {w w1 : World} {t a b : TypeId} {x y z : Value} (hb : Below (((w.alloc (.cells #[x] t)).alloc (.cells #[y] a)).alloc (.cells #[z] b)).heap.size (((w.alloc (.cells #[x] t)).alloc (.cells #[y] a)).alloc (.cells #[z] b)) w1) :
    Boxed w1 w.heap.size t x ∧ Boxed w1 (w.heap.size + 1) a y ∧ Boxed w1 (w.heap.size + 1 + 1) b z ∧ Below w.heap.size w w1 ∧ w.heap.size + 1 + 1 < w1.heap.size := by
  have h1 : Boxed (((w.alloc (.cells #[x] t)).alloc (.cells #[y] a)).alloc (.cells #[z] b)) w.heap.size t x := ((Boxed.new w t x).alloc _).alloc _
  have h2 : Boxed (((w.alloc (.cells #[x] t)).alloc (.cells #[y] a)).alloc (.cells #[z] b)) (w.heap.size + 1) a y := by
    have := (Boxed.new (w.alloc (.cells #[x] t)) a y).alloc (.cells #[z] b)
    rw [World.size_alloc] at this; exact this
  have h3 : Boxed (((w.alloc (.cells #[x] t)).alloc (.cells #[y] a)).alloc (.cells #[z] b)) (w.heap.size + 1 + 1) b z := by
    have := Boxed.new ((w.alloc (.cells #[x] t)).alloc (.cells #[y] a)) b z
    rw [World.size_alloc, World.size_alloc] at this; exact this
  refine ⟨(hb.block _ h1.lt).trans h1, (hb.block _ h2.lt).trans h2, (hb.block _ h3.lt).trans h3, ?_, Nat.lt_of_lt_of_le h3.lt hb.size⟩
  exact ((((Below.refl _ w).alloc (Nat.le_refl _) _).alloc (by simp) _).alloc (by simp; omega) _).trans (hb.mono (by simp; omega))
theorem boxed_other {W : World} {B C : Nat} {t : TypeId} {v : Value} (h : Boxed W B t v) (hne : B ≠ C) (x : Value) : Boxed (W.setCell ⟨C, 0, none⟩ x) B t v :=
  (Below.heap_setCell _ _ _ _ hne).trans h
theorem below_set2 {w W : World} {B C : Nat} (h : Below w.heap.size w W) (hB : w.heap.size ≤ B) (hC : w.heap.size ≤ C) (x y : Value) : Below w.heap.size w ((W.setCell ⟨B, 0, none⟩ x).setCell ⟨C, 0, none⟩ y) :=
  (h.setCell (p := ⟨B, 0, none⟩) hB x).setCell (p := ⟨C, 0, none⟩) hC y

set_option maxRecDepth 100000 in
set_option maxHeartbeats 1000000 in
theorem implStayApart_any (u v : ByteArray) (w : World) (hu : u.size ≤ maxLen) (hv : v.size ≤ maxLen) :
    Calls Try.prog 33 #[.string u, .string v] w fun e w' => e = .returned (apartO (elB u.data.toList) (elB v.data.toList) (apartB u.data.toList v.data.toList)) ∧ Below w.heap.size w w' := by
  cases hk : elB u.data.toList with
  | false =>
    have HK := Lib.hid hk; clear hk
    go_enter Try.func33, Try.ntmps33
    go_wp2_with fail
    refine (isShort_any u _ hu).mono ?_
    rintro e w1 ⟨rfl, hb⟩
    rw [HK.out]
    obtain ⟨b1, b2, b3, hbw, hsz⟩ := three_boxes hb
    have hc2 := b2.cell; have hf2 := b2.frozen; have hc3 := b3.cell; have hf3 := b3.frozen
    have HBW := Lib.hid hbw
    clear b1 b2 b3 hb hbw
    go_wp2_with fail
    (try simp only [Exit.inBlock, Exit.then])
    refine bodyPost_ret (v := .tuple #[.bool false, .bool false]) (by simp [results, Try.results33, go_sem, hc2, hc3]) rfl ⟨rfl, below_set2 HBW.out (by omega) (by omega) _ _⟩
  | true =>
    cases hk2 : elB v.data.toList with
    | false =>
      have HK := Lib.hid hk; have HK2 := Lib.hid hk2; clear hk hk2
      go_enter Try.func33, Try.ntmps33
      go_wp2_with fail
      refine (isShort_any u _ hu).mono ?_
      rintro e w1 ⟨rfl, hb⟩
      rw [HK.out]
      obtain ⟨b1, b2, b3, hbw, hsz⟩ := three_boxes hb
      have B2 := Lib.hid b2; have B3 := Lib.hid b3; have HBW := Lib.hid hbw
      clear b1 b2 b3 hb hbw
      go_wp2_with fail
      refine (isShort_any v _ hv).mono ?_
      rintro e w2 ⟨rfl, hb2⟩
      rw [HK2.out]
      have b2 : Boxed w2 _ _ _ := (hb2.block _ B2.out.lt).trans B2.out
      have b3 : Boxed w2 _ _ _ := (hb2.block _ B3.out.lt).trans B3.out
      have hc2 := b2.cell; have hf2 := b2.frozen; have hc3 := b3.cell; have hf3 := b3.frozen
      have HBW2 := Lib.hid (below_trans HBW.out hb2)
      clear b2 b3 hb2
      go_wp2_with fail
      (try simp only [Exit.inBlock, Exit.then])
      refine bodyPost_ret (v := .tuple #[.bool false, .bool false]) (by simp [results, Try.results33, go_sem, hc2, hc3]) rfl ⟨rfl, below_set2 HBW2.out (by omega) (by omega) _ _⟩
    | true =>
      obtain ⟨_, hspu, hu60⟩ := elB_parts hk
      obtain ⟨_, hspv, hv60⟩ := elB_parts hk2
      have hu0 : 0 < u.size := by rw [← size_list]; exact Nat.pos_of_ne_zero (fun e => (sayB_iff.1 hspu).1 (List.eq_nil_of_length_eq_zero e))
      have hu6 : u.size ≤ 60 := by rw [← size_list]; exact hu60
      have hv6 : v.size ≤ 60 := by rw [← size_list]; exact hv60
      obtain ⟨m, hm⟩ : ∃ m, u.size = m + 1 := ⟨u.size - 1, by omega⟩
      have hlt : m < u.size := by omega
      have HL := Lib.hid (last_at8 u m hlt hm)
      have HK := Lib.hid hk; have HK2 := Lib.hid hk2; have HSPV := Lib.hid hspv; have HM := Lib.hid hm
      clear hk hk2 hspu hspv hu60 hv60 hm
      refine calls_marks Try.func33 rfl fun Q hQ => ?_
      simp only [Try.ntmps33, List.size_toArray, List.length_cons, List.length_nil, Nat.reduceAdd, Nat.reduceSub, Array.replicate_succ, Array.replicate_zero, List.push_toArray, List.append_toArray, List.nil_append, List.cons_append]
      go_wp2_with fail
      refine (isShort_any u _ hu).mono ?_
      rintro e w1 ⟨rfl, hb⟩
      rw [HK.out]
      obtain ⟨b1, b2, b3, hbw, hsz⟩ := three_boxes hb
      have B1 := Lib.hid b1; have B2 := Lib.hid b2; have B3 := Lib.hid b3; have HBW := Lib.hid hbw
      clear b1 b2 b3 hb hbw
      go_wp2_with fail
      refine (isShort_any v _ hv).mono ?_
      rintro e w2 ⟨rfl, hb2⟩
      rw [HK2.out]
      have C1 := Lib.hid (show Boxed w2 _ _ _ from (hb2.block _ B1.out.lt).trans B1.out)
      have C2 := Lib.hid (show Boxed w2 _ _ _ from (hb2.block _ B2.out.lt).trans B2.out)
      have C3 := Lib.hid (show Boxed w2 _ _ _ from (hb2.block _ B3.out.lt).trans B3.out)
      have HBW2 := Lib.hid (below_trans HBW.out hb2)
      have hsz2 := hb2.size
      clear hb2
      go_wp2_with fail
      refine (firstSigns_is _ _).mono ?_
      rintro e w3 ⟨rfl, hw3⟩
      have hs3 : w3.heap.size = w2.heap.size + 1 := by rw [hw3]; simp
      have hbox : w3.cell? ⟨w2.heap.size, 0, none⟩ = some (.string v) := by rw [hw3]; simp [go_sem]
      have hb3 : Below w2.heap.size w2 w3 := by rw [hw3]; exact below_alloc _ _
      have D1 := Lib.hid (show Boxed w3 _ _ _ from (hb3.block _ C1.out.lt).trans C1.out)
      have D2 := Lib.hid (show Boxed w3 _ _ _ from (hb3.block _ C2.out.lt).trans C2.out)
      have D3 := Lib.hid (show Boxed w3 _ _ _ from (hb3.block _ C3.out.lt).trans C3.out)
      have HB3 := Lib.hid (below_trans HBW2.out hb3)
      have HS3 := Lib.hid hs3; have HX := Lib.hid hbox
      have hp : w.heap.size + 1 + 1 < w3.heap.size := by rw [hs3]; omega
      clear hw3 hs3 hbox hb3
      obtain ⟨x, hx⟩ : ∃ x, x = u[m] := ⟨_, rfl⟩
      rw [← hx] at HL
      have HXX := Lib.hid hx; clear hx
      go_wp2_with fail
      refine wp_signs v HSPV.out (by omega) w2.heap.size (by rw [HS3.out]; omega) HX.out rfl
        (fun got W => Boxed W w.heap.size 9 (.string u) ∧ Boxed W (w.heap.size + 1) 4 (.bool false) ∧ Boxed W (w.heap.size + 1 + 1) 4 (.bool false) ∧ Below w.heap.size w W ∧ got.contains x = false)
        (OwnFrom.and (ownFrom_block _ (by omega)) (OwnFrom.and (ownFrom_block _ (by omega)) (OwnFrom.and (ownFrom_block _ (by omega)) (OwnFrom.and (ownFrom_below (Nat.le_refl _) (by omega)) (fun _ _ _ _ h _ _ => h)))))
        ⟨D1.out, D2.out, D3.out, HB3.out, rfl⟩
        (fun c got W => c = .ret ∧ Boxed W (w.heap.size + 1) 4 (.bool false) ∧ Boxed W (w.heap.size + 1 + 1) 4 (.bool true) ∧ Below w.heap.size w W ∧ got.contains x = true)
        (fun c => OwnFrom.and (fun _ _ _ _ h _ _ => h) (OwnFrom.and (ownFrom_block _ (by omega)) (OwnFrom.and (ownFrom_block _ (by omega)) (OwnFrom.and (ownFrom_below (Nat.le_refl _) (by omega)) (fun _ _ _ _ h _ _ => h)))))
        (fun y => { tmps := #[.string u, .string v, .pointer (some ⟨w.heap.size, 0, none⟩), undef, .pointer (some ⟨w.heap.size + 1, 0, none⟩), .pointer (some ⟨w.heap.size + 1 + 1, 0, none⟩), .int .u8 (((sayN y v.data.toList).headD 0).toNat : Int), .string u, .bool true, .bool false, .bool false, .string v, .bool true, .bool false, .bool false, .string v, .func (.func 77) #[] #[.pointer (some ⟨w2.heap.size, 0, none⟩)], .int .u8 (((sayN y v.data.toList).headD 0).toNat : Int), undef, undef, undef, undef, undef, undef, undef], defers := [] }) ?assign ?body ?done ?stop
      case assign =>
        intro lp x W K hK
        simp only [List.setIfInBounds_toArray, List.set_cons_succ, List.set_cons_zero]
        gi_wp2
        exact hK
      case body =>
        rintro lp pre y W Q2 hno hQn hQr - - ⟨e1, e2, e3, e4, e5⟩ hlt2
        have hcon : (gotS v.data.toList pre ++ [(sayN y v.data.toList).headD 0]).contains x = (x == (sayN y v.data.toList).headD 0) := by
          simp only [List.contains_eq_mem, decide_eq_false_iff_not] at e5
          simp only [List.contains_eq_mem, List.mem_append, List.mem_singleton, e5, false_or]
          rw [Bool.eq_iff_iff]; simp
        have HC := Lib.hid hcon
        clear hcon e5
        generalize gotS v.data.toList pre ++ [(sayN y v.data.toList).headD 0] = got2 at *
        generalize (sayN y v.data.toList).headD 0 = d at *
        have hc1 := e1.cell; have hc2 := e2.cell; have hf2 := e2.frozen; have hc3 := e3.cell; have hf3 := e3.frozen
        have E1 := Lib.hid e1; have E2 := Lib.hid e2; have E3 := Lib.hid e3; have E4 := Lib.hid e4
        have hm1 : u.size = m + 1 := HM.out
        clear e1 e2 e3 e4
        by_cases hxd : x = d
        · have hbe : ((d.toNat : Int) == (u[m].toNat : Int)) = true := by rw [← HXX.out, hxd]; simp
          have HXD : Hid (got2.contains x = true) := by rw [HC.out, hxd]; simp; exact trivial
          clear hxd
          gi_wp2_with fail
          exact hQr _ _ (((KeepsOthers.setCell _ _ _).trans (KeepsOthers.setCell _ _ _)).from _) ⟨by first | rfl | trivial, boxed_other (E2.out.set _) (by omega) _, (boxed_other E3.out (by omega) _).set _, below_set2 E4.out (by omega) (by omega) _ _, HXD.out⟩
        · have hbe : ((d.toNat : Int) == (u[m].toNat : Int)) = false := by
            rw [← HXX.out]; simp; intro e; exact hxd (UInt8.toNat_inj.1 (by omega))
          have HXD : Hid (got2.contains x = false) := by rw [HC.out]; simp; exact hxd
          clear hxd
          gi_wp2_with fail
          exact hQn _ _ (KeepsFrom.refl _ _) ⟨E1.out, E2.out, E3.out, E4.out, HXD.out⟩
      case done =>
        rintro D W hD ⟨e1, e2, e3, e4, e5⟩ hK
        have hc2 := e2.cell; have hf2 := e2.frozen; have hc3 := e3.cell; have hf3 := e3.frozen
        have E2 := Lib.hid e2; have E3 := Lib.hid e3; have E4 := Lib.hid e4; have E5 := Lib.hid e5; have HKK := Lib.hid hK
        clear e1 e2 e3 e4 e5 hK
        go_wp2_with fail
        (try simp only [Exit.inBlock, Exit.then])
        have hK2 : ((W.setCell ⟨w.heap.size + 1, 0, none⟩ (.bool true)).setCell ⟨w.heap.size + 1 + 1, 0, none⟩ (.bool true)).heap[D]? = some (.deferred (some [])) := ((KeepsOthers.setCell _ _ _).trans (KeepsOthers.setCell _ _ _)).same D _ HKK.out rfl
        have g2 := cell_kept (boxed_other (E2.out.set (.bool true)) (show w.heap.size + 1 ≠ w.heap.size + 1 + 1 by omega) (.bool true)).cell (grownBy_putObj' _ D (.deferred none)) (fun r e => by cases e; exact ⟨_, hK2, rfl⟩)
        have g3 := cell_kept ((boxed_other E3.out (show w.heap.size + 1 + 1 ≠ w.heap.size + 1 by omega) (.bool true)).set (.bool true)).cell (grownBy_putObj' _ D (.deferred none)) (fun r e => by cases e; exact ⟨_, hK2, rfl⟩)
        refine hQ.marked _ _ D (.tuple #[.bool true, .bool true]) rfl hK2 (by simp [results, Try.f33, go_sem, g2, g3]) ⟨?_, below_mark (below_set2 E4.out (by omega) (by omega) _ _) (by omega) hK2⟩
        unfold apartO apartB
        rw [HL.out, E5.out]; rfl
      case stop =>
        rintro D c k W hD hk ⟨rfl, e2, e3, e4, e5⟩ hK
        have E2 := Lib.hid e2; have E3 := Lib.hid e3; have E4 := Lib.hid e4; have E5 := Lib.hid e5; have HKK := Lib.hid hK
        clear e2 e3 e4 e5 hK
        go_wp2_with fail
        (try simp only [Exit.inBlock, Exit.then])
        have hK2 : W.heap[D]? = some (.deferred (some [])) := HKK.out
        have g2 := cell_kept (E2.out).cell (grownBy_putObj' _ D (.deferred none)) (fun r e => by cases e; exact ⟨_, hK2, rfl⟩)
        have g3 := cell_kept (E3.out).cell (grownBy_putObj' _ D (.deferred none)) (fun r e => by cases e; exact ⟨_, hK2, rfl⟩)
        refine hQ.marked _ _ D (.tuple #[.bool false, .bool true]) rfl hK2 (by simp [results, Try.f33, go_sem, g2, g3]) ⟨?_, below_mark E4.out (by omega) hK2⟩
        unfold apartO apartB
        have hin : (firstsL v.data.toList).contains x = true := by
          have := E5.out
          simp only [List.contains_eq_mem, decide_eq_true_eq] at this ⊢
          exact List.mem_of_mem_take this
        rw [HL.out, hin]; rfl

theorem specStayApart_any (u v : ByteArray) (w : World) (hu : u.size ≤ maxLen) (hv : v.size ≤ maxLen) :
    Calls Try.prog 32 #[.string u, .string v] w fun e w' => e = .returned (apartO (elB u.data.toList) (elB v.data.toList) (apartB u.data.toList v.data.toList)) ∧ Below w.heap.size w w' := by
  cases hk : elB u.data.toList with
  | false =>
    have HK := Lib.hid hk; clear hk
    go_enter Try.func32, Try.ntmps32
    go_wp2_with fail
    refine (elGood_any u _ hu).mono ?_
    rintro e w1 ⟨rfl, hb⟩
    rw [HK.out]
    have HB := Lib.hid hb; clear hb
    go_wp2_with fail
    go_ret2
    exact ⟨rfl, HB.out⟩
  | true =>
    cases hk2 : elB v.data.toList with
    | false =>
      have HK := Lib.hid hk; have HK2 := Lib.hid hk2; clear hk hk2
      go_enter Try.func32, Try.ntmps32
      go_wp2_with fail
      refine (elGood_any u _ hu).mono ?_
      rintro e w1 ⟨rfl, hb⟩
      rw [HK.out]
      have HB := Lib.hid hb; clear hb
      go_wp2_with fail
      refine (elGood_any v _ hv).mono ?_
      rintro e w2 ⟨rfl, hb⟩
      rw [HK2.out]
      have HB2 := Lib.hid hb; clear hb
      go_wp2_with fail
      go_ret2
      exact ⟨rfl, below_trans HB.out HB2.out⟩
    | true =>
      obtain ⟨_, hspu, hu60⟩ := elB_parts hk
      obtain ⟨_, hspv, hv60⟩ := elB_parts hk2
      have hu0 : 0 < u.size := by rw [← size_list]; exact Nat.pos_of_ne_zero (fun e => (sayB_iff.1 hspu).1 (List.eq_nil_of_length_eq_zero e))
      have hu6 : u.size ≤ 60 := by rw [← size_list]; exact hu60
      have hv6 : v.size ≤ 60 := by rw [← size_list]; exact hv60
      have HA := Lib.hid (fun (W : World) => elApart_any u v W hspv (by omega) hu0 (by omega) (sayB_iff.1 hspu).2.1)
      have HK := Lib.hid hk; have HK2 := Lib.hid hk2
      clear hk hk2 hspu hspv hu60 hv60
      generalize apartB u.data.toList v.data.toList = b at *
      go_enter Try.func32, Try.ntmps32
      go_wp2_with fail
      refine (elGood_any u _ hu).mono ?_
      rintro e w1 ⟨rfl, hb⟩
      rw [HK.out]
      have HB := Lib.hid hb; clear hb
      go_wp2_with fail
      refine (elGood_any v _ hv).mono ?_
      rintro e w2 ⟨rfl, hb⟩
      rw [HK2.out]
      have HB2 := Lib.hid hb; clear hb
      go_wp2_with fail
      refine (HA.out _).mono ?_
      rintro e w3 ⟨rfl, hb⟩
      have HB3 := Lib.hid hb; clear hb
      go_wp2_with fail
      go_ret2
      exact ⟨rfl, below_trans HB.out (below_trans HB2.out HB3.out)⟩

theorem law_StayApart (u v : ByteArray) (w : World) (hu : u.size ≤ maxLen) (hv : v.size ≤ maxLen) :
    Calls Try.prog 10 #[.string u, .string v] w fun e w' => e = .returned (.bool true) ∧ Below w.heap.size w w' := by
  by_cases h1 : 1048576 < u.size
  · go_enter Try.func10, Try.ntmps10
    go_wp2_with fail
    go_ret
    exact ⟨rfl, Below.refl _ _⟩
  · by_cases h2 : 1048576 < v.size
    · go_enter Try.func10, Try.ntmps10
      go_wp2_with fail
      go_ret
      exact ⟨rfl, Below.refl _ _⟩
    · have HS := Lib.hid (fun (W : World) => specStayApart_any u v W hu hv); have HI := Lib.hid (fun (W : World) => implStayApart_any u v W hu hv)
      unfold apartO at HS HI
      generalize (elB u.data.toList && elB v.data.toList && apartB u.data.toList v.data.toList) = x at *
      generalize (elB u.data.toList && elB v.data.toList) = y at *
      have e1 : (x != x) = false := by simp
      have e2 : (y != y) = false := by simp
      go_enter Try.func10, Try.ntmps10
      go_wp2_with fail
      refine (HS.out w).mono ?_
      rintro e w1 ⟨rfl, hb⟩
      have B1 := Lib.hid hb; clear hb
      go_wp2_with fail
      refine (HI.out w1).mono ?_
      rintro e w2 ⟨rfl, hb⟩
      have B2 := Lib.hid hb; clear hb
      go_wp2_with fail
      go_ret
      exact ⟨rfl, below_trans B1.out B2.out⟩
end Go.Proofs.Ytjjkfffddfanaab
