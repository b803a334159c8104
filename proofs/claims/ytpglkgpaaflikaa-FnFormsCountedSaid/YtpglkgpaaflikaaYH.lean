/- Lists that are drawn for chapter 6, and the laws' helpers qSame, qHas, qSum. -/
import Derived.Test.Ytpglkgpaaflikaau3
import Derived.Test.YtpglkgpaaflikaaYC
namespace Go.Proofs.Ytpglkgpaaflikaa
open Go.RowKit Go.BigFrame Go.Deep
set_option linter.unusedSimpArgs false
set_option linter.unusedVariables false
set_option maxRecDepth 4000

theorem lit_cellsH (w : World) (xs : List Int) (T : TypeId) : ∀ i (h : i < xs.length), (w.alloc (.cells (xs.map (Value.int .i64)).toArray T)).cell? ⟨w.heap.size, i, none⟩ = some (.int .i64 xs[i]) := by
  intro i h
  have hcl := heap_alloc_new w (.cells (xs.map (Value.int .i64)).toArray T)
  simp only [World.cell?, hcl]
  simp [h]

set_option maxHeartbeats 2000000 in

def lenS : Value → Nat
  | .slice _ n _ => n
  | _ => 0
/-- append(out, y), out a row of the call's own above a base. -/
theorem wpI_appB {ops : Array Oper} {rest : List Oper} {o : Oper} {a : Act} {Q : Exit → Act → World → Prop} (W : World) (hgd : o.guard = none) (s x : Operand)
    (ho : o.op = .call { callee := .builtin .append, args := #[s, x], argTypes := #[22, 22] })
    (B : Nat) {v : Value} {xs : List Int} (y : Int) (h : Ints W B v xs) (hs : a.eval s = v) (hx : a.eval x = .slice (some ⟨W.heap.size, 0, none⟩) 1 1) (hB : B ≤ W.heap.size) (hl : xs.length ≤ 1000000)
    (hK : ∀ v' w', Ints w' B v' (xs ++ [y]) → (W.alloc (.cells #[.int .i64 y] 3)).grownBy w' v.ownBlock → wpList Try.prog ops Q rest (a.put o.dst v') w') :
    wpList Try.prog ops Q (o :: rest) a (W.alloc (.cells #[.int .i64 y] 3)) := by
  obtain ⟨i0, hi, hz0, hz1, hz2⟩ := info_parts info_intT
  refine wpList_app _ hgd s x 22 ho B 3 i0 (.int .i64 0) 8 Try.underlying22 hi hz0 hz1 hz2 rfl v xs.length _ hs (World.ownsRow.alloc h _) ⟨W.heap.size, 0, none⟩ 1 1 [.int .i64 y] hx rfl (cell_one_new _ _ _) (by simp [Value.oneCell']) (by unfold maxLen; omega) (by omega) (by simp; omega) ?_
  intro v' w' ho' hgr hwh
  refine hK v' w' ?_ hgr
  unfold Ints; simpa using ho'
theorem Cur.grown {w0 W w' : World} {g K : Nat} {cv : Value} (hc : Cur w0 W g cv K) {row : Option Nat} (hgr : W.grownBy w' row) (hrow : ∀ b, row = some b → g < b) : Cur w0 w' g cv K := by
  have hlt := hc.lt
  obtain ⟨a, s, h1, h2, h3, h4⟩ := hc.obj
  refine ⟨⟨a, s, h1, h2, h3, (hgr.block g hlt (fun e => ?_)).trans h4⟩, hc.base, hc.below.grown hgr hc.below.size (fun k hk => ?_)⟩
  · have := hrow g e.symm; omega
  · have := hrow k hk; have := hc.base; omega
theorem ints_lt {w : World} {B : Nat} {v : Value} {xs : List Int} (h : Ints w B v xs) : ∀ b, v.ownBlock = some b → B ≤ b := fun b hb => (World.ownsRow.lt h b hb).1
theorem ints_cur {w w' : World} {B g : Nat} {v : Value} {xs : List Int} (h : Ints w B v xs) (hg : w.grownBy w' (some g)) (hlt : g < B) : Ints w' B v xs := by
  refine World.ownsRow.kept h hg ?_
  cases hv : v.ownBlock with
  | none => exact .inl rfl
  | some b => exact .inr fun e => by have := ints_lt h b hv; cases e; omega
theorem ints_below {w w' : World} {B : Nat} {v : Value} {xs : List Int} (h : Ints w B v xs) (hb : Below w.heap.size w w') : Ints w' B v xs := own_below h hb

set_option maxHeartbeats 4000000 in
theorem placed_c (w0 w : World) (g K : Nat) (cv : Value) (ns : List Int) (ha : ArgY w0 cv ns) (hc : Cur w0 w g cv K) (hK : K ≤ 50000) :
    Calls Try.prog 76 #[.pointer (some ⟨g, 0, none⟩)] w fun e w' => ∃ v xs, e = .returned v ∧ Ints w' (g + 1) v xs ∧ xs.length ≤ 61 ∧ Cur w0 w' g cv (K + 400) := by
  have HP := Lib.hid (pick_c w0 w g K 6 cv ns ha hc (by omega) (by omega) (by omega))
  have HA := Lib.hid ha
  clear hc ha
  go_enter Try.func76, Try.ntmps76
  go_wp2_with fail
  refine HP.out.mono ?_
  rintro e w1 ⟨kd, rfl, hkd, hcu, hg⟩
  have HC := Lib.hid hcu
  clear hcu hg HP
  obtain ⟨Kd, hKd⟩ : ∃ Kd : Nat, Kd = 1 + kd := ⟨_, rfl⟩
  have hKdI : (1 : Int) + (kd : Int) = (Kd : Int) := by omega
  have hKd6 : 1 ≤ Kd ∧ Kd ≤ 6 := by omega
  clear hKd
  go_wp2_with fail
  refine (pick_c w0 w1 g (K + 2) 12 cv ns HA.out HC.out (by omega) (by omega) (by omega)).mono ?_
  rintro e w2 ⟨x0, rfl, hx0, hcu, hg⟩
  have HC2 := Lib.hid hcu
  clear hcu hg HC
  obtain ⟨x, hx⟩ : ∃ x : Nat, x = 1 + x0 := ⟨_, rfl⟩
  have hxI : (1 : Int) + (x0 : Int) = (x : Int) := by omega
  have hx12 : 1 ≤ x ∧ x ≤ 12 := by omega
  clear hx
  go_wp2_with fail
  go_loopw [3, 5] (fun ov kv wr => ∃ (r : Nat) (xs : List Int), xs.length + r = x ∧ kv = .int .i64 (r : Int) ∧ Hid (Ints wr (g + 1) ov xs) ∧ Hid (Cur w0 wr g cv (K + 4 + 6 * xs.length))) (fun _ kv _ => (intOf kv).toNat)
  case atStart => exact ⟨x, [], by simp, rfl, Lib.hid (World.ownsRow_nil _ _ _ _), Lib.hid HC2.out⟩
  case round =>
    obtain ⟨r, xs, hlr, rfl, HI, HW⟩ := hrel
    obtain ⟨wr0, hwr0⟩ : ∃ x, x = wr := ⟨_, rfl⟩
    subst hwr0
    cases r with
    | zero =>
      have hxl : xs.length = x := by omega
      have HXL := Lib.hid hxl
      have hsl := own_slice HI.out
      obtain ⟨A0, C0, hv0⟩ := hsl
      have HCx := Lib.hid (HW.out.mono (show K + 4 + 6 * xs.length ≤ K + 76 by omega))
      clear hlr hxl HW
      subst hv0
      obtain ⟨L, hL⟩ : ∃ L, L = xs.length := ⟨_, rfl⟩
      have HL := Lib.hid hL
      rw [← hL]
      have hL12 : 1 ≤ L ∧ L ≤ 12 := by have := HXL.out; omega
      clear hL
      go_wp2_with fail
      refine (pick_c w0 wr0 g (K + 76) 14 cv ns HA.out HCx.out (by omega) (by omega) (by omega)).mono ?_
      rintro e w3 ⟨t, rfl, ht, hcu, hg⟩
      have HC3 := Lib.hid hcu; have HI3 := Lib.hid (ints_cur HI.out hg (by omega))
      clear hcu hg HI HCx
      by_cases t0 : t = 0
      · subst t0
        go_wp2_with fail
        refine (pick_c w0 w3 g (K + 78) L cv ns HA.out HC3.out (by omega) (by omega) (by omega)).mono ?_
        rintro e w4 ⟨i, rfl, hi, hcu, hg⟩
        have HC4 := Lib.hid hcu; have HI4 := Lib.hid (ints_cur HI3.out hg (by omega))
        clear hcu hg HI3 HC3
        have hlt := HC4.out.lt
        have hrow : ∃ b, A0 = some ⟨b, 0, none⟩ ∧ g + 1 ≤ b := by
          rcases own_open HI4.out with ⟨_, h0, _⟩ | ⟨b, c, h1, h2, _⟩
          · have := HL.out; omega
          · cases h1; exact ⟨b, rfl, h2⟩
        obtain ⟨b, rfl, hgb⟩ := hrow
        go_wp2_with fail
        refine (among_c w0 _ g (K + 80) w4.heap.size 4 4 cv ns [-1, 1000, 1001, 4611686018427387904] HA.out (HC4.out.later (below_alloc _ _)) (by omega) rfl (by omega) (by omega) (by omega) (by omega) (by omega) (by simp) (lit_cellsH w4 _ _)).mono ?_
        rintro e w5 ⟨z, hz, rfl, hcu, hg⟩
        have HC5 := Lib.hid hcu; have HI5 := Lib.hid (ints_cur (ints_below HI4.out (below_alloc _ _)) hg (by omega))
        clear hcu hg hz HC4 HI4
        have hil : i < xs.length := by have := HL.out; omega
        have hcell : ∃ q, w5.cell? ⟨b, i, none⟩ = some q := own_cell_some (n := xs.length) (xs := xs.map (.int .i64)) (cap := C0) HI5.out i hil
        obtain ⟨q, hq⟩ := hcell
        have hfr : w5.frozen? ⟨b, i, none⟩ = false := by
          rcases own_open HI5.out with ⟨h0, _⟩ | ⟨b', c, h1, _, _, _, _, _, _, h6⟩
          · cases h0
          · cases h1; exact h6 i
        have hiI : (i : Int) < (L : Int) := by omega
        go_wp2_with fail
        go_ret
        refine ⟨_, xs.set i z, rfl, ?_, by rw [List.length_set]; have := HL.out; omega, (HC5.out.grown (grown_put w5 b i (.int .i64 z)) (fun k hk => by cases hk; omega)).mono (by omega)⟩
        have := (World.ownsRow.stored HI5.out i (.int .i64 z)).1
        have e1 := HL.out
        subst e1
        unfold Ints
        rw [List.length_set, List.map_set]
        exact this
      · by_cases t1 : t = 1
        · subst t1
          go_wp2_with fail
          go_ret
          exact ⟨_, [], rfl, World.ownsRow_nil _ _ _ _, by simp, HC3.out.mono (by omega)⟩
        · by_cases t2 : t = 2
          · subst t2
            go_wp2_with fail
            go_loopw [3] (fun ov wr => ∃ (A : Option Addr) (C n : Nat) (ys : List Int), ov = .slice A n C ∧ n ≤ 61 ∧ Hid (n = ys.length) ∧ Hid (Ints wr (g + 1) ov ys) ∧ Hid (Cur w0 wr g cv (K + 78 + 4 * n))) (fun ov _ => 61 - lenS ov)
            case atStart => exact ⟨A0, C0, L, xs, rfl, by omega, HL, by rw [HL.out]; exact HI3, Lib.hid (HC3.out.mono (by omega))⟩
            case round =>
              obtain ⟨A, C, n, ys, rfl, hn, HN, HI, HW⟩ := hrel
              obtain ⟨wr1, hwr1⟩ : ∃ x, x = wr := ⟨_, rfl⟩
              subst hwr1
              go_wp2_with fail
              refine (pick_c w0 wr1 g _ 2 cv ns HA.out HW.out (by omega) (by omega) (by omega)).mono ?_
              rintro e w4 ⟨p, rfl, hp, hcu, hg⟩
              have HC4 := Lib.hid hcu; have HI4 := Lib.hid (ints_cur HI.out hg (by omega))
              clear hcu hg HI HW
              obtain ⟨P, hP⟩ : ∃ P : Nat, P = 60 + p := ⟨_, rfl⟩
              have hPI : (60 : Int) + (p : Int) = (P : Int) := by omega
              have hP61 : P ≤ 61 := by omega
              clear hP
              by_cases hlt : n < P
              · have hltI : (n : Int) < (P : Int) := by omega
                go_wp2_with fail
                refine (pick_c w0 w4 g _ 5 cv ns HA.out HC4.out (by omega) (by omega) (by omega)).mono ?_
                rintro e w5 ⟨y, rfl, hy, hcu, hg⟩
                have HC5 := Lib.hid hcu; have HI5 := Lib.hid (ints_cur HI4.out hg (by omega))
                have hB5 : g + 1 ≤ w5.heap.size := HC5.out.lt
                clear hcu hg HI4 HC4
                go_wp2_with (at_builtin; refine wpI_appB w5 rfl _ _ rfl (g + 1) (y : Int) HI5.out rfl rfl hB5 (by have := HN.out; omega) ?_; intro v6 w6 ho6 hg6; have HO6 := Lib.hid ho6; have HG6 := Lib.hid hg6; clear ho6 hg6)
                obtain ⟨A6, C6, hv6⟩ := own_slice HO6.out
                have hl6 : (ys ++ [(y : Int)]).length = n + 1 := by rw [List.length_append, ← HN.out]; rfl
                rw [hl6] at hv6
                subst hv6
                go_roundw
                case rel => exact ⟨A6, C6, n + 1, ys ++ [(y : Int)], rfl, by omega, Lib.hid hl6.symm, HO6, Lib.hid (((HC5.out.later (below_alloc _ _)).grown HG6.out (fun k hk => by have := ints_lt HI5.out k hk; omega)).mono (by omega))⟩
                case measure => simp [lenS] <;> omega
              · have hltI : ¬ (n : Int) < (P : Int) := by omega
                go_wp2_with fail
                go_ret
                exact ⟨_, ys, rfl, HI4.out, by have := HN.out; omega, HC4.out.mono (by omega)⟩
          · have e0 : ((t : Int) == 0) = false := beq_eq_false_iff_ne.2 (by omega)
            have e1 : ((t : Int) == 1) = false := beq_eq_false_iff_ne.2 (by omega)
            have e2 : ((t : Int) == 2) = false := beq_eq_false_iff_ne.2 (by omega)
            go_wp2_with fail
            go_ret
            exact ⟨_, xs, rfl, by have := HI3.out; rw [← HL.out] at this; exact this, by have := HL.out; omega, HC3.out.mono (by omega)⟩
    | succ r =>
      have hr12 : r ≤ 12 := by omega
      have hxl : xs.length ≤ 12 := by omega
      have HLR := Lib.hid hlr
      obtain ⟨J, hJ⟩ : ∃ J, J = xs.length := ⟨_, rfl⟩
      rw [← hJ] at HW hxl
      have HJ := Lib.hid hJ
      clear hlr hJ
      go_wp2_with fail
      refine (pick_c w0 wr0 g _ Kd cv ns HA.out HW.out (by omega) (by omega) (by omega)).mono ?_
      rintro e w3 ⟨a, rfl, ha9, hcu, hg⟩
      have HC3 := Lib.hid hcu; have HI3 := Lib.hid (ints_cur HI.out hg (by omega))
      clear hcu hg HI HW
      go_wp2_with fail
      refine (pick_c w0 w3 g _ 9 cv ns HA.out HC3.out (by omega) (by omega) (by omega)).mono ?_
      rintro e w4 ⟨b, rfl, hb9, hcu, hg⟩
      have HC4 := Lib.hid hcu; have HI4 := Lib.hid (ints_cur HI3.out hg (by omega))
      clear hcu hg HI3 HC3
      obtain ⟨q, hq⟩ : ∃ q : Nat, q = b / 8 := ⟨_, rfl⟩
      have hqI : (b : Int).tdiv 8 = (q : Int) := by rw [Int.tdiv_eq_ediv_of_nonneg (by omega)]; omega
      have hq1 : q ≤ 1 := by omega
      clear hq
      go_wp2_with fail
      refine (pick_c w0 w4 g _ 50 cv ns HA.out HC4.out (by omega) (by omega) (by omega)).mono ?_
      rintro e w5 ⟨c, rfl, hc9, hcu, hg⟩
      have HC5 := Lib.hid hcu; have HI5 := Lib.hid (ints_cur HI4.out hg (by omega))
      have hB5 : g + 1 ≤ w5.heap.size := HC5.out.lt
      clear hcu hg HI4 HC4
      obtain ⟨m, hm⟩ : ∃ m : Nat, m = q * c := ⟨_, rfl⟩
      have hmI : (q : Int) * (c : Int) = (m : Int) := by rw [hm]; push_cast; rfl
      have hm50 : m ≤ 50 := by
        have : q * c ≤ 1 * c := Nat.mul_le_mul_right c hq1
        omega
      obtain ⟨y, hy⟩ : ∃ y : Nat, y = a + m := ⟨_, rfl⟩
      have hyI : (a : Int) + (m : Int) = (y : Int) := by omega
      clear hm hy
      go_wp2_with (at_builtin; refine wpI_appB w5 rfl _ _ rfl (g + 1) (y : Int) HI5.out rfl rfl hB5 (by have := HJ.out; omega) ?_; intro v6 w6 ho6 hg6; have HO6 := Lib.hid ho6; have HG6 := Lib.hid hg6; clear ho6 hg6)
      go_roundw
      case rel => exact ⟨r, xs ++ [(y : Int)], by have := HLR.out; simp; omega, by go_num, HO6, Lib.hid (((HC5.out.later (below_alloc _ _)).grown HG6.out (fun k hk => by have := ints_lt HI5.out k hk; omega)).mono (by have := HJ.out; simp; omega))⟩
      case measure => simp [intOf] <;> omega

/-- A list is drawn. -/
def ListDr (w : World) (e : Ending) (w' : World) : Prop := ∃ v xs, e = .returned v ∧ Ints w' w.heap.size v xs ∧ xs.length ≤ 61 ∧ Below w.heap.size w w'
def ListNumDr (w : World) (e : Ending) (w' : World) : Prop := ∃ v xs, ∃ n : Int, e = .returned (.tuple #[v, .int .i64 n]) ∧ Ints w' w.heap.size v xs ∧ xs.length ≤ 61 ∧ (-1000 ≤ n ∧ n ≤ 2000) ∧ Below w.heap.size w w'
theorem ints_mono {w : World} {B B' : Nat} {v : Value} {xs : List Int} (h : Ints w B v xs) (hB : B' ≤ B) : Ints w B' v xs := own_mono h hB

set_option maxHeartbeats 1000000 in
theorem drawIsForm_c (w : World) (cv : Value) (ns : List Int) (ha : ArgY w cv ns) :
    Calls Try.prog 73 #[cv] w fun e w' => ListDr w e w' := by
  have HP := Lib.hid (placed_c w _ w.heap.size 0 cv ns ha (cur_new w cv) (by omega))
  have HA := Lib.hid ha
  obtain ⟨A, C, rfl, _⟩ := ha
  go_enter Try.func73, Try.ntmps73
  go_wp2_with fail
  refine HP.out.mono ?_
  rintro e w1 ⟨v, xs, rfl, hi, hl, hcu⟩
  have HC := Lib.hid hcu; have HI := Lib.hid hi
  have HPG := Lib.hid (plGood_any w1 _ v xs (intsA_of hi))
  clear hcu hi HP
  go_wp2_with fail
  refine HPG.out.mono ?_
  rintro e w2 ⟨rfl, rfl⟩
  clear HPG
  cases hp : plL xs with
  | false =>
    clear hp
    go_wp2_with fail
    go_ret
    exact ⟨v, xs, rfl, ints_mono HI.out (by omega), hl, HC.out.below⟩
  | true =>
    have HPL := Lib.hid hp
    clear hp
    go_wp2_with fail
    refine (one_c w w1 w.heap.size 400 3 _ ns HA.out HC.out (by omega) (by omega) (by omega)).mono ?_
    rintro e w3 ⟨b, rfl, hcu, hg⟩
    have HC3 := Lib.hid hcu; have HI3 := Lib.hid (ints_cur HI.out hg (by omega))
    clear hcu hg HC HI
    cases b with
    | true =>
      go_wp2_with fail
      go_ret
      exact ⟨v, xs, rfl, ints_mono HI3.out (by omega), hl, HC3.out.below⟩
    | false =>
      have hpl := plL_open HPL.out
      have HB := Lib.hid (plBacks_any w3 _ v xs (intsA_of HI3.out) hpl.1 (by omega))
      clear hpl
      go_wp2_with fail
      refine HB.out.mono ?_
      rintro e w4 ⟨u, rfl, hi, hb⟩
      have HC4 := Lib.hid (HC3.out.later hb); have HI4 := Lib.hid hi
      have hpl := plL_open HPL.out
      have HF := Lib.hid (plForm_any w4 _ u (bkL xs) (intsA_of hi) (by rw [bkL_len]; omega) (by rw [bkL_len]; omega) (okD_bkL xs))
      clear hi hb HB hpl
      go_wp2_with fail
      refine HF.out.mono ?_
      rintro e w5 ⟨u2, rfl, hi, hb⟩
      have HC5 := Lib.hid (HC4.out.later hb); have HI5 := Lib.hid hi
      have hsz : w.heap.size ≤ w4.heap.size := by have := HC4.out.lt; omega
      clear hi hb HF
      go_wp2_with fail
      go_ret
      exact ⟨u2, fmL (bkL xs), rfl, ints_mono HI5.out hsz, by rw [fmL_len, bkL_len]; exact hl, HC5.out.below⟩

/-! the laws' own helpers -/
set_option maxHeartbeats 1000000 in
theorem qSame_any (w : World) (Ba Bb : Nat) (va vb : Value) (xs ys : List Int) (ha : IntsA w Ba va xs) (hb : IntsA w Bb vb ys) :
    Calls Try.prog 16 #[va, vb] w fun e w' => e = .returned (.bool (decide (xs = ys))) ∧ Below w.heap.size w w' := by
  by_cases hl : xs.length = ys.length
  · rcases intsA_open ha with ⟨rfl, rfl⟩ | ⟨g, cap, E, rest, rfl, _, hg, _, hn, hcp, _, hca⟩
    · have hy0 : ys = [] := List.eq_nil_of_length_eq_zero hl.symm
      subst hy0
      have hvb : ∃ A C, vb = .slice A 0 C := by obtain ⟨A, C, h, _⟩ := intsA_slice hb; exact ⟨A, C, h⟩
      obtain ⟨A, C, rfl⟩ := hvb
      clear ha hb hl
      go_enter Try.func16, Try.ntmps16
      go_wp2_with fail
      refine wp_loop_rounds 1 ?_
      rw [rounds_succ]
      go_wp2
      go_ret
      exact ⟨rfl, Below.refl _ _⟩
    · rcases intsA_open hb with ⟨rfl, h0⟩ | ⟨g', cap', E', rest', rfl, _, hg', _, _, hcp', _, hcb⟩
      · subst h0
        have hx0 : xs = [] := List.eq_nil_of_length_eq_zero hl
        subst hx0
        clear ha hb hl
        go_enter Try.func16, Try.ntmps16
        go_wp2_with fail
        refine wp_loop_rounds 1 ?_
        rw [rounds_succ]
        go_wp2
        go_ret
        exact ⟨rfl, Below.refl _ _⟩
      · have HA := Lib.hid hca; have HB := Lib.hid hcb
        obtain ⟨N, hN⟩ : ∃ N, N = xs.length := ⟨_, rfl⟩
        have HN := Lib.hid hN
        have HL := Lib.hid hl
        clear ha hb hca hcb
        rw [← hl, ← hN]
        rw [← hN] at hn
        have hne : ((N : Int) != (N : Int)) = false := by simp
        clear hN hl
        go_enter Try.func16, Try.ntmps16
        go_wp2_with fail
        go_loopw [13] (fun i wr => ∃ (k : Nat), k ≤ N ∧ i = .int .i64 k ∧ Hid (xs.take k = ys.take k) ∧ Hid (Below w.heap.size w wr)) (fun i _ => N - (intOf i).toNat)
        case atStart => exact ⟨0, Nat.zero_le _, rfl, Lib.hid rfl, below_refl _⟩
        case round =>
          obtain ⟨k, hk, rfl, HT, HW⟩ := hrel
          by_cases hlt : k < N
          · have hkx : k < xs.length := by rw [← HN.out]; exact hlt
            have hky : k < ys.length := by rw [← HL.out]; exact hkx
            have h1 : wr.cell? ⟨g, k, none⟩ = some (.int .i64 xs[k]) := (HW.out.cell (p := ⟨g, k, none⟩) hg).trans (HA.out k hkx)
            have h2 : wr.cell? ⟨g', k, none⟩ = some (.int .i64 ys[k]) := (HW.out.cell (p := ⟨g', k, none⟩) hg').trans (HB.out k hky)
            obtain ⟨x, hx⟩ : ∃ x, x = xs[k] := ⟨_, rfl⟩
            obtain ⟨y, hy⟩ : ∃ y, y = ys[k] := ⟨_, rfl⟩
            rw [← hx] at h1
            rw [← hy] at h2
            have HX := Lib.hid hx; have HY := Lib.hid hy
            clear hx hy
            by_cases hxy : x = y
            · have hb : (x != y) = false := by simp [hxy]
              have HXY := Lib.hid hxy
              clear hxy
              go_wp2_with fail
              go_quiet (fail)
              go_wp2_with fail
              go_roundw
              case rel => exact ⟨k + 1, by omega, by go_num, Lib.hid (by rw [List.take_succ_eq_append_getElem hkx, List.take_succ_eq_append_getElem hky, HT.out, ← HX.out, ← HY.out, HXY.out]), HW.out.trans (belowN _ _ _)⟩
              case measure => simp [intOf] <;> omega
            · have hb : (x != y) = true := by simp [hxy]
              have hd : decide (xs = ys) = false := decide_eq_false (fun e => by
                apply hxy
                rw [HX.out, HY.out]
                subst e; rfl)
              have HD := Lib.hid hd
              clear hxy hd
              go_wp2_with fail
              go_quiet (fail)
              go_wp2_with fail
              go_ret
              exact ⟨congrArg (fun b => Ending.returned (.bool b)) HD.out.symm, HW.out.trans (belowN _ _ _)⟩
          · obtain rfl : k = N := by omega
            have hd : decide (xs = ys) = true := decide_eq_true (by
              have := HT.out
              rw [List.take_of_length_le (by rw [HN.out]; exact Nat.le_refl _), List.take_of_length_le (by rw [HN.out, HL.out]; exact Nat.le_refl _)] at this
              exact this)
            have HD := Lib.hid hd
            clear hd
            go_wp2_with fail
            go_ret
            exact ⟨congrArg (fun b => Ending.returned (.bool b)) HD.out.symm, HW.out⟩
  · have hd : decide (xs = ys) = false := decide_eq_false (fun e => hl (by rw [e]))
    obtain ⟨A, C, rfl, hc1, hc2⟩ := intsA_slice ha
    obtain ⟨A', C', rfl, hc3, hc4⟩ := intsA_slice hb
    have hne : (((xs.length : Nat) : Int) != ((ys.length : Nat) : Int)) = true := by simp; omega
    rw [hd]
    clear ha hb hd hl
    go_enter Try.func16, Try.ntmps16
    go_wp2_with fail
    go_ret
    exact ⟨rfl, Below.refl _ _⟩

set_option maxHeartbeats 1000000 in
theorem qHas_any (w : World) (B : Nat) (v : Value) (xs : List Int) (n : Int) (ha : IntsA w B v xs) :
    Calls Try.prog 20 #[v, .int .i64 n] w fun e w' => e = .returned (.bool (decide (n ∈ xs))) ∧ w = w' := by
  rcases intsA_open ha with ⟨rfl, rfl⟩ | ⟨g, cap, E, rest, rfl, _, hg, _, hn, hcp, _, hca⟩
  · clear ha
    go_enter Try.func20, Try.ntmps20
    go_wp2_with fail
    refine wp_loop_rounds 1 ?_
    rw [rounds_succ]
    go_wp2
    go_ret
    exact ⟨rfl, rfl⟩
  · have HA := Lib.hid hca
    obtain ⟨N, hN⟩ : ∃ N, N = xs.length := ⟨_, rfl⟩
    have HN := Lib.hid hN
    rw [← hN] at hn ⊢
    clear ha hca hN
    go_enter Try.func20, Try.ntmps20
    go_wp2_with fail
    go_loop [9] (fun i => ∃ (k : Nat), i = .int .i64 k ∧ k ≤ N ∧ Hid (n ∉ xs.take k)) (fun i => N - (intOf i).toNat)
    case atStart => exact ⟨0, rfl, Nat.zero_le _, Lib.hid (by simp)⟩
    case round =>
      obtain ⟨k, rfl, hk, HT⟩ := hrel
      by_cases hlt : k < N
      · have hkx : k < xs.length := by rw [← HN.out]; exact hlt
        have h1 : w.cell? ⟨g, k, none⟩ = some (.int .i64 xs[k]) := HA.out k hkx
        obtain ⟨x, hx⟩ : ∃ x, x = xs[k] := ⟨_, rfl⟩
        rw [← hx] at h1
        have HX := Lib.hid hx
        clear hx
        by_cases hxn : x = n
        · have hb : (x == n) = true := by simp [hxn]
          have hd : decide (n ∈ xs) = true := decide_eq_true (by rw [← hxn, HX.out]; exact List.getElem_mem _)
          have HD := Lib.hid hd
          clear hd hxn
          go_wp2_with fail
          go_ret
          exact ⟨congrArg (fun b => Ending.returned (.bool b)) HD.out.symm, rfl⟩
        · have hb : (x == n) = false := by simp [hxn]
          have HXN := Lib.hid hxn
          clear hxn
          go_wp2_with fail
          go_round
          case rel => exact ⟨k + 1, by go_num, by omega, Lib.hid (by
            rw [List.take_succ_eq_append_getElem hkx, List.mem_append, List.mem_singleton]
            rintro (h | h)
            · exact HT.out h
            · exact HXN.out (by rw [HX.out, h]))⟩
          case measure => simp [intOf] <;> omega
      · obtain rfl : k = N := by omega
        have hd : decide (n ∈ xs) = false := decide_eq_false (by
          have := HT.out
          rwa [List.take_of_length_le (by rw [HN.out]; exact Nat.le_refl _)] at this)
        have HD := Lib.hid hd
        clear hd
        go_wp2_with fail
        go_ret
        exact ⟨congrArg (fun b => Ending.returned (.bool b)) HD.out.symm, rfl⟩

set_option maxHeartbeats 1000000 in
theorem qSum_any (w : World) (B : Nat) (v : Value) (xs : List Int) (ha : IntsA w B v xs) (hx : ∀ x ∈ xs, 0 ≤ x ∧ x ≤ 1000) (hl : xs.length ≤ 100000) :
    Calls Try.prog 22 #[v] w fun e w' => e = .returned (.int .i64 xs.sum) ∧ w = w' := by
  rcases intsA_open ha with ⟨rfl, rfl⟩ | ⟨g, cap, E, rest, rfl, _, hg, _, hn, hcp, _, hca⟩
  · clear ha hx
    go_enter Try.func22, Try.ntmps22
    go_wp2_with fail
    refine wp_loop_rounds 1 ?_
    rw [rounds_succ]
    go_wp2
    go_ret
    exact ⟨rfl, rfl⟩
  · have HA := Lib.hid hca; have HX := Lib.hid hx
    obtain ⟨N, hN⟩ : ∃ N, N = xs.length := ⟨_, rfl⟩
    have HN := Lib.hid hN
    rw [← hN] at hn hl ⊢
    clear ha hca hN hx
    go_enter Try.func22, Try.ntmps22
    go_wp2_with fail
    go_loop [3, 8] (fun s i => ∃ (k : Nat) (q : Nat), i = .int .i64 k ∧ s = .int .i64 (q : Int) ∧ k ≤ N ∧ q ≤ 1000 * k ∧ Hid ((q : Int) = (xs.take k).sum)) (fun _ i => N - (intOf i).toNat)
    case atStart => exact ⟨0, 0, rfl, rfl, Nat.zero_le _, Nat.le_refl _, Lib.hid (by simp)⟩
    case round =>
      obtain ⟨k, q, rfl, rfl, hk, hq, HT⟩ := hrel
      by_cases hlt : k < N
      · have hkx : k < xs.length := by rw [← HN.out]; exact hlt
        have h1 : w.cell? ⟨g, k, none⟩ = some (.int .i64 xs[k]) := HA.out k hkx
        have hb := HX.out xs[k] (List.getElem_mem hkx)
        obtain ⟨x, hxe⟩ : ∃ x : Nat, (x : Int) = xs[k] := ⟨xs[k].toNat, by omega⟩
        rw [← hxe] at h1 hb
        have HXE := Lib.hid hxe
        have hx9 : x ≤ 1000 := by omega
        clear hxe hb
        go_wp2_with fail
        go_round
        case rel => exact ⟨k + 1, q + x, by go_num, by go_num, by omega, by omega, Lib.hid (by rw [List.take_succ_eq_append_getElem hkx, List.sum_append, ← HT.out, ← HXE.out]; simp)⟩
        case measure => simp [intOf] <;> omega
      · obtain rfl : k = N := by omega
        have hs : (q : Int) = xs.sum := by
          have := HT.out
          rwa [List.take_of_length_le (by rw [HN.out]; exact Nat.le_refl _)] at this
        have HS := Lib.hid hs
        clear hs
        go_wp2_with fail
        go_ret
        exact ⟨congrArg (fun b => Ending.returned (.int .i64 b)) HS.out, rfl⟩
end Go.Proofs.Ytpglkgpaaflikaa
