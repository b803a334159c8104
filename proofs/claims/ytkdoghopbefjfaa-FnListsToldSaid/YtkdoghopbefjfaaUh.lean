/- Lists that are drawn for chapter 3. -/
import Derived.Test.Ytkdoghopbefjfaau3
import Derived.Test.YtkdoghopbefjfaaUg
namespace Go.Proofs.Ytkdoghopbefjfaa
open Go.RowKit Go.BigFrame
set_option linter.unusedSimpArgs false
set_option linter.unusedVariables false
set_option maxRecDepth 4000

theorem lit_cellsH (w : World) (xs : List Int) (T : TypeId) : ∀ i (h : i < xs.length), (w.alloc (.cells (xs.map (Value.int .i64)).toArray T)).cell? ⟨w.heap.size, i, none⟩ = some (.int .i64 xs[i]) := by
  intro i h
  have hcl := heap_alloc_new w (.cells (xs.map (Value.int .i64)).toArray T)
  simp only [World.cell?, hcl]
  simp [h]

def lenS : Value → Nat
  | .slice _ n _ => n
  | _ => 0
/-- append(out, y), out a row of the call's own above a base. -/
theorem wpI_appB {ops : Array Oper} {rest : List Oper} {o : Oper} {a : Act} {Q : Exit → Act → World → Prop} (W : World) (hgd : o.guard = none) (s x : Operand)
    (ho : o.op = .call { callee := .builtin .append, args := #[s, x], argTypes := #[32, 32] })
    (B : Nat) {v : Value} {xs : List Int} (y : Int) (h : Ints W B v xs) (hs : a.eval s = v) (hx : a.eval x = .slice (some ⟨W.heap.size, 0, none⟩) 1 1) (hB : B ≤ W.heap.size) (hl : xs.length ≤ 1000000)
    (hK : ∀ v' w', Ints w' B v' (xs ++ [y]) → (W.alloc (.cells #[.int .i64 y] 3)).grownBy w' v.ownBlock → wpList Try.prog ops Q rest (a.put o.dst v') w') :
    wpList Try.prog ops Q (o :: rest) a (W.alloc (.cells #[.int .i64 y] 3)) := by
  obtain ⟨i0, hi, hz0, hz1, hz2⟩ := info_parts info_intT
  refine wpList_app _ hgd s x 32 ho B 3 i0 (.int .i64 0) 8 Try.underlying32 hi hz0 hz1 hz2 rfl v xs.length _ hs (World.ownsRow.alloc h _) ⟨W.heap.size, 0, none⟩ 1 1 [.int .i64 y] hx rfl (cell_one_new _ _ _) (by simp [Value.oneCell']) (by unfold maxLen; omega) (by omega) (by simp; omega) ?_
  intro v' w' ho' hgr hwh
  refine hK v' w' ?_ hgr
  unfold Ints; simpa using ho'
theorem Cur.grown {w0 W w' : World} {g K : Nat} {cv : Value} (hc : Cur w0 W g cv K) {row : Option Nat} (hgr : W.grownBy w' row) (hrow : ∀ b, row = some b → g < b) : Cur w0 w' g cv K := by
  have hlt := hc.lt
  obtain ⟨a, s, h1, h2, h3, h4⟩ := hc.obj
  refine ⟨⟨a, s, h1, h2, h3, (hgr.block g hlt (fun e => ?_)).trans h4⟩, hc.base, hc.below.grown hgr hc.below.size (fun k hk => ?_)⟩
  · have := hrow g e.symm; omega
  · have := hrow k hk; have := hc.base; omega
theorem ints_lt {w : World} {B : Nat} {v : Value} {xs : List Int} (h : Ints w B v xs) : ∀ b, v.ownBlock = some b → B ≤ b := fun b hb => (World.ownsRow.lt h b hb).1
theorem ints_cur {w w' : World} {B g : Nat} {v : Value} {xs : List Int} (h : Ints w B v xs) (hg : w.grownBy w' (some g)) (hlt : g < B) : Ints w' B v xs := by
  refine World.ownsRow.kept h hg ?_
  cases hv : v.ownBlock with
  | none => exact .inl rfl
  | some b => exact .inr fun e => by have := ints_lt h b hv; cases e; omega
theorem ints_below {w w' : World} {B : Nat} {v : Value} {xs : List Int} (h : Ints w B v xs) (hb : Below w.heap.size w w') : Ints w' B v xs := own_below h hb

/-- A row of numbers above a base. -/
def ArgB (w : World) (B : Nat) (u : Value) (ns : List Int) : Prop :=
  ∃ A C, u = .slice A ns.length C ∧ ns.length ≤ C ∧ C ≤ 9223372036854775807 ∧
    ∀ c (hc : c < ns.length), ∃ b o, A = some ⟨b, o, none⟩ ∧ B ≤ b ∧ b < w.heap.size ∧ w.cell? ⟨b, o + c, none⟩ = some (.int .i64 ns[c])
theorem ArgB.arg {w : World} {B : Nat} {u : Value} {ns : List Int} (h : ArgB w B u ns) : ArgL w u ns := by
  obtain ⟨A, C, h1, h2, h3, h4⟩ := h
  exact ⟨A, C, h1, h2, h3, fun c hc => by obtain ⟨b, o, e1, _, e2, e3⟩ := h4 c hc; exact ⟨b, o, e1, e2, e3⟩⟩
theorem ArgB.cur {w w' : World} {B g : Nat} {u : Value} {ns : List Int} (h : ArgB w B u ns) (hg : w.grownBy w' (some g)) (hlt : g < B) : ArgB w' B u ns := by
  obtain ⟨A, C, h1, h2, h3, h4⟩ := h
  refine ⟨A, C, h1, h2, h3, fun c hc => ?_⟩
  obtain ⟨b, o, e1, e0, e2, e3⟩ := h4 c hc
  exact ⟨b, o, e1, e0, Nat.lt_of_lt_of_le e2 hg.size, hg.cell e3 (fun e => absurd (show b = g by injection e) (by omega))⟩
theorem ArgB.below {w w' : World} {B : Nat} {u : Value} {ns : List Int} (h : ArgB w B u ns) (hb : Below w.heap.size w w') : ArgB w' B u ns := by
  obtain ⟨A, C, h1, h2, h3, h4⟩ := h
  refine ⟨A, C, h1, h2, h3, fun c hc => ?_⟩
  obtain ⟨b, o, e1, e0, e2, e3⟩ := h4 c hc
  exact ⟨b, o, e1, e0, Nat.lt_of_lt_of_le e2 hb.size, (hb.cell (p := ⟨b, o + c, none⟩) e2).trans e3⟩
theorem argB_of {w : World} {B : Nat} {u : Value} {ns : List Int} (h : Ints w B u ns) : ArgB w B u ns := by
  rcases ints_open h with ⟨rfl, rfl⟩ | ⟨g, cap, rfl, hB, hg, hn, hcp, hca, _⟩
  · exact ⟨none, 0, rfl, Nat.le_refl _, by omega, fun c hc => by simp at hc⟩
  · obtain ⟨A, C, e1, e2, e3, e4⟩ := argL_of_intsA (intsA_of h)
    refine ⟨A, C, e1, e2, e3, fun c hc => ?_⟩
    obtain ⟨b, o, f1, f2, f3⟩ := e4 c hc
    refine ⟨b, o, f1, ?_, f2, f3⟩
    cases e1
    cases f1
    exact hB
theorem argB_lit {w : World} {B b : Nat} {xs : List Int} (hB : B ≤ b) (hb : b < w.heap.size) (h9 : xs.length ≤ 1000) (h : ∀ i (hi : i < xs.length), w.cell? ⟨b, i, none⟩ = some (.int .i64 xs[i])) : ArgB w B (.slice (some ⟨b, 0, none⟩) xs.length xs.length) xs :=
  ⟨_, _, rfl, Nat.le_refl _, by omega, fun c hc => ⟨b, 0, rfl, hB, hb, by rw [Nat.zero_add]; exact h c hc⟩⟩

theorem alloc7 (w : World) (a0 a1 a2 a3 a4 a5 a6 : Obj) : (((((((w.alloc a0).alloc a1).alloc a2).alloc a3).alloc a4).alloc a5).alloc a6).heap[w.heap.size]? = some a0 ∧ (((((((w.alloc a0).alloc a1).alloc a2).alloc a3).alloc a4).alloc a5).alloc a6).heap[w.heap.size + 1]? = some a1 ∧ (((((((w.alloc a0).alloc a1).alloc a2).alloc a3).alloc a4).alloc a5).alloc a6).heap[w.heap.size + 2]? = some a2 ∧ (((((((w.alloc a0).alloc a1).alloc a2).alloc a3).alloc a4).alloc a5).alloc a6).heap[w.heap.size + 3]? = some a3 ∧ (((((((w.alloc a0).alloc a1).alloc a2).alloc a3).alloc a4).alloc a5).alloc a6).heap[w.heap.size + 4]? = some a4 ∧ (((((((w.alloc a0).alloc a1).alloc a2).alloc a3).alloc a4).alloc a5).alloc a6).heap[w.heap.size + 5]? = some a5 ∧ (((((((w.alloc a0).alloc a1).alloc a2).alloc a3).alloc a4).alloc a5).alloc a6).heap[w.heap.size + 6]? = some a6 ∧ (((((((w.alloc a0).alloc a1).alloc a2).alloc a3).alloc a4).alloc a5).alloc a6).heap.size = w.heap.size + 7 := by
  have s1 : (w.alloc a0).heap.size = w.heap.size + 1 := by simp
  have s2 : ((w.alloc a0).alloc a1).heap.size = w.heap.size + 2 := by simp
  have s3 : (((w.alloc a0).alloc a1).alloc a2).heap.size = w.heap.size + 3 := by simp
  have s4 : ((((w.alloc a0).alloc a1).alloc a2).alloc a3).heap.size = w.heap.size + 4 := by simp
  have s5 : (((((w.alloc a0).alloc a1).alloc a2).alloc a3).alloc a4).heap.size = w.heap.size + 5 := by simp
  have s6 : ((((((w.alloc a0).alloc a1).alloc a2).alloc a3).alloc a4).alloc a5).heap.size = w.heap.size + 6 := by simp
  have s7 : (((((((w.alloc a0).alloc a1).alloc a2).alloc a3).alloc a4).alloc a5).alloc a6).heap.size = w.heap.size + 7 := by simp
  have n0 := heap_alloc_new w a0
  have n1 := heap_alloc_new (w.alloc a0) a1
  rw [s1] at n1
  have n2 := heap_alloc_new ((w.alloc a0).alloc a1) a2
  rw [s2] at n2
  have n3 := heap_alloc_new (((w.alloc a0).alloc a1).alloc a2) a3
  rw [s3] at n3
  have n4 := heap_alloc_new ((((w.alloc a0).alloc a1).alloc a2).alloc a3) a4
  rw [s4] at n4
  have n5 := heap_alloc_new (((((w.alloc a0).alloc a1).alloc a2).alloc a3).alloc a4) a5
  rw [s5] at n5
  have n6 := heap_alloc_new ((((((w.alloc a0).alloc a1).alloc a2).alloc a3).alloc a4).alloc a5) a6
  rw [s6] at n6
  refine ⟨?_, ?_, ?_, ?_, ?_, ?_, n6, s7⟩
  · rw [heap_alloc_old _ _ (by omega), heap_alloc_old _ _ (by omega), heap_alloc_old _ _ (by omega), heap_alloc_old _ _ (by omega), heap_alloc_old _ _ (by omega), heap_alloc_old _ _ (by omega)]; exact n0
  · rw [heap_alloc_old _ _ (by omega), heap_alloc_old _ _ (by omega), heap_alloc_old _ _ (by omega), heap_alloc_old _ _ (by omega), heap_alloc_old _ _ (by omega)]; exact n1
  · rw [heap_alloc_old _ _ (by omega), heap_alloc_old _ _ (by omega), heap_alloc_old _ _ (by omega), heap_alloc_old _ _ (by omega)]; exact n2
  · rw [heap_alloc_old _ _ (by omega), heap_alloc_old _ _ (by omega), heap_alloc_old _ _ (by omega)]; exact n3
  · rw [heap_alloc_old _ _ (by omega), heap_alloc_old _ _ (by omega)]; exact n4
  · rw [heap_alloc_old _ _ (by omega)]; exact n5
theorem heap_lit {W : World} {b : Nat} {xs : List Int} {T : TypeId} (h : W.heap[b]? = some (.cells (xs.map (Value.int .i64)).toArray T)) : ∀ i (hi : i < xs.length), W.cell? ⟨b, i, none⟩ = some (.int .i64 xs[i]) := by
  intro i hi
  simp only [World.cell?, h]
  simp [hi]
theorem heap_cellV {W : World} {b i : Nat} {cs : Array Value} {T : TypeId} {v : Value} (h : W.heap[b]? = some (.cells cs T)) (hi : cs[i]? = some v) : W.cell? ⟨b, i, none⟩ = some v := by
  simp only [World.cell?, h]
  simpa using hi

set_option maxHeartbeats 4000000 in
theorem told_c (w0 w : World) (g K : Nat) (cv : Value) (ns : List Int) (ha : ArgY w0 cv ns) (hc : Cur w0 w g cv K) (hK : K ≤ 50000) :
    Calls Try.prog 81 #[.pointer (some ⟨g, 0, none⟩)] w fun e w' => ∃ v xs, e = .returned v ∧ ArgB w' (g + 1) v xs ∧ Cur w0 w' g cv (K + 100) := by
  have HP := Lib.hid (pick_c w0 w g K 8 cv ns ha hc (by omega) (by omega) (by omega))
  have HA := Lib.hid ha
  clear hc ha
  go_enter Try.func81, Try.ntmps81
  go_wp2_with fail
  refine HP.out.mono ?_
  rintro e w1 ⟨x0, rfl, hx0, hcu, hg⟩
  have HC2 := Lib.hid hcu
  clear hcu hg HP
  obtain ⟨x, hx⟩ : ∃ x : Nat, x = 1 + x0 := ⟨_, rfl⟩
  have hxI : (1 : Int) + (x0 : Int) = (x : Int) := by omega
  have hx12 : 1 ≤ x ∧ x ≤ 8 := by omega
  obtain ⟨x1, hx1⟩ : ∃ x1 : Nat, x1 = x + 1 := ⟨_, rfl⟩
  have hxI1 : (x : Int) + 1 = (x1 : Int) := by omega
  have hx19 : 1 ≤ x1 ∧ x1 ≤ 9 := by omega
  clear hx hx1
  go_wp2_with fail
  go_loopw [4, 5] (fun ov kv wr => ∃ (k : Nat) (xs : List Int), k ≤ x ∧ kv = .int .i64 (k : Int) ∧ Hid (xs.length = k) ∧ Hid (Ints wr (g + 1) ov xs) ∧ Hid (Cur w0 wr g cv (K + 2 + 4 * k))) (fun _ kv _ => x - (intOf kv).toNat)
  case atStart => exact ⟨0, [], Nat.zero_le _, rfl, Lib.hid rfl, Lib.hid (World.ownsRow_nil _ _ _ _), Lib.hid HC2.out⟩
  case round =>
    obtain ⟨k, xs, hk, rfl, HL, HI, HW⟩ := hrel
    obtain ⟨wr0, hwr0⟩ : ∃ x, x = wr := ⟨_, rfl⟩
    subst hwr0
    by_cases hlt : k < x
    · have hltI : (k : Int) < (x : Int) := by omega
      go_wp2_with fail
      refine (pick_c w0 wr0 g _ x1 cv ns HA.out HW.out (by omega) (by omega) (by omega)).mono ?_
      rintro e w3 ⟨a, rfl, ha9, hcu, hg⟩
      have HC3 := Lib.hid hcu; have HI3 := Lib.hid (ints_cur HI.out hg (by omega))
      clear hcu hg HI HW
      go_wp2_with fail
      refine (pick_c w0 w3 g _ 2 cv ns HA.out HC3.out (by omega) (by omega) (by omega)).mono ?_
      rintro e w4 ⟨b, rfl, hb9, hcu, hg⟩
      have HC4 := Lib.hid hcu; have HI4 := Lib.hid (ints_cur HI3.out hg (by omega))
      have hB5 : g + 1 ≤ w4.heap.size := HC4.out.lt
      clear hcu hg HI3 HC3
      obtain ⟨m, hm⟩ : ∃ m : Nat, m = a * b := ⟨_, rfl⟩
      have hmI : (a : Int) * (b : Int) = (m : Int) := by rw [hm]; push_cast; rfl
      have hm50 : m ≤ 100 := by
        have : a * b ≤ 9 * 2 := Nat.mul_le_mul (by omega) (by omega)
        omega
      clear hm
      go_wp2_with (at_builtin; refine wpI_appB w4 rfl _ _ rfl (g + 1) (m : Int) HI4.out rfl rfl hB5 (by have := HL.out; omega) ?_; intro v6 w6 ho6 hg6; have HO6 := Lib.hid ho6; have HG6 := Lib.hid hg6; clear ho6 hg6)
      go_roundw
      case rel => exact ⟨k + 1, xs ++ [(m : Int)], by omega, by go_num, Lib.hid (by rw [List.length_append, HL.out]; rfl), HO6, Lib.hid (((HC4.out.later (below_alloc _ _)).grown HG6.out (fun k hk => by have := ints_lt HI4.out k hk; omega)).mono (by omega))⟩
      case measure => simp [intOf] <;> omega
    · obtain rfl : k = x := by omega
      have hltI : ¬ (k : Int) < (k : Int) := by omega
      obtain ⟨A0, C0, hv0⟩ := own_slice HI.out
      rw [HL.out] at hv0
      subst hv0
      have HCx := Lib.hid (HW.out.mono (show K + 2 + 4 * k ≤ K + 40 by omega))
      clear HW
      go_wp2_with fail
      refine (pick_c w0 wr0 g (K + 40) 12 cv ns HA.out HCx.out (by omega) (by omega) (by omega)).mono ?_
      rintro e w3 ⟨t, rfl, ht, hcu, hg⟩
      have HC3 := Lib.hid hcu; have HI3 := Lib.hid (ints_cur HI.out hg (by omega))
      clear hcu hg HI HCx
      by_cases t0 : t = 0
      · subst t0
        go_wp2_with fail
        refine (pick_c w0 w3 g (K + 42) k cv ns HA.out HC3.out (by omega) (by omega) (by omega)).mono ?_
        rintro e w4 ⟨i, rfl, hi, hcu, hg⟩
        have HC4 := Lib.hid hcu; have HI4 := Lib.hid (ints_cur HI3.out hg (by omega))
        clear hcu hg HI3 HC3
        have hlt4 := HC4.out.lt
        have hrow : ∃ b, A0 = some ⟨b, 0, none⟩ ∧ g + 1 ≤ b := by
          rcases own_open HI4.out with ⟨_, h0, _⟩ | ⟨b, c, h1, h2, _⟩
          · have := HL.out; omega
          · cases h1; exact ⟨b, rfl, h2⟩
        obtain ⟨b, rfl, hgb⟩ := hrow
        have hx : ∀ i (h : i < [(-1 : Int), (x1 : Int), (k : Int), 4611686018427387904].length), (w4.alloc (.cells #[.int .i64 (-1), .int .i64 (x1 : Int), .int .i64 (k : Int), .int .i64 4611686018427387904] 3)).cell? ⟨w4.heap.size, i, none⟩ = some (.int .i64 [(-1 : Int), (x1 : Int), (k : Int), 4611686018427387904][i]) := lit_cellsH w4 [(-1 : Int), (x1 : Int), (k : Int), 4611686018427387904] 3
        have HX := Lib.hid hx
        clear hx
        go_wp2_with fail
        refine (among_c w0 _ g (K + 44) w4.heap.size 4 4 cv ns [(-1 : Int), (x1 : Int), (k : Int), 4611686018427387904] HA.out (HC4.out.later (below_alloc _ _)) (by omega) rfl (by omega) (by omega) (by omega) (by omega) (by omega) (by simp) HX.out).mono ?_
        rintro e w5 ⟨z, hz, rfl, hcu, hg⟩
        have HC5 := Lib.hid hcu; have HI5 := Lib.hid (ints_cur (ints_below HI4.out (below_alloc _ _)) hg (by omega))
        clear hcu hg hz HC4 HI4 HX
        have hil : i < xs.length := by have := HL.out; omega
        have hcell : ∃ q, w5.cell? ⟨b, i, none⟩ = some q := own_cell_some (n := xs.length) (xs := xs.map (.int .i64)) (cap := C0) (by have := HI5.out; unfold Ints at this; rw [HL.out]; rw [HL.out] at this; exact this) i hil
        obtain ⟨q, hq⟩ := hcell
        have hfr : w5.frozen? ⟨b, i, none⟩ = false := by
          rcases own_open HI5.out with ⟨h0, _⟩ | ⟨b', c, h1, _, _, _, _, _, _, h6⟩
          · cases h0
          · cases h1; exact h6 i
        have hiI : (i : Int) < (k : Int) := by omega
        go_wp2_with fail
        go_ret
        refine ⟨_, xs.set i z, rfl, argB_of ?_, (HC5.out.grown (grown_put w5 b i (.int .i64 z)) (fun k hk => by cases hk; omega)).mono (by omega)⟩
        have h5 := HI5.out
        unfold Ints at h5
        rw [HL.out] at h5
        have := (World.ownsRow.stored h5 i (.int .i64 z)).1
        unfold Ints
        rw [List.length_set, List.map_set, HL.out]
        exact this
      · by_cases t1 : t = 1
        · subst t1
          go_wp2_with fail
          go_ret
          exact ⟨_, [], rfl, argB_of (World.ownsRow_nil _ _ _ _), HC3.out.mono (by omega)⟩
        · by_cases t2 : t = 2
          · subst t2
            obtain ⟨f0, f1, f2, f3, f4, f5, f6, fs⟩ := alloc7 w3 (.cells #[.int .i64 1, .int .i64 2, .int .i64 1, .int .i64 0] 3) (.cells #[.int .i64 2, .int .i64 0, .int .i64 2, .int .i64 0] 3) (.cells #[.int .i64 2, .int .i64 1, .int .i64 2, .int .i64 0, .int .i64 0] 3) (.cells #[.int .i64 3, .int .i64 2, .int .i64 1, .int .i64 1, .int .i64 0, .int .i64 0, .int .i64 0] 3) (.cells #[.int .i64 0, .int .i64 0, .int .i64 0] 3) (.cells #[.int .i64 4, .int .i64 2, .int .i64 1, .int .i64 0, .int .i64 1, .int .i64 0, .int .i64 0, .int .i64 0] 3) (.cells #[.slice (some ⟨w3.heap.size, 0, none⟩) 4 4, .slice (some ⟨w3.heap.size + 1, 0, none⟩) 4 4, .slice (some ⟨w3.heap.size + 2, 0, none⟩) 5 5, .slice (some ⟨w3.heap.size + 3, 0, none⟩) 7 7, .slice (some ⟨w3.heap.size + 4, 0, none⟩) 3 3, .slice (some ⟨w3.heap.size + 5, 0, none⟩) 8 8] 32)
            have HF := Lib.hid (And.intro f0 (And.intro f1 (And.intro f2 (And.intro f3 (And.intro f4 (And.intro f5 (And.intro f6 fs)))))))
            have hlt3 := HC3.out.lt
            clear f0 f1 f2 f3 f4 f5 f6 fs
            go_wp2_with fail
            refine (pick_c w0 _ g (K + 42) 6 cv ns HA.out (((((((HC3.out.later (below_alloc _ _)).later (below_alloc _ _)).later (below_alloc _ _)).later (below_alloc _ _)).later (below_alloc _ _)).later (below_alloc _ _)).later (below_alloc _ _)) (by omega) (by omega) (by omega)).mono ?_
            rintro e w4 ⟨a, rfl, ha6, hcu, hg⟩
            have HC4 := Lib.hid hcu; have HG := Lib.hid hg
            obtain ⟨f0, f1, f2, f3, f4, f5, f6, fs⟩ := HF.out
            have hs4 : w3.heap.size + 7 ≤ w4.heap.size := fs ▸ hg.size
            clear hcu hg HI3 HC3
            have ha : a = 0 ∨ a = 1 ∨ a = 2 ∨ a = 3 ∨ a = 4 ∨ a = 5 := by omega
            rcases ha with rfl | rfl | rfl | rfl | rfl | rfl
            · have hc : w4.cell? ⟨w3.heap.size + 6, 0, none⟩ = some (.slice (some ⟨w3.heap.size, 0, none⟩) 4 4) := HG.out.cell (heap_cellV f6 rfl) (fun e => absurd (show w3.heap.size + 6 = g by injection e) (by omega))
              have hr : ∀ j (hj : j < [(1 : Int), 2, 1, 0].length), w4.cell? ⟨w3.heap.size, j, none⟩ = some (.int .i64 ([1, 2, 1, 0] : List Int)[j]) := fun j hj => HG.out.cell (heap_lit (xs := [1, 2, 1, 0]) f0 j hj) (fun e => absurd (show w3.heap.size = g by injection e) (by omega))
              have HR := Lib.hid hr
              clear f0 f1 f2 f3 f4 f5 f6 fs hr HF
              go_wp2_with fail
              go_ret
              exact ⟨_, [1, 2, 1, 0], rfl, argB_lit (by omega) (by omega) (by simp) HR.out, HC4.out.mono (by omega)⟩
            · have hc : w4.cell? ⟨w3.heap.size + 6, 1, none⟩ = some (.slice (some ⟨w3.heap.size + 1, 0, none⟩) 4 4) := HG.out.cell (heap_cellV f6 rfl) (fun e => absurd (show w3.heap.size + 6 = g by injection e) (by omega))
              have hr : ∀ j (hj : j < [(2 : Int), 0, 2, 0].length), w4.cell? ⟨w3.heap.size + 1, j, none⟩ = some (.int .i64 ([2, 0, 2, 0] : List Int)[j]) := fun j hj => HG.out.cell (heap_lit (xs := [2, 0, 2, 0]) f1 j hj) (fun e => absurd (show w3.heap.size + 1 = g by injection e) (by omega))
              have HR := Lib.hid hr
              clear f0 f1 f2 f3 f4 f5 f6 fs hr HF
              go_wp2_with fail
              go_ret
              exact ⟨_, [2, 0, 2, 0], rfl, argB_lit (by omega) (by omega) (by simp) HR.out, HC4.out.mono (by omega)⟩
            · have hc : w4.cell? ⟨w3.heap.size + 6, 2, none⟩ = some (.slice (some ⟨w3.heap.size + 2, 0, none⟩) 5 5) := HG.out.cell (heap_cellV f6 rfl) (fun e => absurd (show w3.heap.size + 6 = g by injection e) (by omega))
              have hr : ∀ j (hj : j < [(2 : Int), 1, 2, 0, 0].length), w4.cell? ⟨w3.heap.size + 2, j, none⟩ = some (.int .i64 ([2, 1, 2, 0, 0] : List Int)[j]) := fun j hj => HG.out.cell (heap_lit (xs := [2, 1, 2, 0, 0]) f2 j hj) (fun e => absurd (show w3.heap.size + 2 = g by injection e) (by omega))
              have HR := Lib.hid hr
              clear f0 f1 f2 f3 f4 f5 f6 fs hr HF
              go_wp2_with fail
              go_ret
              exact ⟨_, [2, 1, 2, 0, 0], rfl, argB_lit (by omega) (by omega) (by simp) HR.out, HC4.out.mono (by omega)⟩
            · have hc : w4.cell? ⟨w3.heap.size + 6, 3, none⟩ = some (.slice (some ⟨w3.heap.size + 3, 0, none⟩) 7 7) := HG.out.cell (heap_cellV f6 rfl) (fun e => absurd (show w3.heap.size + 6 = g by injection e) (by omega))
              have hr : ∀ j (hj : j < [(3 : Int), 2, 1, 1, 0, 0, 0].length), w4.cell? ⟨w3.heap.size + 3, j, none⟩ = some (.int .i64 ([3, 2, 1, 1, 0, 0, 0] : List Int)[j]) := fun j hj => HG.out.cell (heap_lit (xs := [3, 2, 1, 1, 0, 0, 0]) f3 j hj) (fun e => absurd (show w3.heap.size + 3 = g by injection e) (by omega))
              have HR := Lib.hid hr
              clear f0 f1 f2 f3 f4 f5 f6 fs hr HF
              go_wp2_with fail
              go_ret
              exact ⟨_, [3, 2, 1, 1, 0, 0, 0], rfl, argB_lit (by omega) (by omega) (by simp) HR.out, HC4.out.mono (by omega)⟩
            · have hc : w4.cell? ⟨w3.heap.size + 6, 4, none⟩ = some (.slice (some ⟨w3.heap.size + 4, 0, none⟩) 3 3) := HG.out.cell (heap_cellV f6 rfl) (fun e => absurd (show w3.heap.size + 6 = g by injection e) (by omega))
              have hr : ∀ j (hj : j < [(0 : Int), 0, 0].length), w4.cell? ⟨w3.heap.size + 4, j, none⟩ = some (.int .i64 ([0, 0, 0] : List Int)[j]) := fun j hj => HG.out.cell (heap_lit (xs := [0, 0, 0]) f4 j hj) (fun e => absurd (show w3.heap.size + 4 = g by injection e) (by omega))
              have HR := Lib.hid hr
              clear f0 f1 f2 f3 f4 f5 f6 fs hr HF
              go_wp2_with fail
              go_ret
              exact ⟨_, [0, 0, 0], rfl, argB_lit (by omega) (by omega) (by simp) HR.out, HC4.out.mono (by omega)⟩
            · have hc : w4.cell? ⟨w3.heap.size + 6, 5, none⟩ = some (.slice (some ⟨w3.heap.size + 5, 0, none⟩) 8 8) := HG.out.cell (heap_cellV f6 rfl) (fun e => absurd (show w3.heap.size + 6 = g by injection e) (by omega))
              have hr : ∀ j (hj : j < [(4 : Int), 2, 1, 0, 1, 0, 0, 0].length), w4.cell? ⟨w3.heap.size + 5, j, none⟩ = some (.int .i64 ([4, 2, 1, 0, 1, 0, 0, 0] : List Int)[j]) := fun j hj => HG.out.cell (heap_lit (xs := [4, 2, 1, 0, 1, 0, 0, 0]) f5 j hj) (fun e => absurd (show w3.heap.size + 5 = g by injection e) (by omega))
              have HR := Lib.hid hr
              clear f0 f1 f2 f3 f4 f5 f6 fs hr HF
              go_wp2_with fail
              go_ret
              exact ⟨_, [4, 2, 1, 0, 1, 0, 0, 0], rfl, argB_lit (by omega) (by omega) (by simp) HR.out, HC4.out.mono (by omega)⟩
          · by_cases t3 : t = 3
            · subst t3
              go_wp2_with fail
              refine (pick_c w0 w3 g (K + 42) 2 cv ns HA.out HC3.out (by omega) (by omega) (by omega)).mono ?_
              rintro e w4 ⟨p, rfl, hp, hcu, hg⟩
              have HC4 := Lib.hid hcu
              have hlt4 := HC4.out.lt
              clear hcu hg HI3 HC3
              obtain ⟨P, hP⟩ : ∃ P : Nat, P = 9 + p := ⟨_, rfl⟩
              have hPI : (9 : Int) + (p : Int) = (P : Int) := by omega
              have hP10 : P ≤ 10 := by omega
              obtain ⟨i0, hi, hz0, hz1, hz2⟩ := info_parts info_intT
              clear hP
              go_wp2_with (refine wpList_make_full _ rfl _ _ 32 rfl w4.heap.size 3 i0 (.int .i64 0) 1 Try.underlying32 hi hz0 hz1 .i64 .i64 (P : Int) (P : Int) P rfl rfl rfl rfl (by rw [hz2]; omega) (by unfold maxLen; omega) (Nat.le_refl _) ?_; intro w5 hown hgr; have HO := Lib.hid hown; have HB := Lib.hid ((Below.refl w4.heap.size w4).grown hgr (Nat.le_refl _) (fun k h => by cases h)); clear hown hgr)
              go_ret
              refine ⟨_, List.replicate P 0, rfl, argB_of ?_, (HC4.out.later HB.out).mono (by omega)⟩
              have e : (madeCells (Value.int .i64 0).cells (P * 1)).toList = (List.replicate P (0 : Int)).map (.int .i64) := by
                rw [Nat.mul_one, List.map_replicate]; exact toList_madeCells_one _ _
              have h1 := own_mono (e ▸ HO.out) (show g + 1 ≤ w4.heap.size from hlt4)
              unfold Ints
              rw [List.length_replicate]
              exact h1
            · have e0 : ((t : Int) == 0) = false := beq_eq_false_iff_ne.2 (by omega)
              have e1 : ((t : Int) == 1) = false := beq_eq_false_iff_ne.2 (by omega)
              have e2 : ((t : Int) == 2) = false := beq_eq_false_iff_ne.2 (by omega)
              have e3 : ((t : Int) == 3) = false := beq_eq_false_iff_ne.2 (by omega)
              go_wp2_with fail
              go_ret
              exact ⟨_, xs, rfl, argB_of HI3.out, HC3.out.mono (by omega)⟩

def ListA (w : World) (e : Ending) (w' : World) : Prop := ∃ v xs, e = .returned v ∧ ArgL w' v xs ∧ Below w.heap.size w w'
def ListNumA (w : World) (e : Ending) (w' : World) : Prop := ∃ v xs, ∃ n : Int, e = .returned (.tuple #[v, .int .i64 n]) ∧ ArgL w' v xs ∧ Below w.heap.size w w'
def NumA (w : World) (e : Ending) (w' : World) : Prop := ∃ n : Int, e = .returned (.int .i64 n) ∧ Below w.heap.size w w'

set_option maxHeartbeats 1000000 in
theorem drawTellList_c (w : World) (cv : Value) (ns : List Int) (ha : ArgY w cv ns) :
    Calls Try.prog 35 #[cv] w fun e w' => ListA w e w' := by
  have HP := Lib.hid (told_c w _ w.heap.size 0 cv ns ha (cur_new w cv) (by omega))
  obtain ⟨A, C, rfl, _⟩ := ha
  go_enter Try.func35, Try.ntmps35
  go_wp2_with fail
  refine HP.out.mono ?_
  rintro e w1 ⟨v, xs, rfl, hi, hcu⟩
  have HC := Lib.hid hcu.below; have HI := Lib.hid hi
  clear hcu hi
  go_wp2_with fail
  go_ret
  exact ⟨v, xs, rfl, HI.out.arg, HC.out⟩

set_option maxHeartbeats 1000000 in
theorem drawAllSelfTold_c (w : World) (cv : Value) (ns : List Int) (ha : ArgY w cv ns) :
    Calls Try.prog 43 #[cv] w fun e w' => NumA w e w' := by
  have HA := Lib.hid ha
  obtain ⟨A, C, rfl, _⟩ := ha
  have hx : ∀ i (h : i < [(1 : Int), 2, 3, 4, 5, 6, 7, 8, 9, 0, 10].length), ((w.alloc (.cells #[.slice A ns.length C, .int .i64 0, .int .u64 0] 78)).alloc (.cells #[.int .i64 1, .int .i64 2, .int .i64 3, .int .i64 4, .int .i64 5, .int .i64 6, .int .i64 7, .int .i64 8, .int .i64 9, .int .i64 0, .int .i64 10] 3)).cell? ⟨w.heap.size + 1, i, none⟩ = some (.int .i64 [(1 : Int), 2, 3, 4, 5, 6, 7, 8, 9, 0, 10][i]) := by
    have := lit_cellsH (w.alloc (.cells #[.slice A ns.length C, .int .i64 0, .int .u64 0] 78)) [1, 2, 3, 4, 5, 6, 7, 8, 9, 0, 10] 3
    rw [World.size_alloc] at this
    exact this
  have HX := Lib.hid hx
  clear hx
  go_enter Try.func43, Try.ntmps43
  go_wp2_with fail
  refine (among_c w _ w.heap.size 0 (w.heap.size + 1) 11 11 _ ns [1, 2, 3, 4, 5, 6, 7, 8, 9, 0, 10] HA.out ((cur_new w _).later (below_alloc _ _)) (by omega) rfl (by omega) (by omega) (by omega) (by omega) (by omega) (by simp only [World.size_alloc]; omega) HX.out).mono ?_
  rintro e w5 ⟨z, hz, rfl, hcu, hg⟩
  have HC5 := Lib.hid hcu.below
  clear hcu hg hz HX
  go_wp2_with fail
  go_ret
  exact ⟨_, rfl, HC5.out⟩

set_option maxHeartbeats 1000000 in
theorem drawWayOfTelling_c (w : World) (cv : Value) (ns : List Int) (ha : ArgY w cv ns) :
    Calls Try.prog 50 #[cv] w fun e w' => ListNumA w e w' := by
  have HP := Lib.hid (told_c w _ w.heap.size 0 cv ns ha (cur_new w cv) (by omega))
  have HA := Lib.hid ha
  obtain ⟨A, C, rfl, _⟩ := ha
  go_enter Try.func50, Try.ntmps50
  go_wp2_with fail
  refine HP.out.mono ?_
  rintro e w4 ⟨v, xs, rfl, hi, hcu⟩
  have HC4 := Lib.hid hcu; have HI4 := Lib.hid hi
  clear hcu hi HP
  have hlt := HC4.out.lt
  go_wp2_with fail
  refine (among_c w _ w.heap.size _ w4.heap.size 7 7 _ ns [0, 1, 2, 5, 40, 41, -1] HA.out (HC4.out.later (below_alloc _ _)) (by omega) rfl (by omega) (by omega) (by omega) (by omega) (by omega) (by simp) (lit_cellsH w4 _ _)).mono ?_
  rintro e w5 ⟨z, hz, rfl, hcu, hg⟩
  have HC5 := Lib.hid hcu.below; have HI5 := Lib.hid ((HI4.out.below (below_alloc _ _)).cur hg (by omega))
  clear hcu hg hz HC4 HI4
  go_wp2_with fail
  go_ret2
  exact ⟨v, xs, _, rfl, HI5.out.arg, HC5.out⟩
end Go.Proofs.Ytkdoghopbefjfaa
