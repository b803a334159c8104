/- Texts that belong together: u1, u2, u6, u5, u3. -/
import Derived.Test.YtkdoghopbefjfaaB
import Derived.Test.YtkdoghopbefjfaaA5
import Derived.Carry
import Derived.Deep.Matrix
import Derived.Deep.RegionWith
import Derived.Deep.RegionHeld3
import Derived.BigQuiet
import Derived.Deep.QuietTactic
/- The cursor of drawn inputs: it reads an argument's bytes and goes on behind their end. -/
namespace Go.Proofs.Ytkdoghopbefjfaa
open Go.RowKit Go.BigFrame Go.Deep
set_option linter.unusedSimpArgs false
set_option linter.unusedVariables false
set_option maxRecDepth 4000

/-- An argument's bytes. -/
def ArgY (w : World) (u : Value) (ns : List Int) : Prop :=
  ∃ A C, u = .slice A ns.length C ∧ ns.length ≤ C ∧ C ≤ 9223372036854775807 ∧
    ∀ c (hc : c < ns.length), ∃ b o, A = some ⟨b, o, none⟩ ∧ b < w.heap.size ∧ w.cell? ⟨b, o + c, none⟩ = some (.int .u8 ns[c]) ∧ 0 ≤ ns[c] ∧ ns[c] ≤ 255
theorem argY_below {w w' : World} {u : Value} {ns : List Int} (h : ArgY w u ns) (hb : Below w.heap.size w w') : ArgY w' u ns := by
  obtain ⟨A, C, h1, h2, h3, h4⟩ := h
  refine ⟨A, C, h1, h2, h3, fun c hc => ?_⟩
  obtain ⟨b, o, e1, e2, e3, e4⟩ := h4 c hc
  exact ⟨b, o, e1, Nat.lt_of_lt_of_le e2 hb.size, (hb.cell (p := ⟨b, o + c, none⟩) e2).trans e3, e4⟩
section
open Go.ChangeShapes Go.WideShapes Go.Deep
theorem add_plainY (b o r : Nat) : (⟨b, o, none⟩ : Addr).add r = ⟨b, o + r, none⟩ := by
  unfold Addr.add
  split
  · subst_vars; rfl
  · rfl
/-- The argument, opened. -/
theorem argY_of_trod {H : Type} {enc : TypeId × Value → H} {W : World} {a0 : Option Addr} {len cap : Nat} {d0 : DataW H} {p0 : List MemPlace}
    (h0 : DataW.Trod enc Try.prog W 0 (fun _ => true) true 22 (.slice a0 len cap) d0 p0) : ∃ ns, ArgY W (.slice a0 len cap) ns := by
  obtain ⟨fuel0, hf⟩ := h0
  rcases open_ints Try.underlying22 Try.underlying5 (by kernel_rfl) hf with ⟨hcs0, hx⟩ | ⟨a, len', cap', zs, hcs0, _, hl, hm, hlen, hx, hcell, hwf⟩
  · simp [Value.cells] at hcs0
    obtain ⟨rfl, rfl, rfl⟩ := hcs0
    exact ⟨[], none, 0, rfl, Nat.le_refl _, by omega, fun r hr => by simp at hr⟩
  · simp [Value.cells] at hcs0
    obtain ⟨rfl, rfl, rfl⟩ := hcs0
    simp at hlen
    unfold maxLen at hm
    refine ⟨zs.take len, some a, cap, by simp; omega, by simp; omega, by omega, fun c hc => ?_⟩
    have hcl : c < len := by simp at hc; omega
    obtain ⟨b, o, spot⟩ := a
    have hs2 : spot = none := by simpa [Addr.add] using World.cell?_spot (hcell 0 (by omega))
    subst hs2
    have h7 : W.cell? ⟨b, o + c, none⟩ = some (.int .u8 (zs.getD c 0)) := by rw [← hcell c (by omega), add_plainY]
    refine ⟨b, o, rfl, World.block_lt_of_cell? _ _ h7, ?_, ?_⟩
    · rw [h7]
      simp [List.getD, show c < zs.length by omega]
    · have hc2 : c < zs.length := by omega
      have := hwf (zs[c]'hc2) (List.getElem_mem hc2)
      simp [Lit.wf, IntKind.min, IntKind.max, IntKind.signed, IntKind.bits] at this
      simp only [List.getElem_take]
      omega
end

/-- A cursor in block g, at most K bytes on. -/
structure Cur (w0 wr : World) (g : Nat) (cv : Value) (K : Nat) : Prop where
  obj : ∃ (a : Nat) (s : Int), a ≤ K ∧ 0 ≤ s ∧ s < 18446744073709551616 ∧ wr.heap[g]? = some (.cells #[cv, .int .i64 a, .int .u64 s] 78 (0, 0))
  base : w0.heap.size ≤ g
  below : Below w0.heap.size w0 wr
theorem Cur.lt {w0 wr : World} {g K : Nat} {cv : Value} (h : Cur w0 wr g cv K) : g < wr.heap.size := by
  obtain ⟨a, s, _, _, _, h4⟩ := h.obj
  exact (Array.getElem?_eq_some_iff.1 h4).1
/-- What has left the cursor's block as it was. -/
theorem Cur.later {w0 wr w' : World} {g K : Nat} {cv : Value} (h : Cur w0 wr g cv K) (hb : Below wr.heap.size wr w') : Cur w0 w' g cv K := by
  have hlt := h.lt
  obtain ⟨a, s, h1, h2, h3, h4⟩ := h.obj
  exact ⟨⟨a, s, h1, h2, h3, (hb.block g hlt).trans h4⟩, h.base, h.below.trans (hb.mono h.below.size)⟩
theorem Cur.mono {w0 wr : World} {g K K' : Nat} {cv : Value} (h : Cur w0 wr g cv K) (hk : K ≤ K') : Cur w0 wr g cv K' := by
  obtain ⟨a, s, h1, h2, h3, h4⟩ := h.obj
  exact ⟨⟨a, s, by omega, h2, h3, h4⟩, h.base, h.below⟩

/-- Three cells of a block. -/
structure TriC (w : World) (g : Nat) (a b c : Value) : Prop where
  c0 : w.cell? ⟨g, 0, none⟩ = some a
  c1 : w.cell? ⟨g, 1, none⟩ = some b
  c2 : w.cell? ⟨g, 2, none⟩ = some c
  f0 : w.frozen? ⟨g, 0, none⟩ = false
  f1 : w.frozen? ⟨g, 1, none⟩ = false
  f2 : w.frozen? ⟨g, 2, none⟩ = false
theorem tri_cells {w : World} {g : Nat} {a b c : Value} {T : TypeId} (h : w.heap[g]? = some (.cells #[a, b, c] T (0, 0))) : TriC w g a b c := by
  refine ⟨?_, ?_, ?_, ?_, ?_, ?_⟩
  · simp only [World.cell?, h]; rfl
  · simp only [World.cell?, h]; rfl
  · simp only [World.cell?, h]; rfl
  · simp only [World.frozen?, h]; simp
  · simp only [World.frozen?, h]; simp
  · simp only [World.frozen?, h]; simp
theorem tri_put1 {w : World} {g : Nat} {a b c : Value} {T : TypeId} (h : w.heap[g]? = some (.cells #[a, b, c] T (0, 0))) (x : Value) : (w.setCell ⟨g, 1, none⟩ x).heap[g]? = some (.cells #[a, x, c] T (0, 0)) := by
  have hg := (Array.getElem?_eq_some_iff.1 h).1
  simp [World.setCell, hg]
  rw [Array.getElem_modify_self]
  have h2 := (Array.getElem?_eq_some_iff.1 h).2
  rw [h2]; rfl
theorem tri_put2 {w : World} {g : Nat} {a b c : Value} {T : TypeId} (h : w.heap[g]? = some (.cells #[a, b, c] T (0, 0))) (x : Value) : (w.setCell ⟨g, 2, none⟩ x).heap[g]? = some (.cells #[a, b, x] T (0, 0)) := by
  have hg := (Array.getElem?_eq_some_iff.1 h).1
  simp [World.setCell, hg]
  rw [Array.getElem_modify_self]
  have h2 := (Array.getElem?_eq_some_iff.1 h).2
  rw [h2]; rfl
theorem grown_put (w : World) (g o : Nat) (x : Value) : w.grownBy (w.setCell ⟨g, o, none⟩ x) (some g) :=
  ⟨rfl, rfl, rfl, by simp, fun k _ hne => Below.heap_setCell _ _ _ _ (fun e => hne (by rw [e]))⟩
theorem grown_put2 (w : World) (n g : Nat) (x y : Value) : w.grownBy (((w.drewN n).setCell ⟨g, 1, none⟩ x).setCell ⟨g, 2, none⟩ y) (some g) := by
  have h0 : w.grownBy (w.drewN n) (some g) := ⟨rfl, rfl, rfl, Nat.le_refl _, fun _ _ _ => rfl⟩
  exact (h0.trans (grown_put _ g 1 x)).trans (grown_put _ g 2 y)
theorem grown_draw (w w' : World) (n g : Nat) (h : w.grownBy w' (some g)) : w.grownBy (w'.drewN n) (some g) :=
  ⟨h.os, h.tape, h.output, h.size, h.block⟩
theorem Cur.put {w0 w : World} {g K : Nat} {cv : Value} (hc : Cur w0 w g cv K) {a : Nat} {s s' : Int} (ha : a ≤ K) (h0 : 0 ≤ s') (h1 : s' < 18446744073709551616)
    (hobj : w.heap[g]? = some (.cells #[cv, .int .i64 (a : Int), .int .u64 s] 78 (0, 0))) (n : Nat) :
    Cur w0 (((w.drewN n).setCell ⟨g, 1, none⟩ (.int .i64 ((a : Int) + 1))).setCell ⟨g, 2, none⟩ (.int .u64 s')) g cv (K + 1) :=
  ⟨⟨a + 1, s', by omega, h0, h1, tri_put2 (tri_put1 (w := w.drewN n) hobj _) _⟩, hc.base, hc.below.grown (grown_put2 w n g _ _) hc.below.size (fun k hk => by cases hk; exact hc.base)⟩
theorem Cur.draw {w0 w : World} {g K : Nat} {cv : Value} (hc : Cur w0 w g cv K) (n : Nat) : Cur w0 (w.drewN n) g cv K :=
  ⟨hc.obj, hc.base, hc.below.trans (belowN _ _ _)⟩
theorem u64_in (x : Int) : 0 ≤ IntKind.u64.wrap x ∧ IntKind.u64.wrap x < 18446744073709551616 := by rw [IntKind.wrap_u64]; omega
theorem seed_byte (v : Int) (h0 : 0 ≤ v) (h1 : v < 18446744073709551616) : bits .and .u64 (v / 1099511627776) 255 = v / 1099511627776 % 256 :=
  bits_mask .u64 63 (by decide) (fun n h₀ h₁ => by rw [IntKind.wrap_u64]; omega) 8 (by decide) _ (by omega) (by omega)

set_option maxHeartbeats 4000000 in
theorem next_c (w0 w : World) (g K : Nat) (cv : Value) (ns : List Int) (ha : ArgY w0 cv ns) (hc : Cur w0 w g cv K) (hK : K ≤ 1000000000) :
    Calls Try.prog 109 #[.pointer (some ⟨g, 0, none⟩)] w fun e w' => ∃ x : Nat, e = .returned (.int .i64 (x : Int)) ∧ x ≤ 255 ∧ Cur w0 w' g cv (K + 1) ∧ w.grownBy w' (some g) := by
  obtain ⟨A, C, rfl, hC, hCm, hcell⟩ := ha
  obtain ⟨a, s, haK, hs0, hs1, hobj⟩ := hc.obj
  obtain ⟨c0, c1, c2, f0, f1, f2⟩ := tri_cells hobj
  obtain ⟨N, hN⟩ : ∃ N, N = ns.length := ⟨_, rfl⟩
  rw [← hN] at hC c0 hobj hc ⊢
  have HOBJ := Lib.hid hobj; have HC := Lib.hid hc
  by_cases hlt : a < N
  · obtain ⟨b, o, rfl, hb, hcl, hx0, hx9⟩ := hcell a (by omega)
    have hcw := (hc.below.cell (p := ⟨b, o + a, none⟩) hb).trans hcl
    have hbg : b ≠ g := by have := hc.base; omega
    generalize (ns[a]'(by omega)) = x at hcw hx0 hx9
    clear hcell hobj hc hcl hN
    go_enter Try.func109, Try.ntmps109
    go_wp2_with fail
    go_quiet (fail)
    revert nq; intro q1
    go_wp2_with fail
    go_quiet (fail)
    go_wp2_with fail
    obtain ⟨s', hs'⟩ : ∃ s', s' = IntKind.u64.wrap (IntKind.u64.wrap (IntKind.u64.wrap (s * 6364136223846793005) + x) + 1442695040888963407) := ⟨_, rfl⟩
    have hb' := u64_in (IntKind.u64.wrap (IntKind.u64.wrap (s * 6364136223846793005) + x) + 1442695040888963407)
    rw [← hs'] at hb' ⊢
    have HG := Lib.hid (grown_put2 w (q1 + nq) g (.int .i64 ((a : Int) + 1)) (.int .u64 s'))
    have hcu := HC.out.put haK hb'.1 hb'.2 HOBJ.out (q1 + nq)
    have HCU := Lib.hid hcu
    clear c0 c1 c2 f0 f1 f2
    obtain ⟨c0, c1, c2, f0, f1, f2⟩ := tri_cells (tri_put2 (tri_put1 (w := w.drewN (q1 + nq)) HOBJ.out (.int .i64 ((a : Int) + 1))) (.int .u64 s'))
    generalize ((w.drewN (q1 + nq)).setCell ⟨g, 1, none⟩ (.int .i64 ((a : Int) + 1))).setCell ⟨g, 2, none⟩ (.int .u64 s') = w2 at *
    clear hs' hcu
    have hle : ((a : Int) + 1 ≤ (N : Int)) = True := by simp; omega
    go_quiet (fail)
    go_wp2_with fail
    go_ret
    exact ⟨x.toNat, ret_int (by omega), by omega, HCU.out.draw _, grown_draw _ _ _ _ HG.out⟩
  · clear hcell hobj hc hN
    go_enter Try.func109, Try.ntmps109
    go_wp2_with fail
    go_quiet (fail)
    go_wp2_with fail
    obtain ⟨s', hs'⟩ : ∃ s', s' = IntKind.u64.wrap (IntKind.u64.wrap (IntKind.u64.wrap (s * 6364136223846793005)) + 1442695040888963407) := ⟨_, rfl⟩
    have hb' := u64_in (IntKind.u64.wrap (IntKind.u64.wrap (s * 6364136223846793005)) + 1442695040888963407)
    rw [← hs'] at hb' ⊢
    have HG := Lib.hid (grown_put2 w nq g (.int .i64 ((a : Int) + 1)) (.int .u64 s'))
    have hcu := HC.out.put haK hb'.1 hb'.2 HOBJ.out nq
    have HCU := Lib.hid hcu
    clear c0 c1 c2 f0 f1 f2
    obtain ⟨c0, c1, c2, f0, f1, f2⟩ := tri_cells (tri_put2 (tri_put1 (w := w.drewN nq) HOBJ.out (.int .i64 ((a : Int) + 1))) (.int .u64 s'))
    generalize ((w.drewN nq).setCell ⟨g, 1, none⟩ (.int .i64 ((a : Int) + 1))).setCell ⟨g, 2, none⟩ (.int .u64 s') = w2 at *
    clear hs' hcu
    have hle : ((a : Int) + 1 ≤ (N : Int)) = False := by simp; omega
    have hsb := seed_byte s' hb'.1 hb'.2
    go_quiet (fail)
    go_wp2_with fail
    go_ret
    exact ⟨(s' / 1099511627776 % 256).toNat, ret_int (by omega), by omega, HCU.out.draw _, grown_draw _ _ _ _ HG.out⟩

set_option maxHeartbeats 4000000 in
theorem pick_c (w0 w : World) (g K n : Nat) (cv : Value) (ns : List Int) (ha : ArgY w0 cv ns) (hc : Cur w0 w g cv K) (hK : K ≤ 100000000) (hn : 1 ≤ n) (hn9 : n ≤ 1000000) :
    Calls Try.prog 99 #[.pointer (some ⟨g, 0, none⟩), .int .i64 (n : Int)] w fun e w' => ∃ x : Nat, e = .returned (.int .i64 (x : Int)) ∧ x < n ∧ Cur w0 w' g cv (K + 2) ∧ w.grownBy w' (some g) := by
  by_cases h1 : n ≤ 1
  · have HC := Lib.hid (hc.mono (show K ≤ K + 2 by omega))
    clear hc
    go_enter Try.func99, Try.ntmps99
    go_wp2_with fail
    go_ret
    exact ⟨0, rfl, by omega, HC.out, World.grownBy.refl _ _⟩
  · have HN := Lib.hid (next_c w0 w g K cv ns ha hc (by omega))
    have HA := Lib.hid ha
    clear hc ha
    go_enter Try.func99, Try.ntmps99
    go_wp2_with fail
    refine HN.out.mono ?_
    rintro e w1 ⟨x, rfl, hx, hcu, hg⟩
    by_cases h2 : 200 < n
    · have HN2 := Lib.hid (next_c w0 w1 g (K + 1) cv ns HA.out hcu (by omega))
      have HG := Lib.hid hg
      clear hcu hg
      go_wp2_with fail
      refine HN2.out.mono ?_
      rintro e w2 ⟨x2, rfl, hx2, hcu, hg⟩
      have HG2 := Lib.hid (HG.out.trans hg); have HC := Lib.hid hcu
      clear hg hcu
      have hm : ((x : Int) * 256 + (x2 : Int)).tmod (n : Int) = (((x * 256 + x2) % n : Nat) : Int) := by rw [Int.tmod_eq_emod_of_nonneg (by omega)]; push_cast; rfl
      have hlt := Nat.mod_lt (x * 256 + x2) (show 0 < n by omega)
      generalize (x * 256 + x2) % n = y at hm hlt
      go_wp2_with fail
      go_ret
      exact ⟨y, rfl, hlt, HC.out, HG2.out⟩
    · have HG := Lib.hid hg; have HC := Lib.hid (hcu.mono (show K + 1 ≤ K + 2 by omega))
      clear hcu hg
      have hm : (x : Int).tmod (n : Int) = ((x % n : Nat) : Int) := by rw [Int.tmod_eq_emod_of_nonneg (by omega)]; push_cast; rfl
      have hlt := Nat.mod_lt x (show 0 < n by omega)
      generalize x % n = y at hm hlt
      go_wp2_with fail
      go_ret
      exact ⟨y, rfl, hlt, HC.out, HG.out⟩
theorem one_c (w0 w : World) (g K n : Nat) (cv : Value) (ns : List Int) (ha : ArgY w0 cv ns) (hc : Cur w0 w g cv K) (hK : K ≤ 100000000) (hn : 1 ≤ n) (hn9 : n ≤ 1000000) :
    Calls Try.prog 76 #[.pointer (some ⟨g, 0, none⟩), .int .i64 (n : Int)] w fun e w' => ∃ b : Bool, e = .returned (.bool b) ∧ Cur w0 w' g cv (K + 2) ∧ w.grownBy w' (some g) := by
  have HP := Lib.hid (pick_c w0 w g K n cv ns ha hc hK hn hn9)
  clear ha hc
  go_enter Try.func76, Try.ntmps76
  go_wp2_with fail
  refine HP.out.mono ?_
  rintro e w1 ⟨x, rfl, hx, hcu, hg⟩
  have HG := Lib.hid hg; have HC := Lib.hid hcu
  clear hcu hg
  go_wp2_with fail
  go_ret
  exact ⟨_, rfl, HC.out, HG.out⟩
set_option maxHeartbeats 1000000 in
theorem among_c (w0 w : World) (g K b L c : Nat) (cv : Value) (ns xs : List Int) (ha : ArgY w0 cv ns) (hc : Cur w0 w g cv K) (hK : K ≤ 100000000) (hL : xs.length = L) (h1 : 1 ≤ L) (h9 : L ≤ 100000) (hLc : L ≤ c) (hc9 : c ≤ 9223372036854775807)
    (hbg : b ≠ g) (hb : b < w.heap.size) (hx : ∀ i (h : i < xs.length), w.cell? ⟨b, i, none⟩ = some (.int .i64 xs[i])) :
    Calls Try.prog 69 #[.pointer (some ⟨g, 0, none⟩), .slice (some ⟨b, 0, none⟩) L c] w fun e w' => ∃ x ∈ xs, e = .returned (.int .i64 x) ∧ Cur w0 w' g cv (K + 2) ∧ w.grownBy w' (some g) := by
  have HP := Lib.hid (pick_c w0 w g K L cv ns ha hc hK h1 (by omega))
  have HX := Lib.hid hx; have HL := Lib.hid hL
  clear ha hc hx hL
  go_enter Try.func69, Try.ntmps69
  go_wp2_with fail
  refine HP.out.mono ?_
  rintro e w1 ⟨x, rfl, hx, hcu, hg⟩
  have hxl : x < xs.length := by rw [HL.out]; exact hx
  have hcell : w1.cell? ⟨b, x, none⟩ = some (.int .i64 xs[x]) := hg.cell (HX.out x hxl) (fun e => hbg (by injection e))
  have hmem := List.getElem_mem hxl
  have HM := Lib.hid hmem
  generalize xs[x] = y at hcell HM
  have HG := Lib.hid hg; have HC := Lib.hid hcu
  clear hcu hg hmem hxl
  go_wp2_with fail
  go_ret
  exact ⟨y, HM.out, rfl, HC.out, HG.out⟩
end Go.Proofs.Ytkdoghopbefjfaa

/- Places that are drawn. -/
namespace Go.Proofs.Ytkdoghopbefjfaa
open Go.RowKit Go.BigFrame Go.Deep
set_option linter.unusedSimpArgs false
set_option linter.unusedVariables false
set_option maxRecDepth 4000

/-- A number is drawn: some number of Go's, and nothing else is left of the drawing. -/
def Drawn (w : World) (e : Ending) (w' : World) : Prop := ∃ x : Int, e = .returned (.int .i64 x) ∧ (Lit.int .i64 x).wf = true ∧ Below w.heap.size w w'

/-- A cursor that has just been made. -/
theorem cur_new (w : World) (cv : Value) : Cur w (w.alloc (.cells #[cv, .int .i64 0, .int .u64 0] 78)) w.heap.size cv 0 :=
  ⟨⟨0, 0, Nat.le_refl _, by omega, by omega, heap_alloc_new w _⟩, Nat.le_refl _, below_alloc _ _⟩

end Go.Proofs.Ytkdoghopbefjfaa

/- What is said of any digits, noughts too: the model's woRuns, woSay, woTimes. -/
namespace Go.Proofs.Ytkdoghopbefjfaa
open Go.RowKit Go.BigFrame
set_option linter.unusedSimpArgs false
set_option linter.unusedVariables false
set_option maxRecDepth 4000

def digZ (c : UInt8) : Bool := decide (48 ≤ c.toNat ∧ c.toNat ≤ 57)
theorem dig_atZ (s : ByteArray) (h : s.data.toList.all digZ = true) (k : Nat) (hk : k < s.size) : 48 ≤ s[k].toNat ∧ s[k].toNat ≤ 57 := by
  have h2 := List.all_eq_true.1 h (s.data.toList[k]'(by simpa using hk)) (List.getElem_mem _)
  have e : s.data.toList[k]'(by simpa using hk) = s[k] := by simp; rfl
  rw [e] at h2
  simpa [digZ] using h2
theorem runs_digZ {l : List UInt8} (h : l.all digZ = true) {k : Nat} (hk : k < (runsL l).length) : 48 ≤ (runsL l)[k].1.toNat ∧ (runsL l)[k].1.toNat ≤ 57 := by
  have := runsL_mem (fun c => 48 ≤ c.toNat ∧ c.toNat ≤ 57) l (fun c hc => by simpa [digZ] using List.all_eq_true.1 h c hc) _ (List.getElem_mem hk)
  exact this
set_option maxHeartbeats 1000000 in
theorem woRuns_z (s : ByteArray) (w : World) (hs : s.size ≤ 400) (hd : s.data.toList.all digZ = true) :
    Calls Try.prog 121 #[.string s] w fun e w' => ∃ v vs, e = .returned v ∧ OwnsRR w' w.heap.size 32 3 v vs (rowsL s.data.toList) ∧ Below w.heap.size w w' := by
  obtain ⟨i0, hi, hz0, hz1, hz2⟩ := info_parts info_ints
  go_enter Try.func121, Try.ntmps121
  go_wp2
  go_loopw [3, 4] (fun v i wr => ∃ k : Nat, k ≤ s.size ∧ i = .int .i64 k ∧ (∃ vs, OwnsRR wr w.heap.size 32 3 v vs (rowsL (s.data.toList.take k))) ∧ Below w.heap.size w wr) (fun _ i _ => s.size - (intOf i).toNat)
  case atStart => exact ⟨0, Nat.zero_le _, rfl, ⟨[], ownsRR_nil _ _ _ _⟩, Below.refl _ _⟩
  case round =>
    obtain ⟨k, hk, rfl, ⟨vs, hrr⟩, hb⟩ := hrel
    have HX := Lib.hid hrr
    clear hrr
    by_cases hlt : k < s.size
    · obtain ⟨hd1, hd2⟩ := dig_atZ s hd k hlt
      have hvl : vs.length ≤ k := by rw [← HX.out.len]; simp [rowsL]; exact Nat.le_trans (runsL_len _) (by simp; omega)
      by_cases hsame : 0 < k ∧ s[k]? = s[k - 1]?
      · obtain ⟨m, rfl⟩ : ∃ m, k = m + 1 := ⟨k - 1, by omega⟩
        have hm : m < s.size := by omega
        have hm0 : (0 : Int) ≤ (m : Int) + 1 := by omega
        have hs2 : s[m + 1] = s[m] := by have := hsame.2; simp [hlt, hm] at this; exact this
        have hsame : ((s[m + 1].toNat : Int) == (s[m].toNat : Int)) = true := by rw [hs2]; simp
        obtain ⟨pre, n, hpre⟩ : ∃ pre n, runsL (s.data.toList.take (m + 1)) = pre ++ [(s[m], n)] := by
          rw [take_snoc s m hm, runsL_snoc]; exact stepRun_last _ _
        have hrr' : OwnsRR wr w.heap.size 32 3 u3 vs (pre.map rowOf ++ [rowOf (s[m], n)]) := by
          have := HX.out; unfold rowsL at this; rw [hpre] at this; simpa using this
        obtain ⟨p, g, cap, ws, b, c, hp, rfl, rfl, hws, hlen, hcg, hBb, hbs, hcb0, hcb1, hfb0, hfb1⟩ := ownsRR_last2 hrr'
        have hn : n ≤ m + 1 := by have := runs_last_le hpre; simp at this; omega
        have HR := Lib.hid hrr'; have HP := Lib.hid hpre; have HW := Lib.hid hws; have HQ := Lib.hid hp; have HS := Lib.hid hs2
        clear hrr' hpre hws hp hs2 hvl
        go_wp2
        go_quiet (fail)
        go_wp2
        go_roundw
        case rel =>
          refine ⟨m + 2, by omega, by go_num, ⟨ws ++ [.slice (some ⟨b, 0, none⟩) 2 c], ?_⟩, ?_⟩
          · have e : rowsL (s.data.toList.take (m + 2)) = pre.map rowOf ++ [rowOf (s[m], n + 1)] := by
              unfold rowsL
              rw [take_snoc s (m + 1) hlt, runsL_snoc, HP.out, HS.out, stepRun_same]; simp
            rw [e]
            exact ownsRR_set_last2 (ownsRR_below HR.out (belowN _ _ _)) HW.out
          · exact (hb.trans (belowN _ _ _)).setCell (p := ⟨b, 1, none⟩) hBb _
        case measure => simp [intOf]; omega
      · have he : rowsL (s.data.toList.take (k + 1)) = rowsL (s.data.toList.take k) ++ [rowOf (s[k], 1)] := by
          unfold rowsL
          rw [take_snoc s k hlt, runsL_snoc]
          cases k with
          | zero => simp [runsL, stepRun]
          | succ m =>
            have hm : m < s.size := by omega
            obtain ⟨pre, n, hpre⟩ : ∃ pre n, runsL (s.data.toList.take (m + 1)) = pre ++ [(s[m], n)] := by
              rw [take_snoc s m hm, runsL_snoc]; exact stepRun_last _ _
            have hne : s[m] ≠ s[m + 1] := by
              intro e; exact hsame ⟨by omega, by simp [hlt, hm, e]⟩
            rw [hpre, stepRun_other _ _ _ _ hne]; simp
        have HE := Lib.hid he; clear he
        by_cases h0 : 0 < k
        · obtain ⟨m, rfl⟩ : ∃ m, k = m + 1 := ⟨k - 1, by omega⟩
          have hm : m < s.size := by omega
          have hm0 : (0 : Int) ≤ (m : Int) + 1 := by omega
          have hdiff : ((s[m + 1].toNat : Int) == (s[m].toNat : Int)) = false := by
            have : s[m + 1] ≠ s[m] := fun e => hsame ⟨by omega, by simp [hlt, hm, e]⟩
            simp; intro e; exact this (UInt8.toNat_inj.1 (by omega))
          clear hsame
          go_wp2
          go_quiet (fail)
          have HR2 := Lib.hid (ownsRR_below HX.out (belowN _ wr nq)); have hb2 := hb.trans (belowN _ wr nq)
          generalize wr.drewN nq = wq at *
          have hsz := hb2.size
          have HB := Lib.hid hb2; clear hb2
          go_wp2_with (at_builtin; refine wpList_append_own _ rfl _ _ 51 rfl w.heap.size 32 i0 (.slice none 0 0) 1 24 Try.underlying51 hi hz0 hz1 hz2 rfl (by decide) _ _ _ rfl ((HR2.out.outer.alloc _).alloc _) ⟨wq.heap.size + 1, 0, none⟩ 1 1 [.slice (some ⟨wq.heap.size, 0, none⟩) 2 2] rfl rfl ?c1 ?c2 ?c3 ?c4 ?c5 ?_)
          case c1 =>
            intro j u hj
            match j, hj with
            | 0, hj => simp at hj; subst hj; simp [Addr.add]
          case c2 => intro u hu; simp at hu; subst hu; rfl
          case c3 => unfold maxLen; omega
          case c4 => omega
          case c5 => simp; omega
          intro v' w1 hown' hgrow _
          have R1 := Lib.hid (ownsRR_push HR2.out (rowOf (s[m + 1], 1)) (by simp [rowOf, maxLen]) hsz hown' hgrow (by decide))
          have R2 := Lib.hid (((HB.out.alloc hsz _).alloc (by simp; omega) _).grown hgrow (by simp; omega) (fun g hg => (HR2.out.outer.lt g hg).1))
          clear hown' hgrow
          go_wp2
          go_roundw
          case rel => exact ⟨m + 1 + 1, by omega, by go_num, ⟨_, by rw [HE.out]; exact R1.out⟩, R2.out⟩
          case measure => simp [intOf]; omega
        · obtain rfl : k = 0 := by omega
          clear hsame
          go_wp2
          go_quiet (fail)
          have HR2 := Lib.hid (ownsRR_below HX.out (belowN _ wr nq)); have hb2 := hb.trans (belowN _ wr nq)
          generalize wr.drewN nq = wq at *
          have hsz := hb2.size
          have HB := Lib.hid hb2; clear hb2
          go_wp2_with (at_builtin; refine wpList_append_own _ rfl _ _ 51 rfl w.heap.size 32 i0 (.slice none 0 0) 1 24 Try.underlying51 hi hz0 hz1 hz2 rfl (by decide) _ _ _ rfl ((HR2.out.outer.alloc _).alloc _) ⟨wq.heap.size + 1, 0, none⟩ 1 1 [.slice (some ⟨wq.heap.size, 0, none⟩) 2 2] rfl rfl ?c1 ?c2 ?c3 ?c4 ?c5 ?_)
          case c1 =>
            intro j u hj
            match j, hj with
            | 0, hj => simp at hj; subst hj; simp [Addr.add]
          case c2 => intro u hu; simp at hu; subst hu; rfl
          case c3 => unfold maxLen; omega
          case c4 => omega
          case c5 => simp; omega
          intro v' w1 hown' hgrow _
          have R1 := Lib.hid (ownsRR_push HR2.out (rowOf (s[0], 1)) (by simp [rowOf, maxLen]) hsz hown' hgrow (by decide))
          have R2 := Lib.hid (((HB.out.alloc hsz _).alloc (by simp; omega) _).grown hgrow (by simp; omega) (fun g hg => (HR2.out.outer.lt g hg).1))
          clear hown' hgrow
          go_wp2
          go_roundw
          case rel => exact ⟨0 + 1, by omega, by go_num, ⟨_, by rw [HE.out]; exact R1.out⟩, R2.out⟩
          case measure => simp [intOf]; omega
    · obtain rfl : k = s.size := by omega
      go_wp2
      go_ret
      have hx := HX.out
      rw [List.take_of_length_le (by simp)] at hx
      exact ⟨_, _, rfl, hx, hb⟩
set_option maxHeartbeats 2000000 in
theorem woSay_z (s : ByteArray) (w : World) (h1 : 1 ≤ s.size) (hs : s.size ≤ 400) (hd : s.data.toList.all digZ = true) :
    Calls Try.prog 105 #[.string s] w fun e w' => e = .returned (.string (bs (sayL s.data.toList))) ∧ Below w.heap.size w w' := by
  go_enter Try.func105, Try.ntmps105
  go_wp2_with fail
  refine (woRuns_z s w hs hd).mono ?_
  rintro e w1 ⟨v, vs, rfl, hrr, hb⟩
  have HB := Lib.hid hb
  obtain ⟨rs, hrs⟩ : ∃ rs, rs = runsL s.data.toList := ⟨_, rfl⟩
  have hrows : rowsL s.data.toList = rs.map rowOf := by rw [hrs]; rfl
  have hsay : sayL s.data.toList = sayR rs := by rw [hrs]; rfl
  have hN4 : rs.length ≤ 400 := by rw [hrs]; exact Nat.le_trans (runsL_len _) (by simpa using hs)
  have hdg : ∀ k (h : k < rs.length), 48 ≤ rs[k].1.toNat ∧ rs[k].1.toNat ≤ 57 ∧ rs[k].2 ≤ 400 := by
    subst hrs; intro k h
    exact ⟨(runs_digZ hd h).1, (runs_digZ hd h).2, Nat.le_trans (runs_cnt h) (by simpa using hs)⟩
  have HD := Lib.hid hdg
  rw [hrows] at hrr
  have HX := Lib.hid hrr
  rcases ownsRR_open hrr with ⟨_, _, hx⟩ | ⟨g, cap, rfl, hc1, hc2, _, hgs, hcell⟩
  · exact absurd hx (by simp [hrs]; exact runsL_ne (by simpa using h1))
  · have hat : ∀ k (h : k < rs.length), ∃ b c, b < w1.heap.size ∧ w1.cell? ⟨g, k, none⟩ = some (.slice (some ⟨b, 0, none⟩) 2 c) ∧ w1.cell? ⟨b, 0, none⟩ = some (.int .i64 ((rs[k].1.toNat : Int) - 48)) ∧ w1.cell? ⟨b, 1, none⟩ = some (.int .i64 (rs[k].2 : Int)) := by
      intro k h
      obtain ⟨b, c, e1, e2, e3⟩ := ownsRR_at2 hrr (i := k) (x := .int .i64 ((rs[k].1.toNat : Int) - 48)) (y := .int .i64 (rs[k].2 : Int)) (by simp [h, rowOf])
      exact ⟨b, c, World.block_lt_of_cell? w1 _ e2, hcell k (by simpa using h) _ e1, e2, e3⟩
    have HA := Lib.hid hat
    have HL := Lib.hid hsay
    simp only [List.length_map] at hc1 ⊢
    obtain ⟨N, hN⟩ : ∃ N, N = rs.length := ⟨_, rfl⟩
    simp only [← hN] at hc1 hN4 ⊢
    have HN := Lib.hid hN
    clear hrr hb hsay hrows hrs hcell hat hN hdg
    go_wp2_with fail
    go_loopw [3, 9] (fun o i wr => ∃ (k : Nat) (t : ByteArray), k ≤ N ∧ i = .int .i64 k ∧ o = .string t ∧ t.size ≤ 40 * k ∧ Hid (t.data.toList = sayR (rs.take k)) ∧ Hid (Below w1.heap.size w1 wr)) (fun _ i _ => N - (intOf i).toNat)
    case atStart => exact ⟨0, bs [], Nat.zero_le _, rfl, rfl, by simp [bs_size], by rw [bs_list]; exact rfl, below_refl _⟩
    case round =>
      obtain ⟨k, t, hk, rfl, rfl, ht, HT, HW⟩ := hrel
      by_cases hlt : k < N
      · have hlt' : k < rs.length := by rw [← HN.out]; exact hlt
        obtain ⟨b, c, hbs, hc0, hc1', hc2'⟩ := HA.out k hlt'
        obtain ⟨hd1, hd2, hd3⟩ := HD.out k hlt'
        have hsn := Lib.hid (sayR_snoc rs k hlt')
        obtain ⟨d, hdd⟩ : ∃ d, d = rs[k].1.toNat := ⟨_, rfl⟩
        obtain ⟨n, hnn⟩ : ∃ n, n = rs[k].2 := ⟨_, rfl⟩
        simp only [← hdd, ← hnn] at hc1' hc2' hd1 hd2 hd3
        have HDD := Lib.hid hdd; have HNN := Lib.hid hnn; clear hdd hnn
        have hr0 : wr.cell? ⟨g, k, none⟩ = some (.slice (some ⟨b, 0, none⟩) 2 c) := (HW.out.cell (p := ⟨g, k, none⟩) hgs).trans hc0
        have hr1 : wr.cell? ⟨b, 0, none⟩ = some (.int .i64 ((d : Int) - 48)) := (HW.out.cell (p := ⟨b, 0, none⟩) hbs).trans hc1'
        have hr2 : wr.cell? ⟨b, 1, none⟩ = some (.int .i64 (n : Int)) := (HW.out.cell (p := ⟨b, 1, none⟩) hbs).trans hc2'
        have hbr : b < wr.heap.size := Nat.lt_of_lt_of_le hbs HW.out.size
        have hl1 := numL_len19 n (by omega)
        have hl2 := numL_len19 (d - 48) (by omega)
        rw [← bs_size] at hl1 hl2
        clear hc0 hc1' hc2' hbs
        have hn1 := fun (W : World) => l1Num_any n (n : Int) W (by omega) (by omega) (by omega)
        have hn2 := fun (W : World) => l1Num_any d ((d : Int) - 48) W (by omega) (by omega) (by omega)
        rw [show ((n : Int)).toNat = n from by omega] at hn1
        rw [show ((d : Int) - 48).toNat = d - 48 from by omega] at hn2
        have H1 := Lib.hid hn1; have H2 := Lib.hid hn2; clear hn1 hn2
        go_wp2_with fail
        go_region_with (go_at_call 96; first
          | ((with_reducible refine (H1.out _).mono ?_); rintro e w2 ⟨rfl, hb1⟩; try (have hb1c := (hb1.cell (p := ⟨b, 0, none⟩) hbr).trans hr1))
          | ((with_reducible refine (H2.out _).mono ?_); rintro e w3 ⟨rfl, hb2⟩; try (have hb2c := (hb2.cell (p := ⟨b, 1, none⟩) hbr).trans hr2)))
        all_goals
          go_wp2_with fail
          go_roundw
          case rel =>
            refine ⟨k + 1, _, by omega, by go_num, rfl, ?_, ?_, ?_⟩
            · simp only [ByteArray.size_append]; omega
            · rw [list_append, list_append, HT.out, bs_list, bs_list, hsn.out, HDD.out, HNN.out]; exact rfl
            · first
                | exact below_trans HW.out (below_trans (below_drew _) (below_trans hb1 hb2))
                | exact below_trans HW.out (below_trans (below_drew _) (below_trans hb2 hb1))
          case measure => simp [intOf] <;> omega

      · obtain rfl : k = N := by omega
        go_wp2
        go_ret
        exact ⟨ret_str (bs_eq (by rw [HT.out, HL.out, List.take_of_length_le (by rw [← HN.out]; exact Nat.le_refl _)])), HB.out.trans (HW.out.mono HB.out.size)⟩


theorem numL_digZ (n : Nat) : (numL n).all digZ = true := by
  induction n using Nat.strongRecOn with
  | _ n ih =>
    by_cases h : n < 10
    · rw [numL_one n h]
      simp only [List.all_cons, List.all_nil, Bool.and_true]
      exact decide_eq_true (by rw [UInt8.toNat_ofNat']; omega)
    · rw [numL_more n h, List.all_append, ih (n / 10) (by omega), Bool.true_and]
      simp only [List.all_cons, List.all_nil, Bool.and_true]
      exact decide_eq_true (by rw [UInt8.toNat_ofNat']; omega)
theorem numL_ge (n : Nat) : 1 ≤ (numL n).length := by
  by_cases h : n < 10
  · rw [numL_one n h]; simp
  · rw [numL_more n h]; simp
theorem sayR_facts : ∀ rs : List (UInt8 × Nat), (∀ p ∈ rs, 48 ≤ p.1.toNat ∧ p.1.toNat ≤ 57 ∧ p.2 < 1000) → (sayR rs).all digZ = true ∧ rs.length ≤ (sayR rs).length ∧ (sayR rs).length ≤ 4 * rs.length
  | [], _ => ⟨rfl, Nat.le_refl _, Nat.le_refl _⟩
  | p :: rs, h => by
    obtain ⟨h1, h2, h3⟩ := sayR_facts rs (fun q hq => h q (by simp [hq]))
    obtain ⟨g1, g2, g3⟩ := h p (by simp)
    have e : sayR (p :: rs) = numL p.2 ++ numL (p.1.toNat - 48) ++ sayR rs := by simp [sayR, sayP]
    have l1 := numL_len 2 p.2 (by omega)
    have l2 := numL_len 0 (p.1.toNat - 48) (by omega)
    have l3 := numL_ge p.2
    rw [e]
    refine ⟨by rw [List.all_append, List.all_append, numL_digZ, numL_digZ, h1]; rfl, ?_, ?_⟩ <;> simp only [List.length_append, List.length_cons] <;> omega
theorem sayL_facts {l : List UInt8} (h1 : 1 ≤ l.length) (h9 : l.length ≤ 400) (hd : l.all digZ = true) : (sayL l).all digZ = true ∧ 1 ≤ (sayL l).length ∧ (sayL l).length ≤ 4 * l.length := by
  have hne := runsL_ne h1
  have hln := runsL_len l
  obtain ⟨a, b, c⟩ := sayR_facts (runsL l) (fun p hp => by
    obtain ⟨k, hk, rfl⟩ := List.getElem_of_mem hp
    have g1 := runs_digZ hd hk
    have g2 := runs_cnt hk
    exact ⟨g1.1, g1.2, by omega⟩)
  have : 1 ≤ (runsL l).length := List.length_pos_iff.2 hne
  exact ⟨a, by unfold sayL; omega, by unfold sayL; omega⟩
theorem woSay_l (l : List UInt8) (w : World) (h1 : 1 ≤ l.length) (h9 : l.length ≤ 400) (hd : l.all digZ = true) :
    Calls Try.prog 105 #[.string (bs l)] w fun e w' => e = .returned (.string (bs (sayL l))) ∧ Below w.heap.size w w' := by
  have := woSay_z (bs l) w (by rw [bs_size]; exact h1) (by rw [bs_size]; exact h9) (by rw [bs_list]; exact hd)
  rw [bs_list] at this
  exact this
def dgZ (d : Int) : UInt8 := UInt8.ofNat (48 + d.toNat)
set_option maxHeartbeats 1000000 in
theorem woTimes_z (d : Int) (n : Nat) (w : World) (hd0 : 1 ≤ d) (hd9 : d ≤ 9) (hn : n ≤ 401) :
    Calls Try.prog 104 #[.int .i64 d, .int .i64 n] w fun e w' => e = .returned (.string (bs (List.replicate n (dgZ d)))) ∧ Below w.heap.size w w' := by
  have hnum := fun (W : World) => l1Num_any 9 d W (by omega) (by omega) (by omega)
  rw [numL_one d.toNat (by omega)] at hnum
  change ∀ W : World, Calls Try.prog 96 #[.int .i64 d] W fun e w' => e = .returned (.string (bs [dgZ d])) ∧ Below W.heap.size W w' at hnum
  have HNUM := Lib.hid hnum; clear hnum
  go_enter Try.func104, Try.ntmps104
  go_wp2_with fail
  go_loopw [1, 5] (fun i o wr => ∃ (k m : Nat), k + m = n ∧ i = .int .i64 (k : Int) ∧ o = .string (bs (List.replicate m (dgZ d))) ∧ Hid (Below w.heap.size w wr)) (fun i _ _ => (intOf i).toNat)
  case atStart => exact ⟨n, 0, rfl, rfl, rfl, below_refl _⟩
  case round =>
    obtain ⟨k, m, hk, rfl, rfl, HW⟩ := hrel
    have hsz : (bs (List.replicate m (dgZ d))).size = m := by rw [bs_size, List.length_replicate]
    have hs1 : (bs [dgZ d]).size = 1 := by rw [bs_size]; rfl
    cases k with
    | zero =>
      obtain rfl : m = n := by omega
      go_wp2_with fail
      go_ret
      exact ⟨rfl, HW.out⟩
    | succ j =>
      have hj : (0 : Int) ≤ (j : Int) + 1 := by omega
      have hj2 : (0 : Int) < (j : Int) + 1 := by omega
      go_wp2_with (go_at_call 96; refine (HNUM.out _).mono ?_; rintro e w2 ⟨rfl, hb2⟩)
      go_roundw
      case rel => exact ⟨j, m + 1, by omega, by go_num, by rw [bs_append, List.replicate_succ'], below_trans HW.out hb2⟩
      case measure => simp [intOf] <;> omega
end Go.Proofs.Ytkdoghopbefjfaa

/- Words that are drawn: sureWord, spoilt, wordOf. -/
namespace Go.Proofs.Ytkdoghopbefjfaa
open Go.RowKit Go.BigFrame Go.Deep
set_option linter.unusedSimpArgs false
set_option linter.unusedVariables false
set_option maxRecDepth 4000

/-- Digits from 1 to d. -/
def digsL (d : Nat) (l : List UInt8) : Prop := ∀ c ∈ l, 49 ≤ c.toNat ∧ c.toNat ≤ 48 + d
theorem digsL_snoc {d : Nat} {l : List UInt8} {c : UInt8} (h : digsL d l) (hc : 49 ≤ c.toNat ∧ c.toNat ≤ 48 + d) : digsL d (l ++ [c]) := by
  intro x hx
  rcases List.mem_append.1 hx with hx | hx
  · exact h x hx
  · simp at hx; subst hx; exact hc
theorem digsL_all {d : Nat} {l : List UInt8} (h : digsL d l) (hd : d ≤ 9) : l.all digB = true := by
  rw [List.all_eq_true]
  intro c hc
  have := h c hc
  exact decide_eq_true (by omega)

set_option maxHeartbeats 1000000 in
theorem sureWord_c (w0 w : World) (g K most digits : Nat) (cv : Value) (ns : List Int) (ha : ArgY w0 cv ns) (hc : Cur w0 w g cv K) (hK : K ≤ 1000000) (hm1 : 1 ≤ most) (hm : most ≤ 100) (hd1 : 1 ≤ digits) (hd : digits ≤ 9) :
    Calls Try.prog 75 #[.pointer (some ⟨g, 0, none⟩), .int .i64 (most : Int), .int .i64 (digits : Int)] w fun e w' => ∃ l : List UInt8, e = .returned (.string (bs l)) ∧ 1 ≤ l.length ∧ l.length ≤ most ∧ digsL digits l ∧ Cur w0 w' g cv (K + 2 + 4 * most) := by
  have HP := Lib.hid (pick_c w0 w g K most cv ns ha hc (by omega) hm1 (by omega))
  have HA := Lib.hid ha
  clear hc ha
  go_enter Try.func75, Try.ntmps75
  go_wp2_with fail
  refine HP.out.mono ?_
  rintro e w1 ⟨x, rfl, hx, hcu, hg⟩
  have HC := Lib.hid hcu
  clear hcu hg HP
  obtain ⟨T, hT⟩ : ∃ T, T = x + 1 := ⟨_, rfl⟩
  have hT2 : (1 : Int) + (x : Int) = (T : Int) := by omega
  have hT3 : T ≤ most := by omega
  have hT1 : 1 ≤ T := by omega
  have HTX := Lib.hid hT
  clear hT
  go_wp2_with fail
  go_loopw [7, 8] (fun o k wr => ∃ (j r : Nat) (l : List UInt8), j + r = T ∧ k = .int .i64 (r : Int) ∧ o = .string (bs l) ∧ l.length = j ∧ Hid (digsL digits l) ∧ Hid (Cur w0 wr g cv (K + 2 + 4 * j))) (fun _ k _ => (intOf k).toNat)
  case atStart => exact ⟨0, T, [], by omega, by go_num, rfl, rfl, Lib.hid (fun c hc => by simp at hc), Lib.hid HC.out⟩
  case round =>
    obtain ⟨j, r, l, hjr, rfl, rfl, hl, HD, HW⟩ := hrel
    have hsz : (bs l).size = j := by rw [bs_size, hl]
    by_cases hr : 0 < r
    · obtain ⟨r, rfl⟩ : ∃ r', r = r' + 1 := ⟨r - 1, by omega⟩
      obtain ⟨s, hs⟩ : ∃ s, s = bs l := ⟨_, rfl⟩
      rw [← hs] at hsz ⊢
      have HS := Lib.hid hs
      clear hs
      by_cases hj : 0 < j
      · have HO := Lib.hid (one_c w0 wr g (K + 2 + 4 * j) 3 cv ns HA.out HW.out (by omega) (by omega) (by omega))
        go_wp2_with fail
        refine HO.out.mono ?_
        rintro e w2 ⟨b, rfl, hcu, hg⟩
        have HC2 := Lib.hid hcu; clear hcu hg HO
        cases b with
        | true =>
          go_wp2_with fail
          go_roundw
          case rel =>
            refine ⟨j + 1, r, l ++ (l.drop (j - 1)), by omega, by go_num, ?_, by simp [hl]; omega, Lib.hid ?_, Lib.hid (HC2.out.mono (by omega))⟩
            · exact congrArg Value.string (bs_eq (by rw [list_append, list_extract, HS.out, bs_list, List.take_of_length_le (by simp [hl])]))
            · intro c hc
              rcases List.mem_append.1 hc with h | h
              · exact HD.out c h
              · exact HD.out c (List.mem_of_mem_drop h)
          case measure => simp [intOf] <;> omega
        | false =>
          have HP := Lib.hid (pick_c w0 w2 g (K + 2 + 4 * j + 2) digits cv ns HA.out HC2.out (by omega) hd1 (by omega))
          go_wp2_with fail
          refine HP.out.mono ?_
          rintro e w3 ⟨x, rfl, hx, hcu, hg⟩
          have HC3 := Lib.hid hcu; clear hcu hg HP
          obtain ⟨X, hX⟩ : ∃ X : Nat, X = x + 1 := ⟨_, rfl⟩
          have hX1 : (1 : Int) + (x : Int) = (X : Int) := by omega
          have hn := l1Num_any 9 (X : Int) w3 (by omega) (by omega) (by omega)
          rw [Int.toNat_natCast, numL_one X (by omega)] at hn
          have hc : 49 ≤ (UInt8.ofNat (48 + X)).toNat ∧ (UInt8.ofNat (48 + X)).toNat ≤ 48 + digits := by rw [UInt8.toNat_ofNat']; omega
          generalize UInt8.ofNat (48 + X) = c at *
          rw [← hX1] at hn
          clear hX1 hX
          have HN := Lib.hid hn; have HCC := Lib.hid hc
          have hc1 : (bs [c]).size = 1 := bs_size _
          clear hn hc
          go_wp2_with fail
          refine HN.out.mono ?_
          rintro e w4 ⟨rfl, hb⟩
          have HC4 := Lib.hid ((HC3.out.later hb).mono (show K + 2 + 4 * j + 2 + 2 ≤ K + 2 + 4 * (j + 1) by omega)); clear hb HC3
          go_wp2_with fail
          go_roundw
          case rel =>
            refine ⟨j + 1, r, l ++ [c], by omega, by go_num, ?_, by simp [hl], Lib.hid ?_, Lib.hid ?_⟩
            · exact congrArg Value.string (by rw [HS.out, bs_append])
            · exact digsL_snoc HD.out HCC.out
            · exact HC4.out
          case measure => simp [intOf] <;> omega
      · obtain rfl : j = 0 := by omega
        have HP := Lib.hid (pick_c w0 wr g (K + 2 + 4 * 0) digits cv ns HA.out HW.out (by omega) hd1 (by omega))
        go_wp2_with fail
        refine HP.out.mono ?_
        rintro e w3 ⟨x, rfl, hx, hcu, hg⟩
        have HC3 := Lib.hid hcu; clear hcu hg HP
        obtain ⟨X, hX⟩ : ∃ X : Nat, X = x + 1 := ⟨_, rfl⟩
        have hX1 : (1 : Int) + (x : Int) = (X : Int) := by omega
        have hn := l1Num_any 9 (X : Int) w3 (by omega) (by omega) (by omega)
        rw [Int.toNat_natCast, numL_one X (by omega)] at hn
        have hc : 49 ≤ (UInt8.ofNat (48 + X)).toNat ∧ (UInt8.ofNat (48 + X)).toNat ≤ 48 + digits := by rw [UInt8.toNat_ofNat']; omega
        generalize UInt8.ofNat (48 + X) = c at *
        rw [← hX1] at hn
        clear hX1 hX
        have HN := Lib.hid hn; have HCC := Lib.hid hc
        have hc1 : (bs [c]).size = 1 := bs_size _
        clear hn hc
        go_wp2_with fail
        refine HN.out.mono ?_
        rintro e w4 ⟨rfl, hb⟩
        have HC4 := Lib.hid ((HC3.out.later hb).mono (show K + 2 + 4 * 0 + 2 ≤ K + 2 + 4 * (0 + 1) by omega)); clear hb HC3
        go_wp2_with fail
        go_roundw
        case rel =>
          refine ⟨0 + 1, r, l ++ [c], by omega, by go_num, ?_, by simp [hl], Lib.hid ?_, Lib.hid ?_⟩
          · exact congrArg Value.string (by rw [HS.out, bs_append])
          · exact digsL_snoc HD.out HCC.out
          · exact HC4.out
        case measure => simp [intOf] <;> omega
    · obtain rfl : r = 0 := by omega
      go_wp2_with fail
      go_ret
      exact ⟨l, rfl, by omega, by omega, HD.out, HW.out.mono (by omega)⟩

set_option maxHeartbeats 2000000 in
theorem spoilt_c (w0 w : World) (g K L M : Nat) (cv : Value) (ns : List Int) (t u : ByteArray) (ha : ArgY w0 cv ns) (hc : Cur w0 w g cv K) (hK : K ≤ 1000000) (ht : t.size ≤ L) (hL : L ≤ 100000) (hu : u.size = M) (hM1 : 1 ≤ M) (hM : M ≤ 100) :
    Calls Try.prog 103 #[.pointer (some ⟨g, 0, none⟩), .string t, .string u] w fun e w' => ∃ s : ByteArray, e = .returned (.string s) ∧ s.size ≤ L + 2 ∧ Cur w0 w' g cv (K + 14) := by
  have HP := Lib.hid (pick_c w0 w g K 2 cv ns ha hc (by omega) (by omega) (by omega))
  have HA := Lib.hid ha
  have hcv := conv1
  clear hc ha
  go_enter Try.func103, Try.ntmps103
  go_wp2_with fail
  refine HP.out.mono ?_
  rintro e w1 ⟨x, rfl, hx, hcu, hg⟩
  have HC := Lib.hid hcu
  clear hcu hg HP
  obtain ⟨T, hT⟩ : ∃ T, T = x + 1 := ⟨_, rfl⟩
  have hT2 : (1 : Int) + (x : Int) = (T : Int) := by omega
  have hT3 : T ≤ 2 := by omega
  have HTX := Lib.hid hT
  clear hT
  go_wp2_with fail
  go_loopw [1, 7] (fun o k wr => ∃ (j r : Nat) (s : ByteArray), j + r = T ∧ k = .int .i64 (r : Int) ∧ o = .string s ∧ s.size ≤ L + j ∧ Hid (Cur w0 wr g cv (K + 2 + 6 * j))) (fun _ k _ => (intOf k).toNat)
  case atStart => exact ⟨0, T, t, by omega, by go_num, rfl, by omega, Lib.hid HC.out⟩
  case round =>
    obtain ⟨j, r, s, hjr, rfl, rfl, hl, HW⟩ := hrel
    by_cases hr : 0 < r
    · obtain ⟨r, rfl⟩ : ∃ r', r = r' + 1 := ⟨r - 1, by omega⟩
      obtain ⟨z, hz⟩ : ∃ z, z = s.size := ⟨_, rfl⟩
      have hsz := hz.symm
      rw [hsz] at hl
      by_cases h0 : 0 < z
      · have HP := Lib.hid (pick_c w0 wr g (K + 2 + 6 * j) z cv ns HA.out HW.out (by omega) h0 (by omega))
        clear hz
        go_wp2_with fail
        refine HP.out.mono ?_
        rintro e w2 ⟨i, rfl, hi, hcu, hg⟩
        have HC2 := Lib.hid hcu; clear hcu hg HP
        have HP := Lib.hid (pick_c w0 w2 g (K + 2 + 6 * j + 2) M cv ns HA.out HC2.out (by omega) hM1 (by omega))
        go_wp2_with fail
        refine HP.out.mono ?_
        rintro e w3 ⟨q, rfl, hq, hcu, hg⟩
        have HC3 := Lib.hid hcu; clear hcu hg HP
        go_wp2_with fail
        have HP := Lib.hid (pick_c w0 (w3.alloc (.cells #[.int .u8 (u[q].toNat : Int)] 5)) g (K + 2 + 6 * j + 2 + 2) 3 cv ns HA.out (HC3.out.later (below_alloc _ _)) (by omega) (by omega) (by omega))
        refine HP.out.mono ?_
        rintro e w4 ⟨y, rfl, hy, hcu, hg⟩
        have HC4 := Lib.hid hcu; clear hcu hg HP
        have he1 : (s.extract 0 i).size = i := by simp only [ByteArray.size_extract]; omega
        have he2 : (s.extract i z).size = z - i := by simp only [ByteArray.size_extract]; omega
        have he3 : (s.extract (i + 1) z).size = z - (i + 1) := by simp only [ByteArray.size_extract]; omega
        have hc1 : (bs [u[q]]).size = 1 := bs_size _
        match y, hy with
        | 0, _ =>
          go_wp2_with fail
          go_quiet (fail)
          go_wp2_with fail
          go_roundw
          case rel =>
            refine ⟨j + 1, r, _, by omega, by go_num, rfl, ?_, Lib.hid ((HC4.out.mono (by omega)).draw _)⟩
            simp only [ByteArray.size_append, ByteArray.size_extract, hc1]; omega
          case measure => simp [intOf] <;> omega
        | 1, _ =>
          go_wp2_with fail
          go_quiet (fail)
          go_wp2_with fail
          go_roundw
          case rel =>
            refine ⟨j + 1, r, _, by omega, by go_num, rfl, ?_, Lib.hid ((HC4.out.mono (by omega)).draw _)⟩
            simp only [ByteArray.size_append, ByteArray.size_extract, hc1]; omega
          case measure => simp [intOf] <;> omega
        | 2, _ =>
          go_wp2_with fail
          go_quiet (fail)
          go_wp2_with fail
          go_roundw
          case rel =>
            refine ⟨j + 1, r, _, by omega, by go_num, rfl, ?_, Lib.hid ((HC4.out.mono (by omega)).draw _)⟩
            simp only [ByteArray.size_append, ByteArray.size_extract, hc1]; omega
          case measure => simp [intOf] <;> omega
      · obtain rfl : z = 0 := by omega
        clear hz
        go_wp2_with fail
        go_ret
        exact ⟨s, rfl, by omega, HW.out.mono (by omega)⟩
    · obtain rfl : r = 0 := by omega
      go_wp2_with fail
      go_ret
      exact ⟨s, rfl, by omega, HW.out.mono (by omega)⟩

theorem digB_Z {l : List UInt8} (h : l.all digB = true) : l.all digZ = true := by
  rw [List.all_eq_true] at h ⊢
  intro c hc
  have := h c hc
  unfold digB at this
  have := of_decide_eq_true this
  exact decide_eq_true (by omega)
theorem lit_cellsW (w : World) (xs : List Int) (T : TypeId) : ∀ i (h : i < xs.length), (w.alloc (.cells (xs.map (Value.int .i64)).toArray T)).cell? ⟨w.heap.size, i, none⟩ = some (.int .i64 xs[i]) := by
  intro i h
  have hcl := heap_alloc_new w (.cells (xs.map (Value.int .i64)).toArray T)
  simp only [World.cell?, hcl]
  simp [h]
/-- A text is drawn by a cursor. -/
def TextC (w0 : World) (g : Nat) (cv : Value) (K : Nat) (e : Ending) (w' : World) : Prop := ∃ t : ByteArray, e = .returned (.string t) ∧ t.size ≤ 402 ∧ Cur w0 w' g cv K

set_option maxHeartbeats 2000000 in
theorem wordOf_c (w0 w : World) (g K most : Nat) (cv : Value) (ns : List Int) (ha : ArgY w0 cv ns) (hc : Cur w0 w g cv K) (hK : K ≤ 100000) (hm1 : 1 ≤ most) (hm : most ≤ 25) :
    Calls Try.prog 80 #[.pointer (some ⟨g, 0, none⟩), .int .i64 (most : Int)] w fun e w' => TextC w0 g cv (K + 20 + 4 * most) e w' := by
  have HP := Lib.hid (pick_c w0 w g K 14 cv ns ha hc (by omega) (by omega) (by omega))
  have HA := Lib.hid ha
  clear hc ha
  go_enter Try.func80, Try.ntmps80
  go_wp2_with fail
  refine HP.out.mono ?_
  rintro e w1 ⟨x, rfl, hx, hcu, hg⟩
  have HC := Lib.hid hcu
  clear hcu hg HP
  match x, hx with
  | 0, _ =>
    have HS := Lib.hid (sureWord_c w0 w1 g (K + 2) most 4 cv ns HA.out HC.out (by omega) hm1 (by omega) (by omega) (by omega))
    go_wp2_with fail
    refine HS.out.mono ?_
    rintro e w2 ⟨l, rfl, h1, h2, h3, hcu⟩
    have HC2 := Lib.hid hcu; clear hcu
    go_wp2_with fail
    refine (spoilt_c w0 w2 g _ most 6 cv ns (bs l) _ HA.out HC2.out (by omega) (by rw [bs_size]; exact h2) (by omega) (by rfl) (by omega) (by omega)).mono ?_
    rintro e w3 ⟨s, rfl, hs, hcu⟩
    have HC3 := Lib.hid hcu; clear hcu
    go_wp2_with fail
    go_ret
    exact ⟨s, rfl, by omega, HC3.out.mono (by omega)⟩
  | 1, _ =>
    have HQ := Lib.hid (pick_c w0 w1 g (K + 2) 9 cv ns HA.out HC.out (by omega) (by omega) (by omega))
    go_wp2_with fail
    refine HQ.out.mono ?_
    rintro e w2 ⟨d, rfl, hd, hcu, hg⟩
    have HC2 := Lib.hid hcu; clear hcu hg HQ
    go_wp2_with fail
    have hlt := HC2.out.lt
    refine (among_c w0 _ g (K + 2 + 2) w2.heap.size 5 5 cv ns [8, 9, 10, 400, 401] HA.out (HC2.out.later (below_alloc _ _)) (by omega) rfl (by omega) (by omega) (by omega) (by omega) (by omega) (by simp) (lit_cellsW w2 _ _)).mono ?_
    rintro e w3 ⟨n, hn, rfl, hcu, hg⟩
    have HC3 := Lib.hid hcu
    obtain ⟨m, rfl, hm9⟩ : ∃ m : Nat, n = (m : Int) ∧ m ≤ 401 := by
      simp only [List.mem_cons, List.not_mem_nil, or_false] at hn
      exact ⟨n.toNat, by omega, by omega⟩
    clear hn hcu hg
    go_wp2_with fail
    refine (woTimes_z _ m w3 (by omega) (by omega) hm9).mono ?_
    rintro e w4 ⟨rfl, hb⟩
    have HC4 := Lib.hid (HC3.out.later hb)
    clear hb
    go_wp2_with fail
    go_ret
    exact ⟨_, rfl, by rw [bs_size, List.length_replicate]; omega, HC4.out.mono (by omega)⟩
  | 2, _ =>
    go_wp2_with fail
    go_ret
    exact ⟨_, rfl, by decide, HC.out.mono (by omega)⟩
  | 3, _ | 4, _ =>
    have HS := Lib.hid (sureWord_c w0 w1 g (K + 2) most 3 cv ns HA.out HC.out (by omega) hm1 (by omega) (by omega) (by omega))
    go_wp2_with fail
    refine HS.out.mono ?_
    rintro e w2 ⟨l, rfl, h1, h2, h3, hcu⟩
    have HC2 := Lib.hid hcu; clear hcu
    have hz := digB_Z (digsL_all h3 (by omega))
    have HW := Lib.hid (woSay_l l w2 h1 (by omega) hz)
    have hf := sayL_facts h1 (by omega) hz
    go_wp2_with fail
    refine HW.out.mono ?_
    rintro e w3 ⟨rfl, hb⟩
    have HC3 := Lib.hid (HC2.out.later hb); clear hb
    go_wp2_with fail
    go_ret
    exact ⟨_, rfl, by rw [bs_size]; omega, HC3.out.mono (by omega)⟩
  | 5, _ =>
    have HS := Lib.hid (sureWord_c w0 w1 g (K + 2) most 3 cv ns HA.out HC.out (by omega) hm1 (by omega) (by omega) (by omega))
    go_wp2_with fail
    refine HS.out.mono ?_
    rintro e w2 ⟨l, rfl, h1, h2, h3, hcu⟩
    have HC2 := Lib.hid hcu; clear hcu
    have hz := digB_Z (digsL_all h3 (by omega))
    have HW := Lib.hid (woSay_l l w2 h1 (by omega) hz)
    have hf := sayL_facts h1 (by omega) hz
    have HW2 := Lib.hid (fun W => woSay_l (sayL l) W hf.2.1 (by omega) hf.1)
    have hf2 := sayL_facts hf.2.1 (by omega) hf.1
    go_wp2_with fail
    refine HW.out.mono ?_
    rintro e w3 ⟨rfl, hb⟩
    have HC3 := Lib.hid (HC2.out.later hb); clear hb
    go_wp2_with fail
    refine (HW2.out _).mono ?_
    rintro e w4 ⟨rfl, hb⟩
    have HC4 := Lib.hid (HC3.out.later hb); clear hb
    go_wp2_with fail
    go_ret
    exact ⟨_, rfl, by rw [bs_size]; omega, HC4.out.mono (by omega)⟩
  | 6, _ =>
    go_wp2_with fail
    have hlt := HC.out.lt
    refine (among_c w0 _ g (K + 2) w1.heap.size 3 3 cv ns [100, 200, 201] HA.out (HC.out.later (below_alloc _ _)) (by omega) rfl (by omega) (by omega) (by omega) (by omega) (by omega) (by simp) (lit_cellsW w1 _ _)).mono ?_
    rintro e w3 ⟨n, hn, rfl, hcu, hg⟩
    have HC3 := Lib.hid hcu
    obtain ⟨m, rfl, hm9⟩ : ∃ m : Nat, n = (m : Int) ∧ m ≤ 201 := by
      simp only [List.mem_cons, List.not_mem_nil, or_false] at hn
      exact ⟨n.toNat, by omega, by omega⟩
    clear hn hcu hg
    go_wp2_with fail
    go_loopw [5, 6] (fun o k wr => ∃ (j r : Nat) (s : ByteArray), j + r = m ∧ k = .int .i64 (r : Int) ∧ o = .string s ∧ s.size = 2 * j ∧ Hid (Cur w0 wr g cv (K + 2 + 2))) (fun _ k _ => (intOf k).toNat)
    case atStart => exact ⟨0, m, _, by omega, rfl, rfl, rfl, Lib.hid HC3.out⟩
    case round =>
      obtain ⟨j, r, s, hjr, rfl, rfl, hs, HW⟩ := hrel
      by_cases hr : 0 < r
      · obtain ⟨r, rfl⟩ : ∃ r', r = r' + 1 := ⟨r - 1, by omega⟩
        go_wp2_with fail
        go_roundw
        case rel => exact ⟨j + 1, r, _, by omega, by go_num, rfl, by rw [ByteArray.size_append, hs]; rfl, Lib.hid HW.out⟩
        case measure => simp [intOf] <;> omega
      · obtain rfl : r = 0 := by omega
        go_wp2_with fail
        go_ret
        exact ⟨s, rfl, by omega, HW.out.mono (by omega)⟩
  | 7, _ =>
    go_wp2_with fail
    go_ret
    exact ⟨_, rfl, by decide, HC.out.mono (by omega)⟩
  | 8, _ | 9, _ | 10, _ | 11, _ | 12, _ | 13, _ =>
    have HS := Lib.hid (sureWord_c w0 w1 g (K + 2) most 4 cv ns HA.out HC.out (by omega) hm1 (by omega) (by omega) (by omega))
    go_wp2_with fail
    refine HS.out.mono ?_
    rintro e w2 ⟨l, rfl, h1, h2, h3, hcu⟩
    have HC2 := Lib.hid hcu; clear hcu
    go_wp2_with fail
    go_ret
    exact ⟨_, rfl, by rw [bs_size]; omega, HC2.out.mono (by omega)⟩
end Go.Proofs.Ytkdoghopbefjfaa

/- The bounds on what the drawn inputs are made of. -/
namespace Go.Proofs.Ytkdoghopbefjfaa
open Go.RowKit Go.BigFrame Go.Deep
set_option linter.unusedSimpArgs false
set_option linter.unusedVariables false
set_option maxRecDepth 4000
set_option maxHeartbeats 1000000 in
theorem big_is (w : World) (A A2 : Option Addr) (n C m C2 : Nat) (h1 : n ≤ C) (h2 : C ≤ 9223372036854775807) (h3 : m ≤ C2) (h4 : C2 ≤ 9223372036854775807) (b : Bool)
    (hb : (decide ((1048576 : Int) < (n : Int)) || decide ((1048576 : Int) - (n : Int) < (m : Int))) = b) :
    Calls Try.prog 7 #[.slice A n C, .slice A2 m C2] w fun e w' => e = .returned (.bool b) ∧ w = w' := by
  by_cases hn : (1048576 : Int) < (n : Int)
  · rw [decide_eq_true hn, Bool.true_or] at hb
    subst hb
    go_enter Try.func7, Try.ntmps7
    go_wp2_with fail
    go_ret
    exact ⟨rfl, rfl⟩
  · rw [decide_eq_false hn, Bool.false_or] at hb
    have HB := Lib.hid hb; clear hb
    go_enter Try.func7, Try.ntmps7
    go_wp2_with fail
    go_ret
    exact ⟨ret_bool HB.out, rfl⟩
theorem big_any (w : World) (code more : Value) (cs ms : List Int) (hc : ArgY w code cs) (hm : ArgY w more ms) :
    Calls Try.prog 7 #[code, more] w fun e w' => ∃ b : Bool, e = .returned (.bool b) ∧ w = w' := by
  obtain ⟨A, C, rfl, h1, h2, hx⟩ := hc
  obtain ⟨A2, C2, rfl, h3, h4, hy⟩ := hm
  exact (big_is w A A2 _ C _ C2 h1 h2 h3 h4 _ rfl).mono fun e w' h => ⟨_, h⟩
end Go.Proofs.Ytkdoghopbefjfaa
