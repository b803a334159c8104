/- The cursor of drawn inputs: it reads an argument's bytes and goes on behind their end. -/
import Derived.Test.YtkdoghopbefjfaaB
import Derived.Carry
import Derived.Deep.Matrix
import Derived.Deep.RegionWith
import Derived.Deep.RegionHeld3
import Derived.BigQuiet
import Derived.Deep.QuietTactic
namespace Go.Proofs.Ytkdoghopbefjfaa
open Go.RowKit Go.BigFrame Go.Deep
set_option linter.unusedSimpArgs false
set_option linter.unusedVariables false
set_option maxRecDepth 4000

/-- An argument's bytes. -/
def ArgY (w : World) (u : Value) (ns : List Int) : Prop :=
  ∃ A C, u = .slice A ns.length C ∧ ns.length ≤ C ∧ C ≤ 9223372036854775807 ∧
    ∀ c (hc : c < ns.length), ∃ b o, A = some ⟨b, o, none⟩ ∧ b < w.heap.size ∧ w.cell? ⟨b, o + c, none⟩ = some (.int .u8 ns[c]) ∧ 0 ≤ ns[c] ∧ ns[c] ≤ 255
theorem argY_below {w w' : World} {u : Value} {ns : List Int} (h : ArgY w u ns) (hb : Below w.heap.size w w') : ArgY w' u ns := by
  obtain ⟨A, C, h1, h2, h3, h4⟩ := h
  refine ⟨A, C, h1, h2, h3, fun c hc => ?_⟩
  obtain ⟨b, o, e1, e2, e3, e4⟩ := h4 c hc
  exact ⟨b, o, e1, Nat.lt_of_lt_of_le e2 hb.size, (hb.cell (p := ⟨b, o + c, none⟩) e2).trans e3, e4⟩
section
open Go.ChangeShapes Go.WideShapes Go.Deep
theorem add_plainY (b o r : Nat) : (⟨b, o, none⟩ : Addr).add r = ⟨b, o + r, none⟩ := by
  unfold Addr.add
  split
  · subst_vars; rfl
  · rfl
/-- The argument, opened. -/
theorem argY_of_trod {H : Type} {enc : TypeId × Value → H} {W : World} {a0 : Option Addr} {len cap : Nat} {d0 : DataW H} {p0 : List MemPlace}
    (h0 : DataW.Trod enc Try.prog W 0 (fun _ => true) true 22 (.slice a0 len cap) d0 p0) : ∃ ns, ArgY W (.slice a0 len cap) ns := by
  obtain ⟨fuel0, hf⟩ := h0
  rcases open_ints Try.underlying22 Try.underlying5 (by kernel_rfl) hf with ⟨hcs0, hx⟩ | ⟨a, len', cap', zs, hcs0, _, hl, hm, hlen, hx, hcell, hwf⟩
  · simp [Value.cells] at hcs0
    obtain ⟨rfl, rfl, rfl⟩ := hcs0
    exact ⟨[], none, 0, rfl, Nat.le_refl _, by omega, fun r hr => by simp at hr⟩
  · simp [Value.cells] at hcs0
    obtain ⟨rfl, rfl, rfl⟩ := hcs0
    simp at hlen
    unfold maxLen at hm
    refine ⟨zs.take len, some a, cap, by simp; omega, by simp; omega, by omega, fun c hc => ?_⟩
    have hcl : c < len := by simp at hc; omega
    obtain ⟨b, o, spot⟩ := a
    have hs2 : spot = none := by simpa [Addr.add] using World.cell?_spot (hcell 0 (by omega))
    subst hs2
    have h7 : W.cell? ⟨b, o + c, none⟩ = some (.int .u8 (zs.getD c 0)) := by rw [← hcell c (by omega), add_plainY]
    refine ⟨b, o, rfl, World.block_lt_of_cell? _ _ h7, ?_, ?_⟩
    · rw [h7]
      simp [List.getD, show c < zs.length by omega]
    · have hc2 : c < zs.length := by omega
      have := hwf (zs[c]'hc2) (List.getElem_mem hc2)
      simp [Lit.wf, IntKind.min, IntKind.max, IntKind.signed, IntKind.bits] at this
      simp only [List.getElem_take]
      omega
end

/-- A cursor in block g, at most K bytes on. -/
structure Cur (w0 wr : World) (g : Nat) (cv : Value) (K : Nat) : Prop where
  obj : ∃ (a : Nat) (s : Int), a ≤ K ∧ 0 ≤ s ∧ s < 18446744073709551616 ∧ wr.heap[g]? = some (.cells #[cv, .int .i64 a, .int .u64 s] 78 (0, 0))
  base : w0.heap.size ≤ g
  below : Below w0.heap.size w0 wr
theorem Cur.lt {w0 wr : World} {g K : Nat} {cv : Value} (h : Cur w0 wr g cv K) : g < wr.heap.size := by
  obtain ⟨a, s, _, _, _, h4⟩ := h.obj
  exact (Array.getElem?_eq_some_iff.1 h4).1
/-- What has left the cursor's block as it was. -/
theorem Cur.later {w0 wr w' : World} {g K : Nat} {cv : Value} (h : Cur w0 wr g cv K) (hb : Below wr.heap.size wr w') : Cur w0 w' g cv K := by
  have hlt := h.lt
  obtain ⟨a, s, h1, h2, h3, h4⟩ := h.obj
  exact ⟨⟨a, s, h1, h2, h3, (hb.block g hlt).trans h4⟩, h.base, h.below.trans (hb.mono h.below.size)⟩
theorem Cur.mono {w0 wr : World} {g K K' : Nat} {cv : Value} (h : Cur w0 wr g cv K) (hk : K ≤ K') : Cur w0 wr g cv K' := by
  obtain ⟨a, s, h1, h2, h3, h4⟩ := h.obj
  exact ⟨⟨a, s, by omega, h2, h3, h4⟩, h.base, h.below⟩

/-- Three cells of a block. -/
structure TriC (w : World) (g : Nat) (a b c : Value) : Prop where
  c0 : w.cell? ⟨g, 0, none⟩ = some a
  c1 : w.cell? ⟨g, 1, none⟩ = some b
  c2 : w.cell? ⟨g, 2, none⟩ = some c
  f0 : w.frozen? ⟨g, 0, none⟩ = false
  f1 : w.frozen? ⟨g, 1, none⟩ = false
  f2 : w.frozen? ⟨g, 2, none⟩ = false
theorem tri_cells {w : World} {g : Nat} {a b c : Value} {T : TypeId} (h : w.heap[g]? = some (.cells #[a, b, c] T (0, 0))) : TriC w g a b c := by
  refine ⟨?_, ?_, ?_, ?_, ?_, ?_⟩
  · simp only [World.cell?, h]; rfl
  · simp only [World.cell?, h]; rfl
  · simp only [World.cell?, h]; rfl
  · simp only [World.frozen?, h]; simp
  · simp only [World.frozen?, h]; simp
  · simp only [World.frozen?, h]; simp
theorem tri_put1 {w : World} {g : Nat} {a b c : Value} {T : TypeId} (h : w.heap[g]? = some (.cells #[a, b, c] T (0, 0))) (x : Value) : (w.setCell ⟨g, 1, none⟩ x).heap[g]? = some (.cells #[a, x, c] T (0, 0)) := by
  have hg := (Array.getElem?_eq_some_iff.1 h).1
  simp [World.setCell, hg]
  rw [Array.getElem_modify_self]
  have h2 := (Array.getElem?_eq_some_iff.1 h).2
  rw [h2]; rfl
theorem tri_put2 {w : World} {g : Nat} {a b c : Value} {T : TypeId} (h : w.heap[g]? = some (.cells #[a, b, c] T (0, 0))) (x : Value) : (w.setCell ⟨g, 2, none⟩ x).heap[g]? = some (.cells #[a, b, x] T (0, 0)) := by
  have hg := (Array.getElem?_eq_some_iff.1 h).1
  simp [World.setCell, hg]
  rw [Array.getElem_modify_self]
  have h2 := (Array.getElem?_eq_some_iff.1 h).2
  rw [h2]; rfl
theorem grown_put (w : World) (g o : Nat) (x : Value) : w.grownBy (w.setCell ⟨g, o, none⟩ x) (some g) :=
  ⟨rfl, rfl, rfl, by simp, fun k _ hne => Below.heap_setCell _ _ _ _ (fun e => hne (by rw [e]))⟩
theorem grown_put2 (w : World) (n g : Nat) (x y : Value) : w.grownBy (((w.drewN n).setCell ⟨g, 1, none⟩ x).setCell ⟨g, 2, none⟩ y) (some g) := by
  have h0 : w.grownBy (w.drewN n) (some g) := ⟨rfl, rfl, rfl, Nat.le_refl _, fun _ _ _ => rfl⟩
  exact (h0.trans (grown_put _ g 1 x)).trans (grown_put _ g 2 y)
theorem grown_draw (w w' : World) (n g : Nat) (h : w.grownBy w' (some g)) : w.grownBy (w'.drewN n) (some g) :=
  ⟨h.os, h.tape, h.output, h.size, h.block⟩
theorem Cur.put {w0 w : World} {g K : Nat} {cv : Value} (hc : Cur w0 w g cv K) {a : Nat} {s s' : Int} (ha : a ≤ K) (h0 : 0 ≤ s') (h1 : s' < 18446744073709551616)
    (hobj : w.heap[g]? = some (.cells #[cv, .int .i64 (a : Int), .int .u64 s] 78 (0, 0))) (n : Nat) :
    Cur w0 (((w.drewN n).setCell ⟨g, 1, none⟩ (.int .i64 ((a : Int) + 1))).setCell ⟨g, 2, none⟩ (.int .u64 s')) g cv (K + 1) :=
  ⟨⟨a + 1, s', by omega, h0, h1, tri_put2 (tri_put1 (w := w.drewN n) hobj _) _⟩, hc.base, hc.below.grown (grown_put2 w n g _ _) hc.below.size (fun k hk => by cases hk; exact hc.base)⟩
theorem Cur.draw {w0 w : World} {g K : Nat} {cv : Value} (hc : Cur w0 w g cv K) (n : Nat) : Cur w0 (w.drewN n) g cv K :=
  ⟨hc.obj, hc.base, hc.below.trans (belowN _ _ _)⟩
theorem u64_in (x : Int) : 0 ≤ IntKind.u64.wrap x ∧ IntKind.u64.wrap x < 18446744073709551616 := by rw [IntKind.wrap_u64]; omega
theorem seed_byte (v : Int) (h0 : 0 ≤ v) (h1 : v < 18446744073709551616) : bits .and .u64 (v / 1099511627776) 255 = v / 1099511627776 % 256 :=
  bits_mask .u64 63 (by decide) (fun n h₀ h₁ => by rw [IntKind.wrap_u64]; omega) 8 (by decide) _ (by omega) (by omega)

set_option maxHeartbeats 4000000 in
theorem next_c (w0 w : World) (g K : Nat) (cv : Value) (ns : List Int) (ha : ArgY w0 cv ns) (hc : Cur w0 w g cv K) (hK : K ≤ 1000000000) :
    Calls Try.prog 109 #[.pointer (some ⟨g, 0, none⟩)] w fun e w' => ∃ x : Nat, e = .returned (.int .i64 (x : Int)) ∧ x ≤ 255 ∧ Cur w0 w' g cv (K + 1) ∧ w.grownBy w' (some g) := by
  obtain ⟨A, C, rfl, hC, hCm, hcell⟩ := ha
  obtain ⟨a, s, haK, hs0, hs1, hobj⟩ := hc.obj
  obtain ⟨c0, c1, c2, f0, f1, f2⟩ := tri_cells hobj
  obtain ⟨N, hN⟩ : ∃ N, N = ns.length := ⟨_, rfl⟩
  rw [← hN] at hC c0 hobj hc ⊢
  have HOBJ := Lib.hid hobj; have HC := Lib.hid hc
  by_cases hlt : a < N
  · obtain ⟨b, o, rfl, hb, hcl, hx0, hx9⟩ := hcell a (by omega)
    have hcw := (hc.below.cell (p := ⟨b, o + a, none⟩) hb).trans hcl
    have hbg : b ≠ g := by have := hc.base; omega
    generalize (ns[a]'(by omega)) = x at hcw hx0 hx9
    clear hcell hobj hc hcl hN
    go_enter Try.func109, Try.ntmps109
    go_wp2_with fail
    go_quiet (fail)
    revert nq; intro q1
    go_wp2_with fail
    go_quiet (fail)
    go_wp2_with fail
    obtain ⟨s', hs'⟩ : ∃ s', s' = IntKind.u64.wrap (IntKind.u64.wrap (IntKind.u64.wrap (s * 6364136223846793005) + x) + 1442695040888963407) := ⟨_, rfl⟩
    have hb' := u64_in (IntKind.u64.wrap (IntKind.u64.wrap (s * 6364136223846793005) + x) + 1442695040888963407)
    rw [← hs'] at hb' ⊢
    have HG := Lib.hid (grown_put2 w (q1 + nq) g (.int .i64 ((a : Int) + 1)) (.int .u64 s'))
    have hcu := HC.out.put haK hb'.1 hb'.2 HOBJ.out (q1 + nq)
    have HCU := Lib.hid hcu
    clear c0 c1 c2 f0 f1 f2
    obtain ⟨c0, c1, c2, f0, f1, f2⟩ := tri_cells (tri_put2 (tri_put1 (w := w.drewN (q1 + nq)) HOBJ.out (.int .i64 ((a : Int) + 1))) (.int .u64 s'))
    generalize ((w.drewN (q1 + nq)).setCell ⟨g, 1, none⟩ (.int .i64 ((a : Int) + 1))).setCell ⟨g, 2, none⟩ (.int .u64 s') = w2 at *
    clear hs' hcu
    have hle : ((a : Int) + 1 ≤ (N : Int)) = True := by simp; omega
    go_quiet (fail)
    go_wp2_with fail
    go_ret
    exact ⟨x.toNat, ret_int (by omega), by omega, HCU.out.draw _, grown_draw _ _ _ _ HG.out⟩
  · clear hcell hobj hc hN
    go_enter Try.func109, Try.ntmps109
    go_wp2_with fail
    go_quiet (fail)
    go_wp2_with fail
    obtain ⟨s', hs'⟩ : ∃ s', s' = IntKind.u64.wrap (IntKind.u64.wrap (IntKind.u64.wrap (s * 6364136223846793005)) + 1442695040888963407) := ⟨_, rfl⟩
    have hb' := u64_in (IntKind.u64.wrap (IntKind.u64.wrap (s * 6364136223846793005)) + 1442695040888963407)
    rw [← hs'] at hb' ⊢
    have HG := Lib.hid (grown_put2 w nq g (.int .i64 ((a : Int) + 1)) (.int .u64 s'))
    have hcu := HC.out.put haK hb'.1 hb'.2 HOBJ.out nq
    have HCU := Lib.hid hcu
    clear c0 c1 c2 f0 f1 f2
    obtain ⟨c0, c1, c2, f0, f1, f2⟩ := tri_cells (tri_put2 (tri_put1 (w := w.drewN nq) HOBJ.out (.int .i64 ((a : Int) + 1))) (.int .u64 s'))
    generalize ((w.drewN nq).setCell ⟨g, 1, none⟩ (.int .i64 ((a : Int) + 1))).setCell ⟨g, 2, none⟩ (.int .u64 s') = w2 at *
    clear hs' hcu
    have hle : ((a : Int) + 1 ≤ (N : Int)) = False := by simp; omega
    have hsb := seed_byte s' hb'.1 hb'.2
    go_quiet (fail)
    go_wp2_with fail
    go_ret
    exact ⟨(s' / 1099511627776 % 256).toNat, ret_int (by omega), by omega, HCU.out.draw _, grown_draw _ _ _ _ HG.out⟩

set_option maxHeartbeats 4000000 in
theorem pick_c (w0 w : World) (g K n : Nat) (cv : Value) (ns : List Int) (ha : ArgY w0 cv ns) (hc : Cur w0 w g cv K) (hK : K ≤ 100000000) (hn : 1 ≤ n) (hn9 : n ≤ 1000000) :
    Calls Try.prog 99 #[.pointer (some ⟨g, 0, none⟩), .int .i64 (n : Int)] w fun e w' => ∃ x : Nat, e = .returned (.int .i64 (x : Int)) ∧ x < n ∧ Cur w0 w' g cv (K + 2) ∧ w.grownBy w' (some g) := by
  by_cases h1 : n ≤ 1
  · have HC := Lib.hid (hc.mono (show K ≤ K + 2 by omega))
    clear hc
    go_enter Try.func99, Try.ntmps99
    go_wp2_with fail
    go_ret
    exact ⟨0, rfl, by omega, HC.out, World.grownBy.refl _ _⟩
  · have HN := Lib.hid (next_c w0 w g K cv ns ha hc (by omega))
    have HA := Lib.hid ha
    clear hc ha
    go_enter Try.func99, Try.ntmps99
    go_wp2_with fail
    refine HN.out.mono ?_
    rintro e w1 ⟨x, rfl, hx, hcu, hg⟩
    by_cases h2 : 200 < n
    · have HN2 := Lib.hid (next_c w0 w1 g (K + 1) cv ns HA.out hcu (by omega))
      have HG := Lib.hid hg
      clear hcu hg
      go_wp2_with fail
      refine HN2.out.mono ?_
      rintro e w2 ⟨x2, rfl, hx2, hcu, hg⟩
      have HG2 := Lib.hid (HG.out.trans hg); have HC := Lib.hid hcu
      clear hg hcu
      have hm : ((x : Int) * 256 + (x2 : Int)).tmod (n : Int) = (((x * 256 + x2) % n : Nat) : Int) := by rw [Int.tmod_eq_emod_of_nonneg (by omega)]; push_cast; rfl
      have hlt := Nat.mod_lt (x * 256 + x2) (show 0 < n by omega)
      generalize (x * 256 + x2) % n = y at hm hlt
      go_wp2_with fail
      go_ret
      exact ⟨y, rfl, hlt, HC.out, HG2.out⟩
    · have HG := Lib.hid hg; have HC := Lib.hid (hcu.mono (show K + 1 ≤ K + 2 by omega))
      clear hcu hg
      have hm : (x : Int).tmod (n : Int) = ((x % n : Nat) : Int) := by rw [Int.tmod_eq_emod_of_nonneg (by omega)]; push_cast; rfl
      have hlt := Nat.mod_lt x (show 0 < n by omega)
      generalize x % n = y at hm hlt
      go_wp2_with fail
      go_ret
      exact ⟨y, rfl, hlt, HC.out, HG.out⟩
theorem one_c (w0 w : World) (g K n : Nat) (cv : Value) (ns : List Int) (ha : ArgY w0 cv ns) (hc : Cur w0 w g cv K) (hK : K ≤ 100000000) (hn : 1 ≤ n) (hn9 : n ≤ 1000000) :
    Calls Try.prog 76 #[.pointer (some ⟨g, 0, none⟩), .int .i64 (n : Int)] w fun e w' => ∃ b : Bool, e = .returned (.bool b) ∧ Cur w0 w' g cv (K + 2) ∧ w.grownBy w' (some g) := by
  have HP := Lib.hid (pick_c w0 w g K n cv ns ha hc hK hn hn9)
  clear ha hc
  go_enter Try.func76, Try.ntmps76
  go_wp2_with fail
  refine HP.out.mono ?_
  rintro e w1 ⟨x, rfl, hx, hcu, hg⟩
  have HG := Lib.hid hg; have HC := Lib.hid hcu
  clear hcu hg
  go_wp2_with fail
  go_ret
  exact ⟨_, rfl, HC.out, HG.out⟩
set_option maxHeartbeats 1000000 in
theorem among_c (w0 w : World) (g K b L c : Nat) (cv : Value) (ns xs : List Int) (ha : ArgY w0 cv ns) (hc : Cur w0 w g cv K) (hK : K ≤ 100000000) (hL : xs.length = L) (h1 : 1 ≤ L) (h9 : L ≤ 100000) (hLc : L ≤ c) (hc9 : c ≤ 9223372036854775807)
    (hbg : b ≠ g) (hb : b < w.heap.size) (hx : ∀ i (h : i < xs.length), w.cell? ⟨b, i, none⟩ = some (.int .i64 xs[i])) :
    Calls Try.prog 69 #[.pointer (some ⟨g, 0, none⟩), .slice (some ⟨b, 0, none⟩) L c] w fun e w' => ∃ x ∈ xs, e = .returned (.int .i64 x) ∧ Cur w0 w' g cv (K + 2) ∧ w.grownBy w' (some g) := by
  have HP := Lib.hid (pick_c w0 w g K L cv ns ha hc hK h1 (by omega))
  have HX := Lib.hid hx; have HL := Lib.hid hL
  clear ha hc hx hL
  go_enter Try.func69, Try.ntmps69
  go_wp2_with fail
  refine HP.out.mono ?_
  rintro e w1 ⟨x, rfl, hx, hcu, hg⟩
  have hxl : x < xs.length := by rw [HL.out]; exact hx
  have hcell : w1.cell? ⟨b, x, none⟩ = some (.int .i64 xs[x]) := hg.cell (HX.out x hxl) (fun e => hbg (by injection e))
  have hmem := List.getElem_mem hxl
  have HM := Lib.hid hmem
  generalize xs[x] = y at hcell HM
  have HG := Lib.hid hg; have HC := Lib.hid hcu
  clear hcu hg hmem hxl
  go_wp2_with fail
  go_ret
  exact ⟨y, HM.out, rfl, HC.out, HG.out⟩
end Go.Proofs.Ytkdoghopbefjfaa
