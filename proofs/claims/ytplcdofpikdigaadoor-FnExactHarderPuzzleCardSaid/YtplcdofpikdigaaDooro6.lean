/- Chapter 9: tryWord: the door to which a misfit comes. -/
import Derived.Test.YtplcdofpikdigaaDooro5
import Derived.Recover
import Derived.Defers
namespace Go.Proofs.YtplcdofpikdigaaDoor
open Go.RowKit Go.BigFrame Go.Shelf
set_option linter.unusedSimpArgs false
set_option linter.unusedVariables false
set_option maxRecDepth 4000

set_option maxHeartbeats 400000 in
theorem catch_misfit (p q : Nat) (x y : Value) (k : Nat) (w : World) (hp : OneAt w p x 3) (hq : OneAt w q y 4) (hne : p ≠ q) :
    CallsD Tryd.prog 71 #[.pointer (some ⟨p, 0, none⟩), .pointer (some ⟨q, 0, none⟩)] (.panicking (misV k)) w fun e u' w' =>
      e = .returned (.tuple #[]) ∧ u' = .panicking [{ v := .iface 73 (.int .i64 (k : Int)), recovered := true }] ∧ w' = (w.setCell ⟨p, 0, none⟩ (.int .i64 (k : Int))).setCell ⟨q, 0, none⟩ (.bool false) := by
  refine callsD_of_wpS Tryd.func71 rfl fun c₀ cs hu => ?_
  have f1 := hp.frozen; have f2 := hq.frozen; have c1 := hp.cell; have c2 := hq.cell
  have hne' : q ≠ p := fun e => hne e.symm
  have hta : ∀ W : World, Sem.run Tryd.prog (Instr.typeAssert (.iface 73 (.int .i64 (k : Int))) 20 73 true) W = .ok (.tuple #[.int .i64 (k : Int), .bool true]) W := fun W => by kernel_rfl
  apply wpS_seq
  apply wpS_region
  simp [wpOpsS, go_sem, recoverD, hu, hta, misV, Tryd.ntmps71, Exit.thenS]
  apply wpS_seq
  apply wpS_region
  simp [wpOpsS, go_sem, Array.replicate, Exit.thenS]
  refine wpS_cond (t := true) (by simp [Act.eval, Array.replicate]) ?_
  simp only [if_true]
  apply wpS_region
  simp [wpOpsS, go_sem, c1, c2, f1, f2, hne, hne', Array.replicate, bodyPostS, results, Tryd.results71]
set_option maxHeartbeats 400000 in
theorem catch_none (p q : Nat) (w : World) :
    CallsD Tryd.prog 71 #[.pointer (some ⟨p, 0, none⟩), .pointer (some ⟨q, 0, none⟩)] .returning w fun e u' w' => e = .returned (.tuple #[]) ∧ u' = .returning ∧ w' = w := by
  refine callsD_of_wpS Tryd.func71 rfl fun c₀ cs hu => ?_
  have hta : ∀ W : World, Sem.run Tryd.prog (Instr.typeAssert .nilIface 20 73 true) W = .ok (.tuple #[.int .i64 0, .bool false]) W := fun W => by kernel_rfl
  apply wpS_seq
  apply wpS_region
  simp [wpOpsS, go_sem, recoverD, hu, hta, misV, Tryd.ntmps71, Exit.thenS]
  apply wpS_seq
  apply wpS_region
  simp [wpOpsS, go_sem, Array.replicate, Exit.thenS]
  refine wpS_cond (t := false) (by simp [Act.eval, Array.replicate]) ?_
  simp only [Bool.false_eq_true, if_false]
  refine wpS_of_wp (wp_skip ?_)
  cases c₀
  simp_all [bodyPostS, results, Tryd.results71]

theorem three_boxes (w : World) (a b c x y : Value) (T T1 T2 : TypeId) :
    ThreeAt (((w.alloc (.cells #[a, b, c] T)).alloc (.cells #[x] T1)).alloc (.cells #[y] T2)) w.heap.size a b c T ∧
    OneAt (((w.alloc (.cells #[a, b, c] T)).alloc (.cells #[x] T1)).alloc (.cells #[y] T2)) (w.heap.size + 1) x T1 ∧
    OneAt (((w.alloc (.cells #[a, b, c] T)).alloc (.cells #[x] T1)).alloc (.cells #[y] T2)) (w.heap.size + 1 + 1) y T2 ∧
    Below w.heap.size w (((w.alloc (.cells #[a, b, c] T)).alloc (.cells #[x] T1)).alloc (.cells #[y] T2)) := by
  have a0 := threeAt_new w a b c T
  have a1 := oneAt_new (w.alloc (.cells #[a, b, c] T)) x T1
  have a2 := oneAt_new ((w.alloc (.cells #[a, b, c] T)).alloc (.cells #[x] T1)) y T2
  simp only [World.size_alloc] at a1 a2
  have c0 := (a0.below (below_alloc _ (.cells #[x] T1))).below (below_alloc _ (.cells #[y] T2))
  have c1 := a1.below (below_alloc _ (.cells #[y] T2))
  exact ⟨c0, c1, a2, (((Below.refl _ w).alloc (Nat.le_refl _) _).alloc (by simp) _).alloc (by simp; omega) _⟩
/-- What tryWord answers: a place; no other solution has the same digits up to there. -/
def TryPost (l W S : List UInt8) (D : Int) (e : Ending) : Prop :=
  ∃ k, k < l.length ∧ e = .returned (.tuple #[.int .i64 (k : Int), .bool (solB W S D l)]) ∧ NoSol W S D l k
set_option maxHeartbeats 1000000 in
theorem tryWord_any (l W S : List UInt8) (D : Int) (w : World) (h1 : 1 ≤ l.length) (h8 : l.length ≤ 8) (hW : W.length = l.length) (hS : S.length ≤ 16) (hS2 : S.length % 2 = 0) (hd : l.all digB = true) :
    Calls Tryd.prog 54 #[pzV W S D, .string (bs l)] w fun e w' => TryPost l W S D e ∧ Below w.heap.size w w' := by
  have HCD := Lib.hid (fun W' => checkDigits_any l W S D W' h1 h8 hW hd)
  have HCS := Lib.hid (fun W' => checkSaid_any l W S D W' h1 h8 hS hS2 hd)
  have hmf : ∀ (fn : Fn) (first cap : Array Value) (w : World), (Instr.makeFunc fn first cap).run Tryd.prog w = .ok (.func fn first cap) w := fun _ _ _ _ => rfl
  have htn : (bs l).size = l.length := bs_size l
  have HBD : Hid (∀ k, k < l.length → ¬ dgOk W D l k → solB W S D l = false ∧ NoSol W S D l k) := Lib.hid (fun k hk hb => bad_digit hk hb)
  have HGA : Hid ((∀ k, k < l.length → dgOk W D l k) → S.length = 2 * (runsL l).length → rnOk S (runsL l) (runsL l).length → solB W S D l = true ∧ NoSol W S D l (l.length - 1)) := Lib.hid (fun a b c =>
    ⟨good_all ⟨rfl, hd⟩ h1 h8 hW.symm a b (fun m h => (c m h h).2), noSol_all W S D l h1⟩)
  have hwn : IntKind.i64.wrap ((l.length : Int) - 1) = (l.length : Int) - 1 := by rw [IntKind.wrap_i64]; omega
  generalize hb : bs l = t at *
  unfold pzV at *
  obtain ⟨PST, hPST⟩ : ∃ PST : Ending → Prop, PST = TryPost l W S D := ⟨_, rfl⟩
  rw [← hPST]
  have HP := Lib.hid hPST
  clear hPST hb hW hS hS2 hd
  obtain ⟨hx0, hx1, hx2, hxb⟩ := three_boxes w (.string (bs W)) (.string (bs S)) (.int .i64 D) (.int .i64 0) (.bool false) 28 3 4
  have HX0 := Lib.hid hx0; have HX1 := Lib.hid hx1; have HX2 := Lib.hid hx2; have HXB := Lib.hid hxb
  clear hx0 hx1 hx2 hxb
  have hne : w.heap.size + 1 ≠ w.heap.size + 1 + 1 := by omega
  go_enter_defers Tryd.func54, Tryd.ntmps54
  go_wp2_with fail
  generalize hW0 : (((w.alloc (.cells #[.string (bs W), .string (bs S), .int .i64 D] 28)).alloc (.cells #[.int .i64 0] 3)).alloc (.cells #[.bool false] 4)) = W0 at *
  refine (HCD.out _).mono ?_
  rintro e w1 ⟨⟨rfl, hall⟩ | ⟨k, hk, hbad, rfl⟩, hb⟩
  · have HALL := Lib.hid hall
    have HX0 := Lib.hid (HX0.out.below hb); have HX1 := Lib.hid (HX1.out.below hb); have HX2 := Lib.hid (HX2.out.below hb)
    have HXB := Lib.hid (HXB.out.trans (hb.mono HXB.out.size))
    clear hall hb
    obtain ⟨c0, c1, c2, _, _, _⟩ := HX0.out.cells
    go_wp2_with fail
    refine (HCS.out _).mono ?_
    rintro e w2 ⟨⟨rfl, hs1, hs2⟩ | ⟨k, hk, rfl, hs1, hs2⟩, hb⟩
    · have HX1 := Lib.hid (HX1.out.below hb); have HX2 := Lib.hid (HX2.out.below hb)
      have HXB := Lib.hid (HXB.out.trans (hb.mono HXB.out.size))
      have HS := Lib.hid (HGA.out HALL.out hs1 hs2)
      clear hb hs1 hs2 c0 c1 c2
      have f1 := HX1.out.frozen; have f2 := HX2.out.frozen; have d1 := HX1.out.cell; have d2 := HX2.out.cell
      go_wp2_with fail
      refine leaves_cons (f := 71) (args := #[.pointer (some ⟨w.heap.size + 1, 0, none⟩), .pointer (some ⟨w.heap.size + 1 + 1, 0, none⟩)]) (by simp) (by simp [go_sem]) ?_
      refine (catch_none _ _ _).mono ?_
      rintro e u' w'' ⟨rfl, rfl, rfl⟩
      have X1 := ((HX1.out.set (.int .i64 ((l.length : Int) - 1))).other (p := ⟨w.heap.size + 1 + 1, 0, none⟩) (.bool true) (by simp)).cell
      have X2 := ((HX2.out.other (p := ⟨w.heap.size + 1, 0, none⟩) (.int .i64 ((l.length : Int) - 1)) (by simp)).set (.bool true)).cell
      refine ⟨.tuple #[.int .i64 ((l.length : Int) - 1), .bool true], ?_, ?_, ?_⟩
      · simp [results, Tryd.results54, go_sem, X1, X2]
      · rw [HP.out]
        refine ⟨l.length - 1, by omega, ?_, HS.out.2⟩
        rw [HS.out.1, show ((l.length - 1 : Nat) : Int) = (l.length : Int) - 1 by omega]
      · exact (HXB.out.setCell (p := ⟨w.heap.size + 1, 0, none⟩) (by simp) _).setCell (p := ⟨w.heap.size + 1 + 1, 0, none⟩) (by simp; omega) _
    · have HX1 := Lib.hid (HX1.out.below hb); have HX2 := Lib.hid (HX2.out.below hb)
      have HXB := Lib.hid (HXB.out.trans (hb.mono HXB.out.size))
      have HS1 := Lib.hid hs1; have HS2 := Lib.hid hs2
      clear hb hs1 hs2
      refine leaves_cons (f := 71) (args := #[.pointer (some ⟨w.heap.size + 1, 0, none⟩), .pointer (some ⟨w.heap.size + 1 + 1, 0, none⟩)]) (by simp) (by simp [go_sem]) ?_
      refine (catch_misfit _ _ _ _ k _ HX1.out HX2.out hne).mono ?_
      rintro e u' w'' ⟨rfl, rfl, rfl⟩
      have X1 := ((HX1.out.set (.int .i64 (k : Int))).other (p := ⟨w.heap.size + 1 + 1, 0, none⟩) (.bool false) (by simp)).cell
      have X2 := ((HX2.out.other (p := ⟨w.heap.size + 1, 0, none⟩) (.int .i64 (k : Int)) (by simp)).set (.bool false)).cell
      refine ⟨.tuple #[.int .i64 (k : Int), .bool false], ?_, ?_, ?_⟩
      · simp [results, Tryd.results54, go_sem, X1, X2]
      · rw [HP.out]
        exact ⟨k, hk, by rw [HS1.out], HS2.out⟩
      · exact (HXB.out.setCell (p := ⟨w.heap.size + 1, 0, none⟩) (by simp) _).setCell (p := ⟨w.heap.size + 1 + 1, 0, none⟩) (by simp; omega) _
  · have HX1 := Lib.hid (HX1.out.below hb); have HX2 := Lib.hid (HX2.out.below hb)
    have HXB := Lib.hid (HXB.out.trans (hb.mono HXB.out.size))
    have HB := HBD.out k hk hbad
    have HS1 := Lib.hid HB.1; have HS2 := Lib.hid HB.2
    clear hb hbad HB
    refine leaves_cons (f := 71) (args := #[.pointer (some ⟨w.heap.size + 1, 0, none⟩), .pointer (some ⟨w.heap.size + 1 + 1, 0, none⟩)]) (by simp) (by simp [go_sem]) ?_
    refine (catch_misfit _ _ _ _ k _ HX1.out HX2.out hne).mono ?_
    rintro e u' w'' ⟨rfl, rfl, rfl⟩
    have X1 := ((HX1.out.set (.int .i64 (k : Int))).other (p := ⟨w.heap.size + 1 + 1, 0, none⟩) (.bool false) (by simp)).cell
    have X2 := ((HX2.out.other (p := ⟨w.heap.size + 1, 0, none⟩) (.int .i64 (k : Int)) (by simp)).set (.bool false)).cell
    refine ⟨.tuple #[.int .i64 (k : Int), .bool false], ?_, ?_, ?_⟩
    · simp [results, Tryd.results54, go_sem, X1, X2]
    · rw [HP.out]
      exact ⟨k, hk, by rw [HS1.out], HS2.out⟩
    · exact (HXB.out.setCell (p := ⟨w.heap.size + 1, 0, none⟩) (by simp) _).setCell (p := ⟨w.heap.size + 1 + 1, 0, none⟩) (by simp; omega) _
end Go.Proofs.YtplcdofpikdigaaDoor
