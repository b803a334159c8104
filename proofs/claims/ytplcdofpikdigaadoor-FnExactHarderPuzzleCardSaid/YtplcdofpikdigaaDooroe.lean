/- Chapter 9: the model's pzAll, pzAsked. -/
import Derived.Test.YtplcdofpikdigaaDoorod
namespace Go.Proofs.YtplcdofpikdigaaDoor
open Go.RowKit Go.BigFrame
set_option linter.unusedSimpArgs false
set_option linter.unusedVariables false
set_option maxRecDepth 4000

/-- What the model finds: all solutions up to 201 of them. -/
def AskP (L : List (List UInt8)) (w w' : World) (a : Option Addr) (c : Nat) : Prop :=
  w'.ownsRow w.heap.size 9 1 (.slice a (L.take 201).length c) (L.take 201).length (strA (L.take 201)) ∧ Below w.heap.size w w'
set_option maxHeartbeats 1000000 in
theorem pzAll_any (D : Nat) (W S : List UInt8) (w : World) (hD : 1 ≤ D) (hD4 : D ≤ 4) (h1 : 1 ≤ W.length) (h8 : W.length ≤ 8) (hS : S.length ≤ 16) (hsg : W.all (sgB (D : Int)) = true) :
    Calls Tryd.prog 43 #[pzV W S (D : Int)] w fun e w' => ∃ a c, e = .returned (.tuple #[.slice a ((solsL W S D).take 201).length c, .bool (decide ((solsL W S D).length ≤ 200))]) ∧ AskP (solsL W S D) w w' a c := by
  have hL : ∀ W0 : World, OneAt W0 (w.heap.size + 1) (.slice none 0 0) 25 → w.heap.size ≤ W0.heap.size → Calls Tryd.prog 63 #[pzV W S (D : Int), .string ⟨#[]⟩, .pointer (some ⟨w.heap.size + 1, 0, none⟩)] W0 fun e w' =>
      e = .returned (.tuple #[]) ∧ ∃ v', TxtAt w' w.heap.size (w.heap.size + 1) v' ((solsL W S D).take 201) ∧ KeptL (w.heap.size + 1) none W0 w' := fun W0 hb hs => by
    have h := pzLook_any D W S hD hD4 h1 h8 hS hsg w.heap.size (w.heap.size + 1) W.length [] [] (.slice none 0 0) W0 (by simp) rfl (by simp) ⟨hb, ⟨by simp [strA], .inl ⟨rfl, rfl⟩⟩, fun q e => by simp [Value.ownBlock] at e⟩ hs
    refine h.mono ?_
    rintro e w' ⟨rfl, v', hT, hK, _⟩
    refine ⟨rfl, v', ?_, hK⟩
    rw [begL_nil] at hT
    simpa [keepL] using hT
  obtain ⟨L, hLL⟩ : ∃ L, L = solsL W S D := ⟨_, rfl⟩
  rw [← hLL] at hL ⊢
  unfold pzV at hL ⊢
  obtain ⟨u, hu⟩ : ∃ u, u = bs W := ⟨_, rfl⟩
  obtain ⟨sv, hsv⟩ : ∃ sv, sv = bs S := ⟨_, rfl⟩
  rw [← hu, ← hsv] at hL ⊢
  have HL := Lib.hid hL
  obtain ⟨M, hM⟩ : ∃ M, M = L.take 201 := ⟨_, rfl⟩
  have hMl : decide (M.length ≤ 200) = decide (L.length ≤ 200) := by
    rw [hM, List.length_take, decide_eq_decide]; omega
  obtain ⟨dl, hdl⟩ : ∃ dl, dl = decide (L.length ≤ 200) := ⟨_, rfl⟩
  have hdz : decide (((M.length : Nat) : Int) ≤ 200) = dl := by
    rw [hdl, ← hMl, decide_eq_decide]; omega
  unfold AskP
  rw [← hM, ← hdl]
  rw [← hM] at HL
  have hx0 := ((threeAt_new w (.string u) (.string sv) (.int .i64 (D : Int)) 28).below (below_alloc _ (.cells #[.slice none 0 0] 25))).cells
  obtain ⟨c0, c1, c2, _, _, _⟩ := hx0
  have hone : OneAt ((w.alloc (.cells #[.string u, .string sv, .int .i64 (D : Int)] 28)).alloc (.cells #[.slice none 0 0] 25)) (w.heap.size + 1) (.slice none 0 0) 25 := by
    have := oneAt_new (w.alloc (.cells #[.string u, .string sv, .int .i64 (D : Int)] 28)) (.slice none 0 0) 25
    rw [World.size_alloc] at this
    exact this
  have HC := Lib.hid (HL.out _ hone (by simp; omega))
  obtain ⟨n, hn⟩ : ∃ n, n = M.length := ⟨_, rfl⟩
  rw [← hn] at hdz ⊢
  have HNN := Lib.hid hn
  clear hL hLL hsg hu hsv hM hMl hdl hone HL hn
  go_enter Tryd.func43, Tryd.ntmps43
  go_wp2_with fail
  refine HC.out.mono ?_
  rintro e w2 ⟨rfl, v', hT, hK⟩
  have hvs : ∃ a c, v' = .slice a n c := by
    rcases own_open hT.own with ⟨h, h2, _⟩ | ⟨g, c, h, _⟩
    · exact ⟨none, 0, by rw [h, HNN.out, h2]⟩
    · exact ⟨_, _, by rw [h, HNN.out]⟩
  obtain ⟨a, c, rfl⟩ := hvs
  have hc := hT.box.cell
  have HO := Lib.hid hT.own
  have HB : Hid (Below w.heap.size w w2) := Lib.hid ⟨hK.os, hK.tape, hK.output, by have := hK.size; simp at this; omega, fun k hk => by
    rw [hK.block k (by simp; omega) (by omega) (by simp)]
    exact (below_trans (below_alloc _ _) (below_alloc _ _)).block k hk⟩
  clear hT hK c0 c1 c2
  go_wp2_with fail
  go_quiet (fail)
  go_wp2_with fail
  go_ret2
  exact ⟨a, c, rfl, own_below (HNN.out ▸ HO.out) (belowN _ _ nq), HB.out.trans (belowN _ _ nq)⟩

def askL (W S : List UInt8) (D : Int) : List (List UInt8) := if pzB W S D = true then (solsL W S D.toNat).take 201 else []
def askB (W S : List UInt8) (D : Int) : Bool := pzB W S D && decide ((solsL W S D.toNat).length ≤ 200)
/-- Texts of the call's own. -/
def AskPost (L : List (List UInt8)) (b : Bool) (w w' : World) (e : Ending) : Prop :=
  ∃ a c, e = .returned (.tuple #[.slice a L.length c, .bool b]) ∧ w'.ownsRow w.heap.size 9 1 (.slice a L.length c) L.length (strA L) ∧ Below w.heap.size w w'
set_option maxHeartbeats 1000000 in
theorem pzAsked_any (W S : List UInt8) (D : Int) (w : World) (hW : W.length ≤ maxLen) (hS : S.length ≤ maxLen) :
    Calls Tryd.prog 33 #[pzV W S D] w fun e w' => AskPost (askL W S D) (askB W S D) w w' e := by
  have hG := fun W' => pzGood_any W S D W' hW hS
  cases hg : pzB W S D with
  | false =>
    rw [hg] at hG
    have HG := Lib.hid hG
    have h1 : askL W S D = [] := by unfold askL; rw [if_neg (by rw [hg]; simp)]
    have h2 : askB W S D = false := by unfold askB; rw [hg]; rfl
    rw [h1, h2]
    generalize hv : pzV W S D = v at *
    unfold pzV at hv
    subst hv
    clear hG h1 h2 hg
    go_enter Tryd.func33, Tryd.ntmps33
    go_wp2_with fail
    refine (HG.out _).mono ?_
    rintro e w1 ⟨rfl, hb⟩
    have HB := Lib.hid hb; clear hb
    go_wp2_with fail
    go_ret2
    exact ⟨none, 0, rfl, ⟨by simp [strA], .inl ⟨rfl, rfl⟩⟩, below_trans (below_alloc _ _) HB.out⟩
  | true =>
    rw [hg] at hG
    have hp := pzS_parts (pzB_parts hg).1
    have hsg := (pzB_parts hg).2.1
    obtain ⟨Dn, hDn⟩ : ∃ Dn : Nat, D = (Dn : Int) := ⟨D.toNat, by omega⟩
    subst hDn
    have hA := fun W0 => pzAll_any Dn W S W0 (by omega) (by omega) (by omega) (by omega) (by omega) hsg
    have h1 : askL W S (Dn : Int) = (solsL W S Dn).take 201 := by unfold askL; rw [if_pos hg, show ((Dn : Int)).toNat = Dn by omega]
    have h2 : askB W S (Dn : Int) = decide ((solsL W S Dn).length ≤ 200) := by unfold askB; rw [hg, show ((Dn : Int)).toNat = Dn by omega]; rfl
    rw [h1, h2]
    have HG := Lib.hid hG; have HA := Lib.hid hA
    obtain ⟨dl, hdl⟩ : ∃ dl, dl = decide ((solsL W S Dn).length ≤ 200) := ⟨_, rfl⟩
    unfold AskP at HA
    rw [← hdl] at HA ⊢
    generalize (solsL W S Dn).take 201 = M at *
    generalize hv : pzV W S (Dn : Int) = v at *
    unfold pzV at hv
    subst hv
    clear hG hA h1 h2 hg hp hsg hdl
    go_enter Tryd.func33, Tryd.ntmps33
    go_wp2_with fail
    refine (HG.out _).mono ?_
    rintro e w1 ⟨rfl, hb⟩
    obtain ⟨c0, c1, c2, _, _, _⟩ := ((threeAt_new w (.string (bs W)) (.string (bs S)) (.int .i64 (Dn : Int)) 28).below hb).cells
    have HB := Lib.hid (below_trans (below_alloc _ _) hb); clear hb
    go_wp2_with fail
    refine (HA.out _).mono ?_
    rintro e w2 ⟨a, c, rfl, ho, hb⟩
    have HO := Lib.hid ho; have HB2 := Lib.hid hb
    clear ho hb
    go_wp2_with fail
    go_ret2
    exact ⟨a, c, rfl, own_mono HO.out HB.out.size, below_trans HB.out HB2.out⟩
end Go.Proofs.YtplcdofpikdigaaDoor
