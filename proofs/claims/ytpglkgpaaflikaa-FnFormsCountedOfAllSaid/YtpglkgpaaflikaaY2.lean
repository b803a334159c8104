/- Chapter 6: the closure that keeps last places, called; the call that makes it. -/
import Derived.Test.YtpglkgpaaflikaaY1
namespace Go.Proofs.Ytpglkgpaaflikaa
open Go.RowKit Go.BigFrame Go.Maps
set_option linter.unusedSimpArgs false
set_option linter.unusedVariables false
set_option maxRecDepth 4000

theorem ownI_block {w w' : World} {b n : Nat} {D : DataW Unit} (h : OwnI w b n D) (e : w'.heap[b]? = w.heap[b]?) : OwnI w' b n D := by
  obtain ⟨es, c, h1, h2⟩ := h
  exact ⟨es, c, e.trans h1, h2⟩
theorem LastAt.keep {w w' : World} {B pb vb mb k : Nat} {s : Nat → Int} (h : LastAt w B pb vb mb k s) (hs : w.heap.size ≤ w'.heap.size) (hb : ∀ g, B ≤ g → g < w.heap.size → g = pb ∨ g = vb ∨ g = mb → w'.heap[g]? = w.heap[g]?) : LastAt w' B pb vb mb k s := by
  obtain ⟨n, D, hn, hD, hO, ⟨a1, a2, a3, a4, a5, a6, a7, a8⟩, c1, c2, c3⟩ := h
  have k1 := hb pb a1 a7 (.inl rfl)
  have k2 := hb vb a2 a8 (.inr (.inl rfl))
  have k3 := hb mb a3 hO.lt (.inr (.inr rfl))
  exact ⟨n, D, hn, hD, ownI_block hO k3, ⟨a1, a2, a3, a4, a5, a6, Nat.lt_of_lt_of_le a7 hs, Nat.lt_of_lt_of_le a8 hs⟩,
    by simp only [World.cell?, k1]; exact c1, by simp only [World.cell?, k2]; exact c2, by simp only [World.frozen?, k1]; exact c3⟩
theorem LastAt.below {w w' : World} {B pb vb mb k : Nat} {s : Nat → Int} (h : LastAt w B pb vb mb k s) (hb : Below w.heap.size w w') : LastAt w' B pb vb mb k s :=
  h.keep hb.size (fun g _ h2 _ => hb.block g h2)
theorem LastAt.seq {w : World} {B pb vb mb k : Nat} {s t : Nat → Int} (h : LastAt w B pb vb mb k s) (he : ∀ i, i < k → s i = t i) : LastAt w B pb vb mb k t := by
  obtain ⟨n, D, hn, hD, rest⟩ := h
  exact ⟨n, D, hn, ⟨hD.tidy, fun x => by rw [hD.keys, lst_congr x k he], fun x => by rw [hD.at_, lst_congr x k he]⟩, rest⟩

set_option maxHeartbeats 2000000 in
theorem last1_any (w : World) (B pb vb mb k : Nat) (s : Nat → Int) (x : Int) (hL : LastAt w B pb vb mb k s) (hx : s k = x) (h0 : -1000000 ≤ x) (h9 : x ≤ 1000000) (hk : k ≤ 1000000) (hBw : B ≤ w.heap.size) :
    Calls Try.prog 90 #[.int .i64 x, .pointer (some ⟨pb, 0, none⟩), .pointer (some ⟨vb, 0, none⟩)] w fun e w' => e = .returned (.int .i64 ((bk s k : Nat) : Int)) ∧ LastAt w' B pb vb mb (k + 1) s ∧ Below B w w' ∧ (∀ g, g ≠ pb → g ≠ mb → g < w.heap.size → w'.heap[g]? = w.heap[g]?) := by
  obtain ⟨n, D, hn, hD, hO, ⟨a1, a2, a3, a4, a5, a6, a7, a8⟩, c1, c2, c3⟩ := hL
  have hle := lst_le s x k
  have hbk : (bk s k : Nat) = if lst s x k = 0 then 0 else k + 1 - lst s x k := by unfold bk; rw [hx]
  obtain ⟨L, hLL⟩ : ∃ L, L = lst s x k := ⟨_, rfl⟩
  have hhas : Maps.has D (kI x) = decide (L ≠ 0) := by rw [hD.keys, hLL]
  have hat0 := hD.at_ x
  rw [← hLL] at hle hbk hat0
  have HAT := Lib.hid hat0; have HLE := Lib.hid hle
  have c2' : (w.setCell ⟨pb, 0, none⟩ (.int .i64 ((k : Int) + 1))).cell? ⟨vb, 0, none⟩ = some (.map (some mb)) := by
    rw [World.cell?_setCell_other w ⟨pb, 0, none⟩ ⟨vb, 0, none⟩ _ (by simp only [ne_eq, Addr.mk.injEq]; omega)]; exact c2
  have HO := Lib.hid (hO.setCell (a := ⟨pb, 0, none⟩) (fun e => a4 e.symm) (.int .i64 ((k : Int) + 1)))
  have c1' : (w.setCell ⟨pb, 0, none⟩ (.int .i64 ((k : Int) + 1))).cell? ⟨pb, 0, none⟩ = some (.int .i64 ((k : Int) + 1)) := World.cell?_setCell_same _ _ _ c1
  have c3' : (w.setCell ⟨pb, 0, none⟩ (.int .i64 ((k : Int) + 1))).frozen? ⟨pb, 0, none⟩ = false := by rw [World.frozen?_setCell]; exact c3
  have hb1 := (Below.refl B w).setCell (p := ⟨pb, 0, none⟩) a1 (.int .i64 ((k : Int) + 1))
  have hkeep : ∀ g, g ≠ pb → (w.setCell ⟨pb, 0, none⟩ (.int .i64 ((k : Int) + 1))).heap[g]? = w.heap[g]? := fun g hg => Below.heap_setCell _ _ _ _ (by simpa using hg)
  have hsz : (w.setCell ⟨pb, 0, none⟩ (.int .i64 ((k : Int) + 1))).heap.size = w.heap.size := by simp
  have HD := Lib.hid hD; have HB1 := Lib.hid hb1; have HK := Lib.hid hkeep; have HX := Lib.hid hx; have HBK := Lib.hid hbk
  have HC2 := Lib.hid c2'; have HC3 := Lib.hid c3'
  clear hD hO hat0 hb1 hkeep hx hbk hLL
  cases hh : decide (L ≠ 0) with
  | true =>
    rw [hh] at hhas
    have hL0 : L ≠ 0 := of_decide_eq_true hh
    have hfin := HBK.out
    rw [if_neg hL0] at hfin
    have HF := Lib.hid hfin; clear hfin hh
    go_enter Try.func90, Try.ntmps90
    go_wp2_with (first
      | (at_lookup; refine wpList_lookup_own_ok_int _ rfl _ _ 75 rfl 3 3 .i64 lawI Try.underlying75 Try.underlying3 (zeroI _) mb n D rfl HO.out _ _ rfl (keyOf_int_mk Try.underlying3 (wfI (by omega) (by omega))) ?_; intro c hat hwc; have hcq : c = (L : Nat) := (by have h1 := HAT.out; rw [hat] at h1; injection h1 with h1; injection h1); subst hcq; clear hat hwc)
      | (at_mapUpdate; refine wpList_mapUpdate_own _ rfl _ _ _ 75 rfl 3 3 lawI Try.underlying75 _ mb n _ rfl HO.out (by unfold maxLen; omega) _ _ _ rfl rfl (keyOf_int_mk Try.underlying3 (wfI (by omega) (by omega))) _ [] (plainElem_int Try.underlying3 (wfI (by omega) (by omega))) ?_; intro w2 hown2 hgr2; have HO2 := Lib.hid hown2; have HG2 := Lib.hid hgr2; clear hown2 hgr2; have c1'' : w2.cell? ⟨pb, 0, none⟩ = some (.int .i64 ((k : Int) + 1)) := (by have := HG2.out.block pb (by rw [hsz]; exact a7) (fun e => a4 (Option.some.inj e)); simp only [World.cell?, this]; exact c1')))
    go_ret
    have k1 := HG2.out.block pb (by rw [hsz]; exact a7) (fun e => a4 (Option.some.inj e))
    have k2 := HG2.out.block vb (by rw [hsz]; exact a8) (fun e => a5 (Option.some.inj e))
    have hs2 := HG2.out.size
    rw [hsz] at hs2
    refine ⟨ret_int (by rw [HF.out]; have := HLE.out; omega), ⟨n + 1, _, by omega, HD.out.put HX.out (by simp), HO2.out, ⟨a1, a2, a3, a4, a5, a6, by omega, by omega⟩, by rw [c1'']; simp, ?_, ?_⟩, HB1.out.grown HG2.out (by rw [hsz]; exact hBw) (fun j hj => by cases hj; exact a3), fun g h1 h2 h3 => (HG2.out.block g (by rw [hsz]; exact h3) (fun e => h2 (Option.some.inj e))).trans (HK.out g h1)⟩
    · simp only [World.cell?, k2]; exact HC2.out
    · simp only [World.frozen?, k1]; exact HC3.out
  | false =>
    rw [hh] at hhas
    have hL0 : L = 0 := by simpa using hh
    subst hL0
    have hfin := HBK.out
    rw [if_pos rfl] at hfin
    have HF := Lib.hid hfin; clear hfin hh
    go_enter Try.func90, Try.ntmps90
    go_wp2_with (first
      | (at_lookup; refine wpList_lookup_own_ok_int _ rfl _ _ 75 rfl 3 3 .i64 lawI Try.underlying75 Try.underlying3 (zeroI _) mb n D rfl HO.out _ _ rfl (keyOf_int_mk Try.underlying3 (wfI (by omega) (by omega))) ?_; intro c hat hwc; clear hat hwc)
      | (at_mapUpdate; refine wpList_mapUpdate_own _ rfl _ _ _ 75 rfl 3 3 lawI Try.underlying75 _ mb n _ rfl HO.out (by unfold maxLen; omega) _ _ _ rfl rfl (keyOf_int_mk Try.underlying3 (wfI (by omega) (by omega))) _ [] (plainElem_int Try.underlying3 (wfI (by omega) (by omega))) ?_; intro w2 hown2 hgr2; have HO2 := Lib.hid hown2; have HG2 := Lib.hid hgr2; clear hown2 hgr2))
    go_ret
    have k1 := HG2.out.block pb (by rw [hsz]; exact a7) (fun e => a4 (Option.some.inj e))
    have k2 := HG2.out.block vb (by rw [hsz]; exact a8) (fun e => a5 (Option.some.inj e))
    have hs2 := HG2.out.size
    rw [hsz] at hs2
    refine ⟨ret_int (by rw [HF.out]; rfl), ⟨n + 1, _, by omega, HD.out.put HX.out (by simp), HO2.out, ⟨a1, a2, a3, a4, a5, a6, by omega, by omega⟩, ?_, ?_, ?_⟩, HB1.out.grown HG2.out (by rw [hsz]; exact hBw) (fun j hj => by cases hj; exact a3), fun g h1 h2 h3 => (HG2.out.block g (by rw [hsz]; exact h3) (fun e => h2 (Option.some.inj e))).trans (HK.out g h1)⟩
    · simp only [World.cell?, k1]; have := c1'; simp only [World.cell?] at this; rw [this]; simp
    · simp only [World.cell?, k2]; exact HC2.out
    · simp only [World.frozen?, k1]; exact HC3.out

set_option maxHeartbeats 1000000 in
theorem lastPlaces_any (w : World) (s : Nat → Int) :
    Calls Try.prog 82 #[] w fun e w' => e = .returned (lastV (w.heap.size + 2) (w.heap.size + 1)) ∧ LastAt w' w.heap.size (w.heap.size + 2) (w.heap.size + 1) w.heap.size 0 s ∧ Below w.heap.size w w' := by
  have hmm := @run_makeMap Try.prog
  have hmf : ∀ (fn : Fn) (first cap : Array Value) (w : World), (Instr.makeFunc fn first cap).run Try.prog w = .ok (.func fn first cap) w := fun _ _ _ _ => rfl
  go_enter Try.func82, Try.ntmps82
  go_wp2_with fail
  go_ret
  have e0 : ((w.alloc (.map #[] 0)).alloc (.cells #[.map (some w.heap.size)] 75)).heap.size = w.heap.size + 2 := by simp
  have e1 : (w.alloc (.map #[] 0)).heap.size = w.heap.size + 1 := by simp
  have hv : ((w.alloc (.map #[] 0)).alloc (.cells #[.map (some w.heap.size)] 75)).heap[w.heap.size + 1]? = some (.cells #[.map (some w.heap.size)] 75) := by
    have := heap_alloc_new (w.alloc (.map #[] 0)) (.cells #[.map (some w.heap.size)] 75)
    rwa [e1] at this
  have hp := heap_alloc_new ((w.alloc (.map #[] 0)).alloc (.cells #[.map (some w.heap.size)] 75)) (.cells #[.int .i64 0] 3)
  rw [e0] at hp
  have hv2 := (heap_alloc_old ((w.alloc (.map #[] 0)).alloc (.cells #[.map (some w.heap.size)] 75)) (.cells #[.int .i64 0] 3) (r := w.heap.size + 1) (by rw [e0]; omega)).trans hv
  refine ⟨rfl, ⟨0, .map [], Nat.le_refl _, lstD_empty s, ((World.ownsMap_made w Try.prog 3 (plainElem Try.prog 3)).alloc _).alloc _, ⟨by omega, by omega, by omega, by omega, by omega, by omega, by simp, by simp⟩, ?_, ?_, ?_⟩, ((below_alloc w _).alloc (by simp) _).alloc (by simp; omega) _⟩
  · simp only [World.cell?, hp]; rfl
  · simp only [World.cell?, hv2]; rfl
  · simp only [World.frozen?, hp]; simp
end Go.Proofs.Ytpglkgpaaflikaa
