/- Chapter 9: nextWord. -/
import Derived.Test.YtplcdofpikdigaaDooro7
import Derived.Test.YtplcdofpikdigaaDooro3
import Derived.Test.YtplcdofpikdigaaDoorq4
import Derived.StillTailTactics
namespace Go.Proofs.YtplcdofpikdigaaDoor
open Go.RowKit Go.BigFrame Go.Shelf
set_option linter.unusedSimpArgs false
set_option linter.unusedVariables false
set_option maxRecDepth 4000
attribute [local irreducible] wpStill

/-- Nothing that lay is changed but one block. -/
structure ButG (p : Nat) (w w' : World) : Prop where
  os : w'.os = w.os
  tape : w'.tape = w.tape
  output : w'.output = w.output
  size : w.heap.size ≤ w'.heap.size
  block : ∀ k, k < w.heap.size → k ≠ p → w'.heap[k]? = w.heap[k]?
theorem butG_refl (p : Nat) (w : World) : ButG p w w := ⟨rfl, rfl, rfl, Nat.le_refl _, fun _ _ _ => rfl⟩
theorem butG_t {p : Nat} {a b c : World} (h : ButG p a b) (k : ButG p b c) : ButG p a c := ⟨k.os.trans h.os, k.tape.trans h.tape, k.output.trans h.output, Nat.le_trans h.size k.size, fun q hq hp => (k.block q (Nat.lt_of_lt_of_le hq h.size) hp).trans (h.block q hq hp)⟩
theorem butG_below {p : Nat} {w w' : World} (h : Below w.heap.size w w') : ButG p w w' := ⟨h.os, h.tape, h.output, h.size, fun k hk _ => h.block k hk⟩
theorem butG_to {p B : Nat} {w w' : World} (h : ButG p w w') (hB : B ≤ p) (hw : B ≤ w.heap.size) : Below B w w' := ⟨h.os, h.tape, h.output, h.size, fun k hk => h.block k (by omega) (by omega)⟩
theorem butG_set (w : World) (p i : Nat) (v : Value) : ButG p w (w.setCell ⟨p, i, none⟩ v) := ⟨rfl, rfl, rfl, by simp [World.setCell], fun k _ hk => Below.heap_setCell _ _ _ _ hk⟩
theorem bytQ_drew {w : World} {g : Nat} {l : List UInt8} (h : BytQ w g l) : BytQ w.drew g l := ⟨h.cell, h.free⟩
theorem list_mid_set (A : List UInt8) (x y : UInt8) (M : List UInt8) : (A ++ [x] ++ M).set A.length y = A ++ y :: M := by
  rw [List.append_assoc, List.set_append_right _ _ (Nat.le_refl _)]; simp
theorem list_mid_get (A : List UInt8) (x : UInt8) (M : List UInt8) (h : A.length < (A ++ [x] ++ M).length) : (A ++ [x] ++ M)[A.length] = x := by
  rw [List.getElem_append_left (by simp)]; simp

/-- What nextWord answers. -/
def NextPost (D : Nat) (W l : List UInt8) (k g : Nat) (e : Ending) (w' : World) : Prop :=
  (∃ s, nxt D W l k = some s ∧ e = .returned (.bool true) ∧ BytQ w' g s) ∨ (nxt D W l k = none ∧ e = .returned (.bool false))

set_option maxHeartbeats 4000000 in
theorem nextWord_any (D : Nat) (W S l : List UInt8) (last g cap : Nat) (w : World) (hD : 1 ≤ D) (hD4 : D ≤ 4) (hn : W.length ≤ 8) (hc : Cmp D W l) (hlast : last < l.length) (hcap : l.length ≤ cap) (hcm : cap ≤ maxLen) (hB : BytQ w g l) (hg : g < w.heap.size) :
    Calls Tryd.prog 55 #[pzV W S (D : Int), .slice (some ⟨g, 0, none⟩) l.length cap, .int .i64 (last : Int)] w fun e w' =>
      NextPost D W l (last + 1) g e w' ∧ ButG g w w' := by
  unfold maxLen at hcm
  have hlen : l.length = W.length := cmp_len W l hc
  obtain ⟨n, hn'⟩ : ∃ n, n = l.length := ⟨_, rfl⟩
  obtain ⟨u, hu⟩ : ∃ u, u = bs W := ⟨_, rfl⟩
  have hun : u.size = n := by rw [hu, bs_size, hn', hlen]
  have huk : ∀ k (h : k < u.size), u[k] = W.getD k 0 := fun k h => by
    subst hu; rw [getD_lt (by rw [bs_size] at h; exact h)]; rfl
  have HUK := Lib.hid huk
  have hat := cmp_at W l hc
  have HAT := Lib.hid hat
  have HB := Lib.hid hB; have HLEN := Lib.hid hlen; have HN := Lib.hid hn'; have HC := Lib.hid hc
  unfold pzV
  rw [← hu, ← hn'] 
  have hlast' : last < n := by omega
  have hcap' : n ≤ cap := by omega
  have hn8 : n ≤ 8 := by omega
  clear huk hat hB hu hc hlast hcap hlen hn'
  go_enter Tryd.func55, Tryd.ntmps55
  go_wp2_with fail
  go_loopw [7] (fun iv wr => ∃ i : Nat, i ≤ n ∧ iv = .int .i64 ((i : Int) - 1) ∧ Hid (nxt D (W.drop i) (l.drop i) (last + 1 - i) = none ∧ BytQ wr g (l.take i ++ minW (W.drop i)) ∧ ButG g w wr ∧ ThreeAt wr w.heap.size (.string u) (.string (bs S)) (.int .i64 (D : Int)) 28)) (fun iv _ => (intOf iv + 1).toNat)
  case atStart =>
    refine ⟨n, Nat.le_refl _, rfl, ?_, ?_, butG_below (below_alloc _ _), threeAt_new _ _ _ _ _⟩
    · rw [HN.out, List.drop_of_length_le (Nat.le_refl _), List.drop_of_length_le (by rw [HLEN.out]; exact Nat.le_refl _)]; rfl
    · rw [HN.out, List.take_of_length_le (Nat.le_refl _), List.drop_of_length_le (by rw [HLEN.out]; exact Nat.le_refl _)]
      simp only [minW, List.map_nil, List.append_nil]
      exact HB.out.below hg (below_alloc _ _)
  case round =>
    obtain ⟨i, hi, rfl, HX⟩ := hrel
    cases i with
    | zero =>
      have hx0 : ((0 : Nat) : Int) - 1 = -1 := by omega
      have HFIN : Hid (NextPost D W l (last + 1) g (.returned (.bool false)) wr ∧ ButG g w wr) := Lib.hid ⟨.inr ⟨by simpa using HX.out.1, rfl⟩, HX.out.2.2.1⟩
      rw [hx0]
      go_wp2_with fail
      go_ret
      exact HFIN.out
    | succ j =>
      have hj : j < n := by omega
      have hx0 : ((j + 1 : Nat) : Int) - 1 = (j : Int) := by omega
      rw [hx0]
      obtain ⟨x, hx⟩ : ∃ x, x = l.getD j 0 := ⟨_, rfl⟩
      obtain ⟨c, hcc⟩ : ∃ c, c = W.getD j 0 := ⟨_, rfl⟩
      have hat := HAT.out j (by rw [← HLEN.out, ← HN.out]; exact hj)
      rw [← hx, ← hcc] at hat
      have hju : j < u.size := by omega
      have euk : u[j] = c := by rw [hcc]; exact HUK.out j hju
      have hw1 : W.drop j = c :: W.drop (j + 1) := by
        have : j < W.length := by rw [← HLEN.out, ← HN.out]; exact hj
        rw [List.drop_eq_getElem_cons this, hcc, getD_lt this]
      have hl1 : l.take (j + 1) = l.take j ++ [x] := by
        have : j < l.length := by rw [← HN.out]; exact hj
        rw [List.take_succ_eq_append_getElem this, hx, getD_lt this]
      have hnn := nxt_none W l (last + 1) j HLEN.out (by rw [← HLEN.out, ← HN.out]; exact hj) HX.out.1
      rw [← hx, ← hcc] at hnn
      have hfrom := fun s => nxt_from W l (last + 1) HLEN.out j s (by rw [← HLEN.out, ← HN.out]; omega) (D := D)
      obtain ⟨M, hM⟩ : ∃ M, M = minW (W.drop (j + 1)) := ⟨_, rfl⟩
      have hbq := HX.out.2.1
      rw [hl1, ← hM] at hbq
      have hA : (l.take j).length = j := by rw [List.length_take, ← HN.out]; omega
      have hjl : (l.take j).length < (l.take j ++ [x] ++ M).length := by simp
      have cx := hbq.cell _ hjl
      have fx := hbq.free _ hjl
      rw [list_mid_get] at cx
      rw [hA] at cx fx
      have HM := Lib.hid hM; have HW1 := Lib.hid hw1; have HL1 := Lib.hid hl1; have HNN := Lib.hid hnn; have HFR := Lib.hid hfrom; have HBQ := Lib.hid hbq; have HA := Lib.hid hA
      have HBG := Lib.hid HX.out.2.2.1; have HBX := Lib.hid HX.out.2.2.2
      obtain ⟨c0, c1, c2, _, _, _⟩ := HX.out.2.2.2.cells
      have hjc : j < cap := by omega
      clear hx hcc hw1 hl1 hnn hfrom hM hbq hA hjl HX hx0
      by_cases hgap : c = 46
      · rw [if_pos hgap] at hat
        have hcb : ((c.toNat : Int) != 46) = false := by rw [hgap]; rfl
        have hx57 : x.toNat ≤ 57 := by omega
        have hset : ∀ y : UInt8, (l.take j ++ [x] ++ M).set j y = l.take j ++ y :: M := fun y => by
          have := list_mid_set (l.take j) x y M
          rw [HA.out] at this
          exact this
        have HSET := Lib.hid hset
        have HDG := Lib.hid (fun (W0 : World) => (digitOf_is (x.toNat : Int) W0 (by omega) (by omega)).mono (R' := fun e w' => e = .returned (.int .i64 ((x.toNat : Int) - 48)) ∧ w' = W0) (fun e w' h => ⟨h.1, h.2.symm⟩))
        have hxw : IntKind.u8.wrap ((x.toNat : Int) + 1) = (x.toNat : Int) + 1 := by rw [IntKind.wrap_u8]; omega
        have hxs : ((x + 1).toNat : Int) = (x.toNat : Int) + 1 := by rw [u8_succ (by omega)]; omega
        have HXS := Lib.hid hxs
        have HNO : Hid (¬ (j ≤ last ∧ x.toNat < D + 48) → nxt D (W.drop j) (l.drop j) (last + 1 - j) = none) := Lib.hid (fun h => by
          rw [HNN.out, if_neg (fun h2 => h ⟨by omega, h2.2.2⟩)])
        have HYES : Hid ((j ≤ last ∧ x.toNat < D + 48) → nxt D W l (last + 1) = some (l.take j ++ (x + 1) :: M)) := Lib.hid (fun h => by
          refine HFR.out _ ?_
          rw [HNN.out, if_pos ⟨hgap, by omega, h.2⟩, ← HM.out])
        have HMIN : Hid (minW (W.drop j) = 49 :: M) := Lib.hid (by rw [HW1.out, HM.out]; show (if c = 46 then (49 : UInt8) else c) :: _ = _; rw [if_pos hgap]; rfl)
        clear hset hxs hgap
        by_cases hle : j ≤ last
        · by_cases hlt : x.toNat < D + 48
          · have hd1 : decide ((x.toNat : Int) - 48 < (D : Int)) = true := by simp; omega
            have HY := Lib.hid (HYES.out ⟨hle, hlt⟩)
            go_wp2_with fail
            refine wp_region_still_lit (by kernel_rfl) (by kernel_rfl) ?_
            repeat still_step
            still_call (HDG.out _)
            repeat still_step
            refine wpStill_nil ?_
            change (Exit.then _ _) Exit.normal _ wr.drew
            have HBQ2 := Lib.hid (bytQ_drew HBQ.out); have HBG2 : Hid (ButG g w wr.drew) := Lib.hid (butG_t HBG.out (butG_below (below_drew _)))
            have cx2 : wr.drew.cell? ⟨g, j, none⟩ = some (.int .u8 (x.toNat : Int)) := cx
            have fx2 : wr.drew.frozen? ⟨g, j, none⟩ = false := fx
            generalize wr.drew = w2 at *
            go_wp2_with fail
            go_ret
            refine ⟨.inl ⟨_, HY.out, rfl, ?_⟩, butG_t HBG2.out (butG_set _ _ _ _)⟩
            have := bytQ_set HBQ2.out j (x + 1)
            rw [HSET.out, HXS.out] at this
            exact this
          · have hd1 : decide ((x.toNat : Int) - 48 < (D : Int)) = false := by simp; omega
            have HN2 := Lib.hid (HNO.out (fun h => hlt h.2))
            go_wp2_with fail
            refine wp_region_still_lit (by kernel_rfl) (by kernel_rfl) ?_
            repeat still_step
            still_call (HDG.out _)
            repeat still_step
            refine wpStill_nil ?_
            change (Exit.then _ _) Exit.normal _ wr.drew
            have HBQ2 := Lib.hid (bytQ_drew HBQ.out); have HBG2 : Hid (ButG g w wr.drew) := Lib.hid (butG_t HBG.out (butG_below (below_drew _))); have HBX2 : Hid (ThreeAt wr.drew w.heap.size (.string u) (.string (bs S)) (.int .i64 (D : Int)) 28) := HBX.out
            have cx2 : wr.drew.cell? ⟨g, j, none⟩ = some (.int .u8 (x.toNat : Int)) := cx
            have fx2 : wr.drew.frozen? ⟨g, j, none⟩ = false := fx
            generalize wr.drew = w2 at *
            go_wp2_with fail
            go_roundw
            case rel =>
              refine ⟨j, by omega, by go_num, HN2.out, ?_, butG_t HBG2.out (butG_set _ _ _ _), ?_⟩
              · have := bytQ_set HBQ2.out j 49
                rw [HSET.out] at this
                rw [HMIN.out]
                exact this
              · exact (Below.heap_setCell _ _ _ _ (by show w.heap.size ≠ g; omega)).trans HBX2.out
            case measure => simp [intOf] <;> omega
        · have HN2 := Lib.hid (HNO.out (fun h => hle h.1))
          go_wp2_with fail
          refine wp_region_still_lit (by kernel_rfl) (by kernel_rfl) ?_
          repeat still_step
          refine wpStill_nil ?_
          change (Exit.then _ _) Exit.normal _ wr.drew
          have HBQ2 := Lib.hid (bytQ_drew HBQ.out); have HBG2 : Hid (ButG g w wr.drew) := Lib.hid (butG_t HBG.out (butG_below (below_drew _))); have HBX2 : Hid (ThreeAt wr.drew w.heap.size (.string u) (.string (bs S)) (.int .i64 (D : Int)) 28) := HBX.out
          have cx2 : wr.drew.cell? ⟨g, j, none⟩ = some (.int .u8 (x.toNat : Int)) := cx
          have fx2 : wr.drew.frozen? ⟨g, j, none⟩ = false := fx
          generalize wr.drew = w2 at *
          go_wp2_with fail
          go_roundw
          case rel =>
            refine ⟨j, by omega, by go_num, HN2.out, ?_, butG_t HBG2.out (butG_set _ _ _ _), ?_⟩
            · have := bytQ_set HBQ2.out j 49
              rw [HSET.out] at this
              rw [HMIN.out]
              exact this
            · exact (Below.heap_setCell _ _ _ _ (by show w.heap.size ≠ g; omega)).trans HBX2.out
          case measure => simp [intOf] <;> omega
      · rw [if_neg hgap] at hat
        have hcb : ((c.toNat : Int) != 46) = true := by
          simp only [bne_iff_ne, ne_eq]
          intro h; exact hgap (UInt8.toNat_inj.1 (by have : (46 : UInt8).toNat = 46 := rfl; omega))
        have HN2 : Hid (nxt D (W.drop j) (l.drop j) (last + 1 - j) = none) := Lib.hid (by rw [HNN.out, if_neg (fun h => hgap h.1)])
        have HL2 : Hid (l.take j ++ minW (W.drop j) = l.take j ++ [x] ++ M) := Lib.hid (by
          rw [HW1.out, HM.out]
          show l.take j ++ (if c = 46 then (49 : UInt8) else c) :: minW (W.drop (j + 1)) = _
          rw [if_neg hgap, hat, List.append_assoc]; rfl)
        clear hgap hat
        go_wp2_with fail
        go_roundw
        case rel => exact ⟨j, by omega, by go_num, HN2.out, by rw [HL2.out]; exact HBQ.out, HBG.out, HBX.out⟩
        case measure => simp [intOf] <;> omega
end Go.Proofs.YtplcdofpikdigaaDoor
