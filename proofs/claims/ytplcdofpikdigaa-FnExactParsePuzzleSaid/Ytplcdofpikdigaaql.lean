/- Chapter 9: the program's cutText. -/
import Derived.Test.Ytplcdofpikdigaaqk
namespace Go.Proofs.Ytplcdofpikdigaa
open Go.RowKit Go.BigFrame
set_option linter.unusedSimpArgs false
set_option linter.unusedVariables false
set_option maxRecDepth 4000

theorem info_bN : (Try.prog.info? 63).map (fun i => (i.zero, i.size, i.bytes)) = some (some (.slice none 0 0), 1, 24) := by kernel_rfl
/-- The part of block g that begins at b: where it is empty it bears the block's head. -/
def pv (g b : Nat) (x : List UInt8) : Value := .slice (some ⟨g, if x.length = 0 then 0 else b, none⟩) x.length x.length
def partV (g : Nat) : Nat → List (List UInt8) → List Value
  | _, [] => []
  | b, x :: r => pv g b x :: partV g (b + x.length + 1) r
def sumP (P : List (List UInt8)) : Nat := (P.map fun x => x.length + 1).sum
theorem partV_snoc (g : Nat) (x : List UInt8) : ∀ (P : List (List UInt8)) (b : Nat), partV g b (P ++ [x]) = partV g b P ++ [pv g (b + sumP P) x]
  | [], b => by simp [partV, sumP]
  | y :: P, b => by
    have := partV_snoc g x P (b + y.length + 1)
    simp only [List.cons_append, partV, this, sumP, List.map_cons, List.sum_cons]
    rw [show b + y.length + 1 + (P.map fun x => x.length + 1).sum = b + (y.length + 1 + (P.map fun x => x.length + 1).sum) by omega]
theorem sumP_snoc (P : List (List UInt8)) (x : List UInt8) : sumP (P ++ [x]) = sumP P + x.length + 1 := by
  simp [sumP]; omega
theorem partV_len (g : Nat) : ∀ (P : List (List UInt8)) (b : Nat), (partV g b P).length = P.length
  | [], _ => rfl
  | x :: P, b => by simp [partV, partV_len g P]

set_option maxHeartbeats 4000000 in
theorem cutText_any (l : List UInt8) (c : UInt8) (g C : Nat) (w : World) (h9 : l.length ≤ 2000000) (hC : l.length ≤ C) (hCm : C ≤ maxLen) (hg : g < w.heap.size) (hB : BytQ w g l) :
    Calls Try.prog 51 #[.slice (some ⟨g, 0, none⟩) l.length C, .int .u8 (c.toNat : Int)] w fun e w' => ∃ q d, e = .returned (.slice q (splitL c l).length d) ∧ w'.ownsRow w.heap.size 63 1 (.slice q (splitL c l).length d) (splitL c l).length (partV g 0 (splitL c l)) ∧ Below w.heap.size w w' := by
  obtain ⟨i0, hi, hz0, hz1, hz2⟩ := info_parts info_bN
  unfold maxLen at hCm
  obtain ⟨N, hN⟩ : ∃ N, N = l.length := ⟨_, rfl⟩
  have HN := Lib.hid hN
  obtain ⟨R, hR⟩ : ∃ R, R = splitL c l := ⟨_, rfl⟩
  have HR := Lib.hid hR
  rw [← hR, ← hN]
  rw [← hN] at h9 hC
  have HBQ := Lib.hid hB
  have HG := Lib.hid hg
  have HO0 := Lib.hid (own_lit w w.heap.size 63 [] (Nat.le_refl _) (by simp))
  clear hN hR hB hg
  go_enter Try.func51, Try.ntmps51
  go_wp2_with fail
  go_loopw [5, 6, 11] (fun v bv iv wr => ∃ (k b p d : Nat) (q : Option Addr) (P : List (List UInt8)), iv = .int .i64 (k : Int) ∧ bv = .int .i64 (b : Int) ∧ v = .slice q p d ∧ k ≤ N ∧ b ≤ k ∧ p ≤ b ∧ Hid (p = P.length ∧ R = P ++ splitL c (l.drop b) ∧ (∀ j (hj : j < l.length), b ≤ j → j < k → l[j] ≠ c) ∧ b = sumP P ∧ wr.ownsRow w.heap.size 63 1 (.slice q p d) p (partV g 0 P) ∧ Below w.heap.size w wr)) (fun _ _ iv _ => N - (intOf iv).toNat)
  case atStart => exact ⟨0, 0, 0, 0, some ⟨w.heap.size, 0, none⟩, [], rfl, rfl, rfl, Nat.zero_le _, Nat.le_refl _, Nat.le_refl _, rfl, HR.out, fun j _ h1 h2 => by omega, rfl, HO0.out, below_alloc _ _⟩
  case round =>
    obtain ⟨k, b, p, d, q, P, rfl, rfl, rfl, hk, hbk, hpb, HX⟩ := hrel
    by_cases hlt : k < N
    · have hk' : k < l.length := by rw [← HN.out]; exact hlt
      have hkC : k ≤ C := by omega
      have hcell : wr.cell? ⟨g, k, none⟩ = some (.int .u8 (l[k].toNat : Int)) := (HX.out.2.2.2.2.2.cell (p := ⟨g, k, none⟩) HG.out).trans (HBQ.out.cell k hk')
      have hq := beqB l[k] c
      by_cases hex0 : l[k] = c
      · rw [decide_eq_true hex0] at hq
        have hnew : R = (P ++ [(l.drop b).take (k - b)]) ++ splitL c (l.drop (k + 1)) := by
          have hbl : k - b < (l.drop b).length := by rw [List.length_drop]; omega
          have := splitL_at (c := c) (l := l.drop b) (k - b) hbl (by rw [List.getElem_drop]; exact (getElem_congr_idx (show b + (k - b) = k by omega)).trans hex0) (fun j hj hjk => by
            rw [List.getElem_drop]
            exact HX.out.2.2.1 (b + j) (by rw [List.length_drop] at hj; omega) (by omega) (by omega))
          rw [HX.out.2.1, this, List.append_assoc, List.drop_drop, show b + (k - b + 1) = k + 1 by omega]
          rfl
        obtain ⟨x, hx⟩ : ∃ x, x = (l.drop b).take (k - b) := ⟨_, rfl⟩
        have hxl : x.length = k - b := by rw [hx, List.length_take, List.length_drop]; omega
        rw [← hx] at hnew
        have HNEW := Lib.hid hnew; have HXL := Lib.hid hxl
        generalize (l[k].toNat : Int) = y at *
        clear hnew hx hex0 hxl
        by_cases hkb : k = b
        · subst hkb
          have hpv : pv g (0 + sumP P) x = .slice (some ⟨g, 0, none⟩) 0 0 := by
            unfold pv; rw [HXL.out, Nat.sub_self]; rfl
          have HPV := Lib.hid hpv
          clear hpv
          have hcell1 : ∀ (j : Nat) (y : Value), ([.slice (some ⟨g, 0, none⟩) 0 0] : List Value)[j]? = some y → (wr.alloc (.cells #[.slice (some ⟨g, 0, none⟩) 0 0] 63)).cell? ((⟨wr.heap.size, 0, none⟩ : Addr).add j) = some y := by
            intro j y hj
            match j, hj with
            | 0, hj => simp at hj; subst hj; rw [add_plainL]; exact cell_new _ _ _
            | j + 1, hj => simp at hj
          have hone1 : ∀ y ∈ ([.slice (some ⟨g, 0, none⟩) 0 0] : List Value), y.oneCell' = true := fun y hy => by simp at hy; subst hy; rfl
          have HC1 := Lib.hid hcell1; have HO1 := Lib.hid hone1
          clear hcell1 hone1
          go_wp2_with (at_builtin; refine wpList_app _ rfl _ _ 61 rfl w.heap.size 63 i0 (.slice none 0 0) 24 Try.underlying61 hi hz0 hz1 hz2 rfl _ p (partV g 0 P) rfl (own_below HX.out.2.2.2.2.1 (below_alloc _ _)) ⟨wr.heap.size, 0, none⟩ 1 1 [.slice (some ⟨g, 0, none⟩) 0 0] rfl rfl HC1.out HO1.out (by unfold maxLen; omega) (by omega) (by have := HX.out.2.2.2.2.2.size; simp; omega) ?_; intro v3 w3 hown3 hgr3 _; obtain ⟨q3, d3, ev3⟩ := own_slice hown3; subst ev3; have HO3 := Lib.hid hown3; have HB3 := Lib.hid ((HX.out.2.2.2.2.2.alloc HX.out.2.2.2.2.2.size (.cells #[.slice (some ⟨g, 0, none⟩) 0 0] 63)).grown hgr3 (by have := HX.out.2.2.2.2.2.size; simp; omega) (fun r e => (HX.out.2.2.2.2.1.lt r e).1)); clear hown3 hgr3)
          go_roundw
          case rel =>
            refine ⟨k + 1, k + 1, p + 1, d3, q3, P ++ [x], by go_num, by go_num, rfl, by omega, Nat.le_refl _, by omega, by rw [List.length_append, ← HX.out.1]; rfl, HNEW.out, fun j _ h1 h2 => by omega, ?_, ?_, HB3.out⟩
            · have := HX.out.2.2.2.1; rw [sumP_snoc, HXL.out]; omega
            · have := HO3.out; rw [partV_snoc, HPV.out]; exact this
          case measure => simp [intOf] <;> omega
        · have hpv : pv g (0 + sumP P) x = .slice (some ⟨g, b, none⟩) (k - b) (k - b) := by
            unfold pv; rw [HXL.out, if_neg (by omega), Nat.zero_add, ← HX.out.2.2.2.1]
          have HPV := Lib.hid hpv
          clear hpv
          have hcell1 : ∀ (j : Nat) (y : Value), ([.slice (some ⟨g, b, none⟩) (k - b) (k - b)] : List Value)[j]? = some y → (wr.alloc (.cells #[.slice (some ⟨g, b, none⟩) (k - b) (k - b)] 63)).cell? ((⟨wr.heap.size, 0, none⟩ : Addr).add j) = some y := by
            intro j y hj
            match j, hj with
            | 0, hj => simp at hj; subst hj; rw [add_plainL]; exact cell_new _ _ _
            | j + 1, hj => simp at hj
          have hone1 : ∀ y ∈ ([.slice (some ⟨g, b, none⟩) (k - b) (k - b)] : List Value), y.oneCell' = true := fun y hy => by simp at hy; subst hy; rfl
          have HC1 := Lib.hid hcell1; have HO1 := Lib.hid hone1
          clear hcell1 hone1
          go_wp2_with (at_builtin; refine wpList_app _ rfl _ _ 61 rfl w.heap.size 63 i0 (.slice none 0 0) 24 Try.underlying61 hi hz0 hz1 hz2 rfl _ p (partV g 0 P) rfl (own_below HX.out.2.2.2.2.1 (below_alloc _ _)) ⟨wr.heap.size, 0, none⟩ 1 1 [.slice (some ⟨g, b, none⟩) (k - b) (k - b)] rfl rfl HC1.out HO1.out (by unfold maxLen; omega) (by omega) (by have := HX.out.2.2.2.2.2.size; simp; omega) ?_; intro v3 w3 hown3 hgr3 _; obtain ⟨q3, d3, ev3⟩ := own_slice hown3; subst ev3; have HO3 := Lib.hid hown3; have HB3 := Lib.hid ((HX.out.2.2.2.2.2.alloc HX.out.2.2.2.2.2.size (.cells #[.slice (some ⟨g, b, none⟩) (k - b) (k - b)] 63)).grown hgr3 (by have := HX.out.2.2.2.2.2.size; simp; omega) (fun r e => (HX.out.2.2.2.2.1.lt r e).1)); clear hown3 hgr3)
          go_roundw
          case rel =>
            refine ⟨k + 1, k + 1, p + 1, d3, q3, P ++ [x], by go_num, by go_num, rfl, by omega, Nat.le_refl _, by omega, by rw [List.length_append, ← HX.out.1]; rfl, HNEW.out, fun j _ h1 h2 => by omega, ?_, ?_, HB3.out⟩
            · have := HX.out.2.2.2.1; rw [sumP_snoc, HXL.out]; omega
            · have := HO3.out; rw [partV_snoc, HPV.out]; exact this
          case measure => simp [intOf] <;> omega
      · rw [decide_eq_false hex0] at hq
        have hnew : Hid (∀ j (hj : j < l.length), b ≤ j → j < k + 1 → l[j] ≠ c) := fun j hj h1 h2 => by
          by_cases e : j = k
          · subst e; exact hex0
          · exact HX.out.2.2.1 j hj h1 (by omega)
        generalize (l[k].toNat : Int) = y at *
        clear hex0
        go_wp2_with fail
        go_roundw
        case rel => exact ⟨k + 1, b, p, d, q, P, by go_num, rfl, rfl, by omega, by omega, hpb, HX.out.1, HX.out.2.1, hnew.out, HX.out.2.2.2⟩
        case measure => simp [intOf] <;> omega
    · obtain rfl : k = N := by omega
      have hfin : R = P ++ [l.drop b] := by
        rw [HX.out.2.1, splitL_not (fun e => by
          obtain ⟨j, hj, e2⟩ := List.getElem_of_mem e
          rw [List.getElem_drop] at e2
          rw [List.length_drop] at hj
          exact HX.out.2.2.1 (b + j) (by omega) (by omega) (by have := HN.out; omega) e2)]
      obtain ⟨x, hx⟩ : ∃ x, x = l.drop b := ⟨_, rfl⟩
      have hxl : x.length = k - b := by rw [hx, List.length_drop, ← HN.out]
      rw [← hx] at hfin
      have hRl : R.length = p + 1 := by rw [hfin, List.length_append, ← HX.out.1]; rfl
      have HF := Lib.hid hfin; have HRL := Lib.hid hRl; have HXL := Lib.hid hxl
      clear hfin hx hxl hRl
      by_cases hkb : k = b
      · subst hkb
        have hpv : pv g (0 + sumP P) x = .slice (some ⟨g, 0, none⟩) 0 0 := by
          unfold pv; rw [HXL.out, Nat.sub_self]; rfl
        have HPV := Lib.hid hpv
        clear hpv
        have hcell1 : ∀ (j : Nat) (y : Value), ([.slice (some ⟨g, 0, none⟩) 0 0] : List Value)[j]? = some y → (wr.alloc (.cells #[.slice (some ⟨g, 0, none⟩) 0 0] 63)).cell? ((⟨wr.heap.size, 0, none⟩ : Addr).add j) = some y := by
          intro j y hj
          match j, hj with
          | 0, hj => simp at hj; subst hj; rw [add_plainL]; exact cell_new _ _ _
          | j + 1, hj => simp at hj
        have hone1 : ∀ y ∈ ([.slice (some ⟨g, 0, none⟩) 0 0] : List Value), y.oneCell' = true := fun y hy => by simp at hy; subst hy; rfl
        have HC1 := Lib.hid hcell1; have HO1 := Lib.hid hone1
        clear hcell1 hone1
        go_wp2_with (at_builtin; refine wpList_app _ rfl _ _ 61 rfl w.heap.size 63 i0 (.slice none 0 0) 24 Try.underlying61 hi hz0 hz1 hz2 rfl _ p (partV g 0 P) rfl (own_below HX.out.2.2.2.2.1 (below_alloc _ _)) ⟨wr.heap.size, 0, none⟩ 1 1 [.slice (some ⟨g, 0, none⟩) 0 0] rfl rfl HC1.out HO1.out (by unfold maxLen; omega) (by omega) (by have := HX.out.2.2.2.2.2.size; simp; omega) ?_; intro v3 w3 hown3 hgr3 _; obtain ⟨q3, d3, ev3⟩ := own_slice hown3; subst ev3; have HO3 := Lib.hid hown3; have HB3 := Lib.hid ((HX.out.2.2.2.2.2.alloc HX.out.2.2.2.2.2.size (.cells #[.slice (some ⟨g, 0, none⟩) 0 0] 63)).grown hgr3 (by have := HX.out.2.2.2.2.2.size; simp; omega) (fun r e => (HX.out.2.2.2.2.1.lt r e).1)); clear hown3 hgr3)
        go_ret
        have ho := HO3.out
        refine ⟨q3, d3, by rw [HRL.out]; rfl, ?_, HB3.out⟩
        rw [HRL.out, HF.out, partV_snoc, HPV.out]
        exact ho
      · have hpv : pv g (0 + sumP P) x = .slice (some ⟨g, b, none⟩) (k - b) (k - b) := by
          unfold pv; rw [HXL.out, if_neg (by omega), Nat.zero_add, ← HX.out.2.2.2.1]
        have HPV := Lib.hid hpv
        clear hpv
        have hcell1 : ∀ (j : Nat) (y : Value), ([.slice (some ⟨g, b, none⟩) (k - b) (k - b)] : List Value)[j]? = some y → (wr.alloc (.cells #[.slice (some ⟨g, b, none⟩) (k - b) (k - b)] 63)).cell? ((⟨wr.heap.size, 0, none⟩ : Addr).add j) = some y := by
          intro j y hj
          match j, hj with
          | 0, hj => simp at hj; subst hj; rw [add_plainL]; exact cell_new _ _ _
          | j + 1, hj => simp at hj
        have hone1 : ∀ y ∈ ([.slice (some ⟨g, b, none⟩) (k - b) (k - b)] : List Value), y.oneCell' = true := fun y hy => by simp at hy; subst hy; rfl
        have HC1 := Lib.hid hcell1; have HO1 := Lib.hid hone1
        clear hcell1 hone1
        go_wp2_with (at_builtin; refine wpList_app _ rfl _ _ 61 rfl w.heap.size 63 i0 (.slice none 0 0) 24 Try.underlying61 hi hz0 hz1 hz2 rfl _ p (partV g 0 P) rfl (own_below HX.out.2.2.2.2.1 (below_alloc _ _)) ⟨wr.heap.size, 0, none⟩ 1 1 [.slice (some ⟨g, b, none⟩) (k - b) (k - b)] rfl rfl HC1.out HO1.out (by unfold maxLen; omega) (by omega) (by have := HX.out.2.2.2.2.2.size; simp; omega) ?_; intro v3 w3 hown3 hgr3 _; obtain ⟨q3, d3, ev3⟩ := own_slice hown3; subst ev3; have HO3 := Lib.hid hown3; have HB3 := Lib.hid ((HX.out.2.2.2.2.2.alloc HX.out.2.2.2.2.2.size (.cells #[.slice (some ⟨g, b, none⟩) (k - b) (k - b)] 63)).grown hgr3 (by have := HX.out.2.2.2.2.2.size; simp; omega) (fun r e => (HX.out.2.2.2.2.1.lt r e).1)); clear hown3 hgr3)
        go_ret
        have ho := HO3.out
        refine ⟨q3, d3, by rw [HRL.out]; rfl, ?_, HB3.out⟩
        rw [HRL.out, HF.out, partV_snoc, HPV.out]
        exact ho
end Go.Proofs.Ytplcdofpikdigaa
