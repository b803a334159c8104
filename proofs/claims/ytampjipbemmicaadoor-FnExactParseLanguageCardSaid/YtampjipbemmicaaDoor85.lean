/- Chapter 7: the library's Cut and Split at one byte. -/
import Derived.Test.YtampjipbemmicaaDoor84
namespace Go.Proofs.YtampjipbemmicaaDoor
open Go.RowKit Go.BigFrame
set_option linter.unusedSimpArgs false
set_option linter.unusedVariables false
set_option maxRecDepth 4000

set_option maxHeartbeats 1000000 in
theorem cutLite_yes (l : List UInt8) (m : Nat) (w : World) (h9 : l.length ≤ 2000000) (hm : m < l.length) (hi : Go.Lib.indexByte l 58 = (m : Int)) :
    Calls Tryd.prog 92 #[.string (bs l), .string ⟨#[58]⟩] w fun e w' => e = .returned (.tuple #[.string (bs (l.take m)), .string (bs (l.drop (m + 1))), .bool true]) ∧ Below w.heap.size w w' := by
  have hx := Tryd.stringslite_Index_one (bs l) 58 w
  rw [bs_list, hi] at hx
  have HX := Lib.hid hx
  obtain ⟨N, hN⟩ : ∃ N, N = l.length := ⟨_, rfl⟩
  have hbs : (bs l).size = N := by rw [bs_size, hN]
  have e1 : (bs l).extract 0 m = bs (l.take m) := by rw [extract_bs]; simp
  have e2 : (bs l).extract (m + 1) N = bs (l.drop (m + 1)) := by rw [extract_bs, List.take_of_length_le (by rw [List.length_drop, hN]; exact Nat.le_refl _)]
  have h1 : (⟨#[58]⟩ : ByteArray).size = 1 := rfl
  have hm0 : (0 : Int) ≤ (m : Int) := by omega
  rw [← hN] at hm h9
  clear hN hx hi
  go_enter Tryd.func92, Tryd.ntmps92
  go_wp2_with fail
  refine HX.out.mono ?_
  rintro e w1 ⟨rfl, rfl⟩
  go_wp2_with fail
  go_quiet (fail)
  go_wp2_with fail
  go_ret3
  exact ⟨rfl, belowN _ _ _⟩
set_option maxHeartbeats 1000000 in
theorem cutLite_no (l : List UInt8) (w : World) (hi : Go.Lib.indexByte l 58 = -1) :
    Calls Tryd.prog 92 #[.string (bs l), .string ⟨#[58]⟩] w fun e w' => e = .returned (.tuple #[.string (bs l), .string (bs []), .bool false]) ∧ Below w.heap.size w w' := by
  have hx := Tryd.stringslite_Index_one (bs l) 58 w
  rw [bs_list, hi] at hx
  have HX := Lib.hid hx
  clear hx hi
  go_enter Tryd.func92, Tryd.ntmps92
  go_wp2_with fail
  refine HX.out.mono ?_
  rintro e w1 ⟨rfl, rfl⟩
  go_wp2_with fail
  go_ret3
  exact ⟨rfl, Below.refl _ _⟩
/-- What Cut at a colon hands back. -/
def cutV (l : List UInt8) : List UInt8 × List UInt8 × Bool := if 58 ∈ l then (l.take (Go.Lib.indexByte l 58).toNat, l.drop ((Go.Lib.indexByte l 58).toNat + 1), true) else (l, [], false)
set_option maxHeartbeats 1000000 in
theorem cutN_any (l : List UInt8) (w : World) (h9 : l.length ≤ 2000000) :
    Calls Tryd.prog 77 #[.string (bs l), .string ⟨#[58]⟩] w fun e w' => e = .returned (.tuple #[.string (bs (cutV l).1), .string (bs (cutV l).2.1), .bool (cutV l).2.2]) ∧ Below w.heap.size w w' := by
  have hc : ∀ W, Calls Tryd.prog 92 #[.string (bs l), .string ⟨#[58]⟩] W fun e w' => e = .returned (.tuple #[.string (bs (cutV l).1), .string (bs (cutV l).2.1), .bool (cutV l).2.2]) ∧ Below W.heap.size W w' := by
    intro W
    unfold cutV
    by_cases h : 58 ∈ l
    · rw [if_pos h]
      obtain ⟨m, hm, h1, _⟩ := indexByte_mem h
      have := cutLite_yes l m W h9 hm h1
      rw [h1]
      simpa using this
    · rw [if_neg h]
      exact cutLite_no l W (indexByte_not h)
  obtain ⟨⟨a, b, t⟩, hv⟩ : ∃ v, v = cutV l := ⟨_, rfl⟩
  rw [← hv] at hc ⊢
  have HC := Lib.hid hc
  clear hc hv
  go_enter Tryd.func77, Tryd.ntmps77
  go_wp2_with fail
  refine (HC.out _).mono ?_
  rintro e w1 ⟨rfl, hb⟩
  have HB := Lib.hid hb; clear hb
  go_wp2_with fail
  go_ret3
  exact ⟨rfl, HB.out⟩

def rowP (P : List (List UInt8)) (n : Nat) : List Value := strVN P ++ List.replicate (n - P.length) (.string ⟨#[]⟩)
theorem rowP_len (P : List (List UInt8)) (n : Nat) (h : P.length ≤ n) : (rowP P n).length = n := by simp [rowP, strVN]; omega
theorem rowP_nil (n : Nat) : rowP [] n = List.replicate n (.string ⟨#[]⟩) := by simp [rowP, strVN]
theorem rowP_set (P : List (List UInt8)) (n : Nat) (x : List UInt8) (h : P.length < n) : (rowP P n).set P.length (.string (bs x)) = rowP (P ++ [x]) n := by
  unfold rowP
  obtain ⟨m, hm⟩ : ∃ m, n - P.length = m + 1 := ⟨n - P.length - 1, by omega⟩
  rw [List.set_append_right _ _ (by rw [strVN_len]; exact Nat.le_refl _), strVN_len, Nat.sub_self, hm, List.replicate_succ, List.set_cons_zero]
  rw [show n - (P ++ [x]).length = m by rw [List.length_append, List.length_singleton]; omega]
  simp [strVN]
theorem rowP_full (P : List (List UInt8)) : rowP P P.length = strVN P := by simp [rowP]
theorem rowP_at (P : List (List UInt8)) (n i : Nat) (h : i < n) (hP : P.length ≤ n) : ∃ y, (rowP P n)[i]? = some y := ⟨_, List.getElem?_eq_getElem (by rw [rowP_len P n hP]; exact h)⟩
set_option maxHeartbeats 4000000 in
theorem genSplit_any (l : List UInt8) (w : World) (h9 : l.length ≤ 2000000) :
    Calls Tryd.prog 94 #[.string (bs l), .string ⟨#[44]⟩, .int .i64 0, .int .i64 (-1)] w fun e w' => ∃ g d, e = .returned (.slice (some ⟨g, 0, none⟩) (splitL 44 l).length d) ∧ Strs w' w.heap.size (.slice (some ⟨g, 0, none⟩) (splitL 44 l).length d) (splitL 44 l) ∧ Below w.heap.size w w' := by
  obtain ⟨i0, hi, hz0, hz1, hz2⟩ := info_parts info_strN
  have hcnt := Tryd.strings_Count_one (bs l) 44 w
  rw [show Go.Lib.countByte (bs l).data.toList 44 = l.count 44 from by rw [bs_list]; rfl] at hcnt
  have HCN := Lib.hid hcnt
  obtain ⟨C, hC⟩ : ∃ C, C = l.count 44 := ⟨_, rfl⟩
  have hCl : C ≤ l.length := by rw [hC]; exact List.count_le_length
  have hlen := splitL_len 44 l
  rw [← hC] at HCN hlen
  have hIX := fun (r : List UInt8) (W : World) => Tryd.strings_Index_one (bs r) 44 W
  have HIX := Lib.hid hIX
  obtain ⟨R, hR⟩ : ∃ R, R = splitL 44 l := ⟨_, rfl⟩
  rw [← hR] at hlen ⊢
  have HR := Lib.hid hR; have HL := Lib.hid hlen; have HCC := Lib.hid hC
  obtain ⟨N, hN⟩ : ∃ N, N = l.length := ⟨_, rfl⟩
  have hbs : (bs l).size = N := by rw [bs_size, hN]
  rw [← hN] at h9 hCl
  have h44 : (⟨#[44]⟩ : ByteArray).size = 1 := rfl
  have h44n : (([44] : List UInt8) == []) = false := rfl
  have hmin : min (C : Int) (N : Int) = (C : Int) := by omega
  rw [hlen]
  clear hcnt hIX hR hlen hC hN
  go_enter Tryd.func94, Tryd.ntmps94
  go_wp2_with fail
  refine HCN.out.mono ?_
  rintro e w1 ⟨rfl, rfl⟩
  go_wp2_with (refine wpList_make_full _ rfl _ _ 22 rfl w1.heap.size 9 i0 (.string ⟨#[]⟩) 1 Tryd.underlying22 hi hz0 hz1 .i64 .i64 ((C : Int) + 1) ((C : Int) + 1) (C + 1) rfl rfl (by omega) (by omega) (by rw [hz2]; omega) (by unfold maxLen; omega) (Nat.le_refl _) ?_; intro w2 hown hgr; have HO := Lib.hid hown; have HB := Lib.hid ((Below.refl w1.heap.size w1).grown hgr (Nat.le_refl _) (fun k h => by cases h)); clear hown hgr)
  go_loopw [0, 10] (fun sv iv wr => ∃ (i : Nat) (r : List UInt8) (P : List (List UInt8)), iv = .int .i64 (i : Int) ∧ sv = .string (bs r) ∧ i ≤ C ∧ r.length ≤ N ∧ Hid (i = P.length ∧ R = P ++ splitL 44 r ∧ r.count 44 + i = C ∧ wr.ownsRow w1.heap.size 9 1 (.slice (some ⟨w1.heap.size, 0, none⟩) (C + 1) (C + 1)) (C + 1) (rowP P (C + 1)) ∧ Below w1.heap.size w1 wr)) (fun _ iv _ => C - (intOf iv).toNat)
  case atStart =>
    refine ⟨0, l, [], rfl, rfl, Nat.zero_le _, ?_, rfl, HR.out, ?_, ?_, HB.out⟩
    · rw [← bs_size, hbs]; exact Nat.le_refl _
    · rw [HCC.out]; rfl
    · rw [rowP_nil]
      have e : (madeCells (Value.string ⟨#[]⟩).cells ((C + 1) * 1)).toList = List.replicate (C + 1) (Value.string ⟨#[]⟩) := by rw [Nat.mul_one]; exact toList_madeCells_one _ _
      exact e ▸ HO.out
  case round =>
    obtain ⟨i, r, P, rfl, rfl, hiC, hrN, HX⟩ := hrel
    have hix := HIX.out r wr
    rw [bs_list] at hix
    by_cases hlt : i < C
    · have hmem : 44 ∈ r := List.count_pos_iff.1 (by have := HX.out.2.2.1; omega)
      obtain ⟨m, hm, h1, h2, h3, h4⟩ := indexByte_mem hmem
      rw [h1] at hix
      have hsp := splitL_at m hm h2 h3
      obtain ⟨x, hx⟩ : ∃ x, x = r.take m := ⟨_, rfl⟩
      obtain ⟨r2, hr2⟩ : ∃ r2, r2 = r.drop (m + 1) := ⟨_, rfl⟩
      obtain ⟨K, hK⟩ : ∃ K, K = r.length := ⟨_, rfl⟩
      have e1 : (bs r).extract 0 m = bs x := by rw [extract_bs, hx]; simp
      have e2 : (bs r).extract (m + 1) K = bs r2 := by rw [extract_bs, hr2, hK, List.take_of_length_le (by rw [List.length_drop]; exact Nat.le_refl _)]
      have hbr : (bs r).size = K := by rw [bs_size, hK]
      have hr2N : r2.length ≤ N := by rw [hr2, List.length_drop]; omega
      have hR2 : R = (P ++ [x]) ++ splitL 44 r2 := by rw [HX.out.2.1, hsp, ← hx, ← hr2, List.append_assoc]; rfl
      have hc2 : r2.count 44 + (i + 1) = C := by have := HX.out.2.2.1; rw [hr2]; omega
      have hset := rowP_set P (C + 1) x (by have := HX.out.1; omega)
      rw [← HX.out.1] at hset
      rw [← hK] at hm hrN
      have hm0 : ¬ ((m : Int) < 0) := by omega
      have hd1 := HX.out.2.2.2.1.cellAt i (by omega)
      have hd2 := HX.out.2.2.2.1.frozenAt i
      obtain ⟨y, hy⟩ := rowP_at P (C + 1) i (by omega) (by have := HX.out.1; omega)
      rw [hy] at hd1
      have H2 := Lib.hid hix; have HR2 := Lib.hid hR2; have HC2 := Lib.hid hc2; have HS := Lib.hid hset
      clear hix hR2 hc2 hset hsp hx hr2 hK h1 h2 h3 h4 hmem hy
      go_wp2_with fail
      refine H2.out.mono ?_
      rintro e w3 ⟨rfl, rfl⟩
      go_wp2_with fail
      go_roundw
      case rel =>
        refine ⟨i + 1, r2, P ++ [x], by go_num, rfl, by omega, hr2N, by rw [List.length_append, ← HX.out.1]; rfl, HR2.out, HC2.out, ?_, HX.out.2.2.2.2.setCell (p := ⟨w1.heap.size, i, none⟩) (Nat.le_refl _) _⟩
        have := (HX.out.2.2.2.1.stored i (.string (bs x))).1
        rw [HS.out] at this
        exact this
      case measure => simp [intOf] <;> omega
    · obtain rfl : i = C := by omega
      have hno : 44 ∉ r := fun e => by have := List.count_pos_iff.2 e; have := HX.out.2.2.1; omega
      have hfin : R = P ++ [r] := by rw [HX.out.2.1, splitL_not hno]
      have hset := rowP_set P (i + 1) r (by have := HX.out.1; omega)
      rw [← HX.out.1] at hset
      have hd1 := HX.out.2.2.2.1.cellAt i (by omega)
      have hd2 := HX.out.2.2.2.1.frozenAt i
      obtain ⟨y, hy⟩ := rowP_at P (i + 1) i (by omega) (by have := HX.out.1; omega)
      rw [hy] at hd1
      have HF := Lib.hid hfin; have HS := Lib.hid hset
      clear hix hno hfin hset hy
      go_wp2_with fail
      go_ret
      refine ⟨w1.heap.size, i + 1, by first | rfl | simp, ?_, HX.out.2.2.2.2.setCell (p := ⟨w1.heap.size, i, none⟩) (Nat.le_refl _) _⟩
      have := (HX.out.2.2.2.1.stored i (.string (bs r))).1
      rw [HS.out, ← HF.out] at this
      have hRl : R.length = i + 1 := HL.out
      unfold Strs
      rw [hRl]
      rw [show rowP R (i + 1) = strVN R from by rw [← hRl]; exact rowP_full R] at this
      exact this
end Go.Proofs.YtampjipbemmicaaDoor
