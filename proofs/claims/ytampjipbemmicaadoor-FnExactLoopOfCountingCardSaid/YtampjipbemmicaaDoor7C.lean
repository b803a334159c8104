/- Chapter 7: the laws' helpers on languages: sized, copied, compared, marked and found again. -/
import Derived.Test.YtampjipbemmicaaDoor7B
namespace Go.Proofs.YtampjipbemmicaaDoor
open Go.RowKit Go.BigFrame
set_option linter.unusedSimpArgs false
set_option linter.unusedVariables false
set_option maxRecDepth 4000

/-- What all texts of a language take. -/
def szLg (ns : List (List UInt8)) (fr : List UInt8) : Nat := ns.length + szT ns + fr.length

set_option maxHeartbeats 1000000 in
theorem szLanguage_any (w : World) (u : Value) (ns : List (List UInt8)) (fr : List UInt8) (L : Nat) (h : ArgS w u ns) (hf : fr.length ≤ 9223372036854775807) (hL : L ≤ 1048576) :
    Calls Tryd.prog 14 #[.agg #[u, .string (bs fr)], .int .i64 (L : Int)] w fun e w' => e = .returned (.int .i64 (if szLg ns fr ≤ L then ((L - szLg ns fr : Nat) : Int) else -1)) ∧ Below w.heap.size w w' := by
  have H1 := Lib.hid (fun (W : World) (hb : Below w.heap.size w W) => szStringS_any W u ns L (argS_below h hb) hL)
  have hbs : (bs fr).size = fr.length := bs_size _
  obtain ⟨R, hR⟩ : ∃ R : Int, R = if szLg ns fr ≤ L then ((L - szLg ns fr : Nat) : Int) else -1 := ⟨_, rfl⟩
  rw [← hR]
  have HR := Lib.hid hR
  obtain ⟨T, hT⟩ : ∃ T, T = ns.length + szT ns := ⟨_, rfl⟩
  have hT2 : szLg ns fr = T + fr.length := by rw [hT]; rfl
  have HT2 := Lib.hid hT2
  obtain ⟨x, hx⟩ : ∃ x : Int, x = if ns.length + szT ns ≤ L then ((L - ns.length - szT ns : Nat) : Int) else -1 := ⟨_, rfl⟩
  rw [← hx] at H1
  by_cases hn : T ≤ L
  · obtain ⟨m, hm⟩ : ∃ m : Nat, m = L - T := ⟨_, rfl⟩
    have hxm : x = (m : Int) := by rw [hx, ← hT, if_pos hn, hm]; congr 1; omega
    subst hxm
    have hm2 : m ≤ L := by omega
    have hm3 : m + T = L := by omega
    clear hR hT2 hm hx hT
    have HM := Lib.hid hm3; clear hm3
    go_enter Tryd.func14, Tryd.ntmps14
    go_wp2_with fail
    refine (H1.out _ (below_alloc _ _)).mono ?_
    rintro e w1 ⟨rfl, rfl⟩
    by_cases hq : fr.length ≤ m
    · have e1 : szLg ns fr ≤ L := by rw [HT2.out, ← HM.out]; omega
      have e2 : L - szLg ns fr = m - fr.length := by rw [HT2.out, ← HM.out]; omega
      have E1 := Lib.hid e1; have E2 := Lib.hid e2; clear e1 e2
      go_wp2_with fail
      go_ret
      exact ⟨ret_int (by rw [HR.out, if_pos E1.out, E2.out]; omega), below_alloc _ _⟩
    · have e1 : ¬ szLg ns fr ≤ L := by rw [HT2.out, ← HM.out]; omega
      have E1 := Lib.hid e1; clear e1
      go_wp2_with fail
      go_ret
      exact ⟨ret_int (by rw [HR.out, if_neg E1.out]), below_alloc _ _⟩
  · have hxm : x = -1 := by rw [hx, ← hT, if_neg hn]
    subst hxm
    have e1 : ¬ szLg ns fr ≤ L := by rw [hT2]; omega
    have E1 := Lib.hid e1
    clear hR hT2 hx hT e1
    go_enter Tryd.func14, Tryd.ntmps14
    go_wp2_with fail
    refine (H1.out _ (below_alloc _ _)).mono ?_
    rintro e w1 ⟨rfl, rfl⟩
    go_wp2_with fail
    go_ret
    exact ⟨ret_int (by rw [HR.out, if_neg E1.out]), below_alloc _ _⟩

set_option maxRecDepth 100000 in
set_option maxHeartbeats 1000000 in
theorem toStringS_any (w : World) (u : Value) (ns : List (List UInt8)) (h : ArgS w u ns) (hn : ns.length ≤ 1048576) :
    Calls Tryd.prog 50 #[u] w fun e w' => e = .returned (.slice (some ⟨w.heap.size, 0, none⟩) ns.length ns.length) ∧ Strs w' w.heap.size (.slice (some ⟨w.heap.size, 0, none⟩) ns.length ns.length) ns ∧ Below w.heap.size w w' ∧ w.heap.size < w'.heap.size := by
  obtain ⟨i0, hi, hz0, hz1, hz2⟩ := info_parts info_strN
  obtain ⟨A, C, rfl, hC, hCm, hcell⟩ := h
  obtain ⟨N, hN⟩ : ∃ N, N = ns.length := ⟨_, rfl⟩
  have HC := Lib.hid hcell
  have HN := Lib.hid hN
  rw [← hN] at hn hC ⊢
  clear hcell hN
  have hn64 : (N : Int) ≤ 9223372036854775807 := by omega
  go_enter Tryd.func50, Tryd.ntmps50
  go_wp2_with (refine wpList_make_full _ rfl _ _ 22 rfl w.heap.size 9 i0 (.string ⟨#[]⟩) 1 Tryd.underlying22 hi hz0 hz1 .i64 .i64 (N : Int) (N : Int) N rfl rfl rfl rfl (by rw [hz2]; omega) (by unfold maxLen; omega) (Nat.le_refl _) ?_; intro w1 hown hgr; have HO := Lib.hid hown; have HB := Lib.hid ((Below.refl w.heap.size w).grown hgr (Nat.le_refl _) (fun k h => by cases h)); clear hown hgr)
  go_loopw [4] (fun iv wr => ∃ k : Nat, iv = .int .i64 k ∧ k ≤ N ∧ Hid (wr.ownsRow w.heap.size 9 1 (.slice (some ⟨w.heap.size, 0, none⟩) N N) N ((fillL [] ns k).map (fun l => .string (bs l))) ∧ Below w.heap.size w wr)) (fun iv _ => N - (intOf iv).toNat)
  case atStart =>
    refine ⟨0, rfl, Nat.zero_le _, ?_, HB.out⟩
    have e : (madeCells (Value.string ⟨#[]⟩).cells (N * 1)).toList = (fillL [] ns 0).map (fun l => Value.string (bs l)) := by
      rw [Nat.mul_one, fillL_zero, List.map_replicate, ← HN.out]; exact toList_madeCells_one _ _
    exact e ▸ HO.out
  case round =>
    obtain ⟨k, rfl, hk, HX⟩ := hrel
    by_cases hlt : k < N
    · obtain ⟨b, o, rfl, hb, hc, _⟩ := HC.out k (by rw [← HN.out]; exact hlt)
      have hcw : wr.cell? ⟨b, o + k, none⟩ = some (.string (bs (ns[k]'(by rw [← HN.out]; exact hlt)))) := (HX.out.2.cell (p := ⟨b, o + k, none⟩) hb).trans hc
      have hst := fillL_set ([] : List UInt8) ns k (by rw [← HN.out]; exact hlt)
      obtain ⟨x, hx⟩ : ∃ x, x = ns[k]'(by rw [← HN.out]; exact hlt) := ⟨_, rfl⟩
      rw [← hx] at hcw hst
      have HST := Lib.hid hst
      have hd1 := HX.out.1.cellAt k (by simp [fillL_len, ← HN.out]; exact hlt)
      have hd2 := HX.out.1.frozenAt k
      obtain ⟨y, hy⟩ : ∃ y, y = ((fillL [] ns k).map (fun l => Value.string (bs l)))[k]'(by simp [fillL_len, ← HN.out]; exact hlt) := ⟨_, rfl⟩
      rw [List.getElem?_eq_getElem (by simp [fillL_len, ← HN.out]; exact hlt), ← hy] at hd1
      clear hx hst hc hy
      go_wp2_with fail
      go_roundw
      case rel =>
        refine ⟨k + 1, by go_num, by omega, ?_, HX.out.2.setCell (p := ⟨w.heap.size, k, none⟩) (Nat.le_refl _) _⟩
        have := (HX.out.1.stored k (.string (bs x))).1
        have e : ((fillL [] ns k).map (fun l => Value.string (bs l))).set k (.string (bs x)) = (fillL [] ns (k + 1)).map (fun l => Value.string (bs l)) := by rw [← HST.out, List.map_set]
        rw [e] at this
        exact this
      case measure => simp [intOf] <;> omega
    · obtain rfl : k = N := by omega
      go_wp2_with fail
      go_ret
      have h1 := HX.out.1
      refine ⟨rfl, ?_, HX.out.2, (h1.lt w.heap.size rfl).2⟩
      unfold Strs
      rw [HN.out, fillL_all] at h1
      rw [HN.out]; exact h1
end Go.Proofs.YtampjipbemmicaaDoor
