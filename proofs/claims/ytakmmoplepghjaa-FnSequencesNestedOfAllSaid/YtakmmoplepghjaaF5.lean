/- The model's figures and steps: two rows that grow side by side. -/
import Derived.Test.YtakmmoplepghjaaF4
import Derived.Test.YtakmmoplepghjaaE1
import Derived.IntWalk
namespace Go.Proofs.Ytakmmoplepghjaa
open Go.RowKit Go.BigFrame
set_option linter.unusedSimpArgs false
set_option linter.unusedVariables false
set_option maxRecDepth 4000

theorem info_intF : (Try.prog.info? 3).map (fun i => (i.zero, i.size, i.bytes)) = some (some (.int .i64 0), 1, 8) := by kernel_rfl
def fqL (f : Nat → Nat) (m : Nat) : List Int := (List.range m).map fun i => ((f i : Nat) : Int)
theorem fqL_len (f : Nat → Nat) (m : Nat) : (fqL f m).length = m := by simp [fqL]
theorem fqL_succ (f : Nat → Nat) (m : Nat) : fqL f (m + 1) = fqL f m ++ [((f m : Nat) : Int)] := by simp [fqL, List.range_succ]
abbrev FigRow (w : World) (B : Nat) (v : Value) (m : Nat) (f : Nat → Nat) : Prop := w.ownsRow B 3 1 v m ((fqL f m).map (.int .i64))
theorem figRow_cells {w : World} {B : Nat} {v : Value} {m : Nat} {f : Nat → Nat} (h : FigRow w B v m f) (h0 : 0 < m) :
    ∃ g c, v = .slice (some ⟨g, 0, none⟩) m c ∧ B ≤ g ∧ g < w.heap.size ∧ m ≤ c ∧ c ≤ 9223372036854775807 ∧ ∀ i, i < m → w.cell? ⟨g, i, none⟩ = some (.int .i64 (f i : Nat)) := by
  rcases own_open h with ⟨_, e, _⟩ | ⟨g, c, rfl, h1, h2, h3, h4, h5, h6, _⟩
  · omega
  · unfold maxLen at h4
    refine ⟨g, c, rfl, h1, h2, h3, by omega, fun i hi => ?_⟩
    have := h6 i (by simpa [fqL] using hi)
    rw [this]
    simp [fqL]
theorem figRow_ints {w : World} {B : Nat} {v : Value} {m : Nat} {f : Nat → Nat} (h : FigRow w B v m f) : Ints w B v (fqL f m) := by
  unfold Ints; rw [fqL_len]; exact h
theorem figRow_take {w : World} {B g m n c : Nat} {f : Nat → Nat} (h : FigRow w B (.slice (some ⟨g, 0, none⟩) m c) m f) (hn : n ≤ m) : FigRow w B (.slice (some ⟨g, 0, none⟩) n c) n f := by
  obtain ⟨h1, h2⟩ := h
  refine ⟨by simp [fqL], ?_⟩
  rcases h2 with ⟨e, _⟩ | ⟨g', cap, cur, e, hB, hg, hnc, hcm, hs, ht⟩
  · cases e
  · cases e
    refine .inr ⟨g, c, cur, rfl, hB, hg, by omega, hcm, hs, ?_⟩
    have := congrArg (List.take n) ht
    rw [List.take_take] at this
    rw [Nat.mul_one] at this ⊢
    rw [show min n m = n by omega] at this
    rw [this]
    simp [fqL, ← List.map_take, List.take_range, show min n m = n by omega]
theorem mem_fqL {f : Nat → Nat} {m x : Nat} : (fqL f m).contains ((x : Nat) : Int) = (((List.range m).map f).contains x) := by
  rw [Bool.eq_iff_iff]
  simp only [fqL, List.contains_eq_mem, decide_eq_true_eq, List.mem_map, List.mem_range]
  constructor
  · rintro ⟨i, h, e⟩; exact ⟨i, h, by omega⟩
  · rintro ⟨i, h, e⟩; exact ⟨i, h, by omega⟩
theorem figL_has (k x : Nat) : (fqL fig (k + 1)).contains ((x : Nat) : Int) = decide (x ∈ figL k) := by
  rw [mem_fqL, figL_is]; simp [List.contains_eq_mem]
theorem stp_free (k : Nat) : stp (k + 1) ≠ fig k := by
  intro e
  rw [stp_succ] at e
  split at e
  · rename_i h
    obtain ⟨j, hj, e2⟩ := mem_figL.1 h
    exact fig_inj (i := j) (j := k) (by omega)
  · rename_i h
    exact h (mem_figL.2 ⟨k, by omega, e.symm⟩)
theorem stp_next_hit {k : Nat} (h : (stp (k + 1) + 1) ∈ figL (k + 1)) : stp (k + 2) = stp (k + 1) + 2 ∧ (stp (k + 1) + 2) ∉ figL (k + 1) := by
  refine ⟨by rw [stp_succ, if_pos h], fun h2 => ?_⟩
  obtain ⟨j, hj, e⟩ := mem_figL.1 h
  obtain ⟨i, hi, e2⟩ := mem_figL.1 h2
  exact fig_inj (i := j) (j := i) (by omega)
theorem stp_next_miss {k : Nat} (h : (stp (k + 1) + 1) ∉ figL (k + 1)) : stp (k + 2) = stp (k + 1) + 1 := by rw [stp_succ, if_neg h]

set_option maxHeartbeats 1000000 in
theorem l1HasF_any (w : World) (B : Nat) (v : Value) (ns : List Int) (x : Int) (ha : Ints w B v ns) (b : Bool) (hb : ns.contains x = b) :
    Calls Try.prog 78 #[v, .int .i64 x] w fun e w' => e = .returned (.bool b) ∧ w = w' := by
  have HBB := Lib.hid hb; clear hb
  rcases ints_open ha with ⟨rfl, rfl⟩ | ⟨g, cap, rfl, _, hg, hn, hcp, hca, _⟩
  · clear ha
    go_enter Try.func78, Try.ntmps78
    go_wp2_with fail
    refine wp_loop_rounds 1 ?_
    rw [rounds_succ]
    go_wp2
    go_ret
    exact ⟨ret_bool (by rw [← HBB.out]; rfl), rfl⟩
  · have HA := Lib.hid hca
    obtain ⟨N, hN⟩ : ∃ N, N = ns.length := ⟨_, rfl⟩
    have HN := Lib.hid hN
    rw [← hN] at hn ⊢
    clear ha hca hN
    go_enter Try.func78, Try.ntmps78
    go_wp2_with fail
    go_loop [9] (fun i => ∃ k : Nat, k ≤ N ∧ i = .int .i64 k ∧ Hid ((ns.take k).contains x = false)) (fun i => N - (intOf i).toNat)
    case atStart => exact ⟨0, Nat.zero_le _, rfl, rfl⟩
    case round =>
      obtain ⟨k, hk, rfl, HX⟩ := hrel
      by_cases hlt : k < N
      · have hlt' : k < ns.length := by rw [← HN.out]; exact hlt
        have hc := HA.out k hlt'
        have hst : (ns.take (k + 1)).contains x = (x == ns[k]) := by
          rw [List.take_succ_eq_append_getElem hlt']
          have := HX.out
          simp only [List.contains_eq_mem, List.mem_append, List.mem_singleton, decide_eq_false_iff_not] at this ⊢
          simp only [this, false_or]
          rw [Bool.eq_iff_iff]; simp
        have hall : ns.contains x = true ∨ ¬ (x == ns[k]) = true := by
          by_cases e : (x == ns[k]) = true
          · left
            rw [beq_iff_eq] at e
            simp [e]
          · exact .inr e
        have HST := Lib.hid hst; have HALL := Lib.hid hall
        clear hst hall
        generalize ns[k] = y at *
        by_cases hxy : y = x
        · have hb : (y == x) = true := by simp [hxy]
          have HF : Hid (ns.contains x = true) := by
            rcases HALL.out with h | h
            · exact h
            · exact absurd (by simp [hxy]) h
          clear hxy HST HALL
          go_wp2
          go_ret
          exact ⟨ret_bool (by rw [← HBB.out, HF.out]), rfl⟩
        · have hb : (y == x) = false := by simp [hxy]
          have HT : Hid ((ns.take (k + 1)).contains x = false) := by rw [HST.out]; simp; exact fun e => hxy e.symm
          clear hxy HST HALL
          go_wp2
          go_round
          case rel => exact ⟨k + 1, by omega, by go_num, HT.out⟩
          case measure => simp [intOf] <;> omega
      · obtain rfl : k = N := by omega
        go_wp2
        go_ret
        refine ⟨ret_bool ?_, rfl⟩
        have := HX.out
        rw [List.take_of_length_le (by rw [← HN.out]; exact Nat.le_refl _)] at this
        rw [← HBB.out, this]


def sLen : Value → Nat
  | .slice _ m _ => m
  | _ => 0
set_option maxHeartbeats 8000000 in
theorem seFigures_any (n : Nat) (w : World) (h1 : 1 ≤ n) (h9 : n ≤ 1000) :
    Calls Try.prog 76 #[.int .i64 n] w fun e w' => ∃ fv sv, e = .returned (.tuple #[fv, sv]) ∧ Hid (FigRow w' w.heap.size fv n fig ∧ FigRow w' w.heap.size sv n (fun i => stp (i + 1)) ∧ Below w.heap.size w w') := by
  obtain ⟨i0, hi, hz0, hz1, hz2⟩ := info_parts info_intF
  go_enter Try.func76, Try.ntmps76
  go_wp2_with fail
  go_loopw [4, 5, 6] (fun fv sv q wr => ∃ (k s fa fc sa sc : Nat), fv = .slice (some ⟨fa, 0, none⟩) (k + 1) fc ∧ sv = .slice (some ⟨sa, 0, none⟩) k sc ∧ k ≤ n ∧ q = .int .i64 (s : Nat) ∧ fa ≠ sa ∧ Hid (s = stp (k + 1)) ∧ Hid (FigRow wr w.heap.size fv (k + 1) fig ∧ FigRow wr w.heap.size sv k (fun i => stp (i + 1)) ∧ Below w.heap.size w wr)) (fun _ sv _ _ => n - sLen sv)
  case atStart =>
    refine ⟨0, 2, w.heap.size, 1, w.heap.size + 1, 0, rfl, rfl, by omega, rfl, by omega, Lib.hid stp_one.symm, ?_⟩
    have h1 := own_lit w w.heap.size 3 [.int .i64 1] (Nat.le_refl _) (by simp [maxLen])
    have h2 := own_lit (w.alloc (.cells #[.int .i64 1] 3)) w.heap.size 3 [] (by simp) (by simp [maxLen])
    rw [World.size_alloc] at h2
    exact ⟨own_below h1 (below_alloc _ _), h2, (below_alloc w _).alloc (by simp) _⟩
  case round =>
    obtain ⟨k, s, fa, fc, sa, sc, rfl, rfl, hkn, rfl, hne, HS, HX⟩ := hrel
    by_cases hlt : k < n
    · obtain ⟨g, c, hv, hgB, hgw, hmc, hc9, hce⟩ := figRow_cells HX.out.1 (by omega)
      cases hv
      have c1 := hce k (by omega)
      have hx9 := fig_le6 (k := k) (by omega)
      have hs9 := (stp_ge (k + 1)).2.1
      have hsx := stp_free k
      rw [← HS.out] at hs9 hsx
      obtain ⟨x, hx⟩ : ∃ x, x = fig k := ⟨_, rfl⟩
      rw [← hx] at c1 hx9 hsx
      have HXX := Lib.hid hx
      have e1 : ((s : Int) == (x : Int)) = false := by simp; omega
      clear hce hx
      go_wp2_with (at_builtin; refine wpList_app _ rfl _ _ 25 rfl w.heap.size 3 i0 (.int .i64 0) 8 Try.underlying25 hi hz0 hz1 hz2 rfl _ k _ rfl (HX.out.2.1.alloc _) _ 1 1 [.int .i64 (s : Int)] rfl rfl ?c1 ?c2 ?c3 ?c4 ?c5 ?_)
      case c1 => intro j u hj; cases j with | zero => (simp at hj; subst hj; simp [Addr.add]) | succ j => simp at hj
      case c2 => intro u hu; simp at hu; subst hu; rfl
      case c3 => unfold maxLen; omega
      case c4 => omega
      case c5 => have := HX.out.2.2.size; simp; omega
      intro v' w3 hown' hgrow hwh
      have hown1 : FigRow w3 w.heap.size v' (k + 1) (fun i => stp (i + 1)) := by
        have := hown'
        unfold FigRow
        rw [fqL_succ, List.map_append, ← HS.out]
        simpa using this
      have hsz3 := hgrow.size
      rw [World.size_alloc] at hsz3
      have hb3 : w3.heap[fa]? = wr.heap[fa]? := (hgrow.block fa (by simp; omega) (by simp [Value.ownBlock]; omega)).trans (heap_alloc_old _ _ hgw)
      have c1' : w3.cell? ⟨fa, k, none⟩ = some (.int .i64 (x : Nat)) := by
        have e : w3.cell? ⟨fa, k, none⟩ = wr.cell? ⟨fa, k, none⟩ := by simp only [World.cell?, hb3]
        rw [e, c1]
      have hfig3 : FigRow w3 w.heap.size (.slice (some ⟨fa, 0, none⟩) (k + 1) fc) (k + 1) fig := own_block HX.out.1 (fun g hg => by cases hg; exact hb3)
      have hbel3 : Below w.heap.size w w3 := (HX.out.2.2.alloc HX.out.2.2.size _).grown hgrow (by have := HX.out.2.2.size; simp; omega) (fun q hq => (HX.out.2.1.lt q hq).1)
      obtain ⟨sa', sc', rfl, hsB, hsw, _, _, _⟩ := figRow_cells hown1 (by omega)
      have hne3 : sa' ≠ fa := by
        rcases hwh with e | e
        · simp [Value.ownBlock] at e; omega
        · simp [Value.ownBlock] at e; omega
      have R1 := Lib.hid hown1; have R2 := Lib.hid hfig3; have R3 := Lib.hid hbel3
      clear hown' hgrow hwh hown1 hb3 hfig3 hbel3 c1
      go_wp2_with (at_builtin; refine wpList_app _ rfl _ _ 25 rfl w.heap.size 3 i0 (.int .i64 0) 8 Try.underlying25 hi hz0 hz1 hz2 rfl _ (k + 1) _ rfl (R2.out.alloc _) _ 1 1 [.int .i64 ((x : Int) + (s : Int))] rfl rfl ?c1 ?c2 ?c3 ?c4 ?c5 ?_)
      case c1 => intro j u hj; cases j with | zero => (simp at hj; subst hj; simp [Addr.add]) | succ j => simp at hj
      case c2 => intro u hu; simp at hu; subst hu; rfl
      case c3 => unfold maxLen; omega
      case c4 => omega
      case c5 => have := R3.out.size; simp; omega
      intro v' w4 hown' hgrow hwh
      have hown2 : FigRow w4 w.heap.size v' (k + 2) fig := by
        have := hown'
        unfold FigRow
        rw [fqL_succ, List.map_append, fig_succ, ← HS.out, ← HXX.out]
        simpa using this
      have hb4 : w4.heap[sa']? = w3.heap[sa']? := (hgrow.block sa' (by simp; omega) (by simp [Value.ownBlock]; omega)).trans (heap_alloc_old _ _ hsw)
      have hst4 : FigRow w4 w.heap.size (.slice (some ⟨sa', 0, none⟩) (k + 1) sc') (k + 1) (fun i => stp (i + 1)) := own_block R1.out (fun g hg => by cases hg; exact hb4)
      have hbel4 : Below w.heap.size w w4 := (R3.out.alloc R3.out.size _).grown hgrow (by have := R3.out.size; simp; omega) (fun q hq => (R2.out.lt q hq).1)
      obtain ⟨fa', fc', rfl, hfB, hfw, _, _, _⟩ := figRow_cells hown2 (by omega)
      have hne4 : fa' ≠ sa' := by
        rcases hwh with e | e
        · simp [Value.ownBlock] at e; omega
        · simp [Value.ownBlock] at e; omega
      have R4 := Lib.hid hown2; have R5 := Lib.hid hst4; have R6 := Lib.hid hbel4
      have HAS := Lib.hid (fun (t : Nat) (b : Bool) (hb : decide (t ∈ figL (k + 1)) = b) => l1HasF_any w4 w.heap.size _ (fqL fig (k + 2)) (t : Int) (figRow_ints hown2) b ((figL_has (k + 1) t).trans hb))
      clear hown' hgrow hwh hown2 hb4 hst4 hbel4 c1'
      go_wp2_with fail
      go_loop [6] (fun q => ∃ t : Nat, q = .int .i64 (t : Nat) ∧ (t = s + 1 ∨ (t = s + 2 ∧ (s + 1) ∈ figL (k + 1)))) (fun q => s + 3 - (intOf q).toNat)
      case atStart => exact ⟨s + 1, by go_num, .inl rfl⟩
      case round =>
        obtain ⟨t, rfl, ht⟩ := hrel
        have hfin : t ∉ figL (k + 1) → t = stp (k + 2) := fun hno => by
          rcases ht with rfl | ⟨rfl, hm⟩
          · rw [HS.out] at hno ⊢; exact (stp_next_miss hno).symm
          · rw [HS.out] at hm ⊢; exact (stp_next_hit hm).1.symm
        have ht9 : t ≤ s + 2 := by omega
        have ht8 : s + 1 ≤ t := by omega
        have HT := Lib.hid ht; have HFIN := Lib.hid hfin
        clear ht hfin
        by_cases hm : t ∈ figL (k + 1)
        · have hc := HAS.out t true (by simp [hm])
          have ht1 : t = s + 1 := by
            rcases HT.out with h | ⟨h, hm2⟩
            · exact h
            · rw [h, HS.out] at hm; rw [HS.out] at hm2; exact absurd hm (stp_next_hit hm2).2
          have HC := Lib.hid hc; have HM := Lib.hid hm; have HT1 := Lib.hid ht1
          clear hc hm ht1
          go_wp2_with fail
          refine HC.out.mono ?_
          rintro e w5 ⟨rfl, rfl⟩
          go_wp2_with fail
          go_round
          case rel => exact ⟨t + 1, by go_num, .inr ⟨by have := HT1.out; omega, by rw [← HT1.out]; exact HM.out⟩⟩
          case measure => simp [intOf] <;> omega
        · have hc := HAS.out t false (by simp [hm])
          have HC := Lib.hid hc; have HM := Lib.hid hm
          clear hc hm
          go_wp2_with fail
          refine HC.out.mono ?_
          rintro e w5 ⟨rfl, rfl⟩
          go_wp2_with fail
          go_roundw
          case rel => exact ⟨k + 1, t, fa', fc', sa', sc', rfl, rfl, by omega, rfl, hne4, Lib.hid (HFIN.out HM.out), R4.out, R5.out, R6.out⟩
          case measure => simp [sLen] <;> omega
    · obtain rfl : k = n := by omega
      have hcap : k + 1 ≤ fc := by
        obtain ⟨g, c, hv, _, _, hmc, _⟩ := figRow_cells HX.out.1 (by omega)
        cases hv; exact hmc
      go_wp2_with fail
      go_ret2
      exact ⟨_, _, rfl, figRow_take HX.out.1 (by omega), HX.out.2.1, HX.out.2.2⟩
end Go.Proofs.Ytakmmoplepghjaa
