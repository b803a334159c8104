/- Chapter 7: the model's ParseLanguage. -/
import Derived.Test.YtampjipbemmicaaDoor86
namespace Go.Proofs.YtampjipbemmicaaDoor
open Go.RowKit Go.BigFrame Go.Deep
set_option linter.unusedSimpArgs false
set_option linter.unusedVariables false
set_option maxRecDepth 4000

theorem two_of_len {l : List (List UInt8)} (h : l.length = 2) : ∃ a b, l = [a, b] := by
  match l, h with
  | [a, b], _ => exact ⟨a, b, rfl⟩
theorem splitL_mem_len (c : UInt8) (l : List UInt8) : ∀ x ∈ splitL c l, x.length ≤ l.length := fun x hx => by
  have h1 := szT_mem _ x hx
  have h2 := splitL_total c l
  have h3 := splitL_len c l
  omega

set_option maxHeartbeats 2000000 in
theorem specParseLanguage_any (l : List UInt8) (w : World) (h9 : l.length ≤ 1048576) :
    Calls Tryd.prog 45 #[.string (bs l)] w fun e w' => LangOk (parseS l) w w' e := by
  have hsp := fun (W : World) => l1Split_any l 58 W (by omega)
  have hbs : (bs l).size = l.length := bs_size _
  obtain ⟨O, hO⟩ : ∃ O, O = parseS l := ⟨_, rfl⟩
  rw [← hO]
  unfold parseS at hO
  obtain ⟨K, hK⟩ : ∃ K, K = l.length := ⟨_, rfl⟩
  rw [← hK] at hbs h9
  by_cases h150 : l.length ≤ 150
  · rw [if_pos h150] at hO
    by_cases h2 : (splitL 58 l).length = 2
    · obtain ⟨a, b, hab⟩ := two_of_len h2
      have hal := splitL_mem_len 58 l a (by rw [hab]; simp)
      have hbl := splitL_mem_len 58 l b (by rw [hab]; simp)
      rw [h2, hab] at hsp
      rw [hab] at hO
      simp only at hO
      have hgs : ∀ (W : World), Calls Tryd.prog 76 #[.string (bs a), .int .u8 44] W fun e w' => ∃ q d, e = .returned (.slice q (splitL 44 a).length d) ∧ Strs w' W.heap.size (.slice q (splitL 44 a).length d) (splitL 44 a) ∧ Below W.heap.size W w' := fun W => l1Split_any a 44 W (by omega)
      obtain ⟨ns, hns⟩ : ∃ ns, ns = splitL 44 a := ⟨_, rfl⟩
      have hszn : szT ns ≤ 1048576 := by have := splitL_total 44 a; have := splitL_len 44 a; rw [hns]; omega
      rw [← hns] at hO hgs
      obtain ⟨N, hN⟩ : ∃ N, N = ns.length := ⟨_, rfl⟩
      rw [← hN] at hgs
      have HLG := Lib.hid (fun (W : World) (B : Nat) (v : Value) (hs : Strs W B v ns) => snGood_any W v ns b (strsO_argS hs hszn) (by omega))
      have HSP := Lib.hid hsp; have HGS := Lib.hid hgs; have HO2 := Lib.hid hO; have HN := Lib.hid hN
      have hk150 : K ≤ 150 := by omega
      clear hsp hgs hO hns hszn hal hbl hN hab h2 h150 hK
      go_enter Tryd.func45, Tryd.ntmps45
      go_wp2_with fail
      refine (HSP.out _).mono ?_
      rintro e w1 ⟨q, d, rfl, hs1, hb1⟩
      have hz1 := (twoAt_new w (.slice none 0 0) (.string ⟨#[]⟩) 27).below hb1
      rcases strs_open hs1 with ⟨_, e0⟩ | ⟨g, cap, e1, hBg, hg, _, _, hce, _⟩
      · cases e0
      simp only [List.length_cons, List.length_nil, Value.slice.injEq] at e1
      obtain ⟨rfl, _, rfl⟩ := e1
      have q0 : w1.cell? ⟨g, 0, none⟩ = some (.string (bs a)) := hce 0 (by simp)
      have q1 : w1.cell? ⟨g, 1, none⟩ = some (.string (bs b)) := hce 1 (by simp)
      have HB1 := Lib.hid (below_trans (below_alloc _ _) hb1); have HZ1 := Lib.hid hz1
      clear hb1 hz1 hs1 hce
      go_wp2_with fail
      go_region_with (go_at_call 76; ((with_reducible refine (HGS.out _).mono ?_); rintro e w2 ⟨q2, d2, rfl, hs2, hb2⟩; (first | (have r1 := (hb2.cell (p := ⟨g, 1, none⟩) hg).trans q1; have hg2 : g < w2.heap.size := Nat.lt_of_lt_of_le hg hb2.size; have HB12 := Lib.hid (below_trans (below_drew w1) hb2)) | (have hg0 := Nat.lt_succ_of_lt hg; have r1 := (hb2.cell (p := ⟨g, 1, none⟩) (by simpa using hg0)).trans (((below_alloc w1.drew _).cell (p := ⟨g, 1, none⟩) hg).trans q1); have hg2 : g < w2.heap.size := Nat.lt_of_lt_of_le hg (Nat.le_trans (by simp) hb2.size); have HB12 := Lib.hid (below_trans (below_trans (below_drew w1) (below_alloc w1.drew _)) hb2); have hz5 : TwoAt w2 w1.heap.size (.slice none 0 0) (.string ⟨#[]⟩) 27 := (twoAt_new w1.drew (.slice none 0 0) (.string ⟨#[]⟩) 27).below hb2; have HZ5 := Lib.hid hz5; obtain ⟨z0, z1, z2, z3⟩ := hz5.cells)); have HS2 := Lib.hid hs2; have HB2 := Lib.hid hb2; clear hs2 hb2))
      all_goals clear q0 q1 r1 hg2
      any_goals
        have hmark := HZ5
        clear hmark z0 z1 z2 z3
        have hy : TwoAt ((w2.setCell ⟨w1.heap.size, 0, none⟩ (.slice q2 N d2)).setCell ⟨w1.heap.size, 1, none⟩ (.string (bs b))) w1.heap.size (.slice q2 N d2) (.string (bs b)) 27 := by
          have h1 := heap_setCell_same w2 w1.heap.size 0 _ 27 (.slice q2 N d2) HZ5.out
          have h2 := heap_setCell_same _ w1.heap.size 1 _ 27 (.string (bs b)) h1
          exact h2
        have hs : Strs ((w2.setCell ⟨w1.heap.size, 0, none⟩ (.slice q2 N d2)).setCell ⟨w1.heap.size, 1, none⟩ (.string (bs b))) (w.heap.size + 1) (.slice q2 N d2) ns := by
          refine own_mono (own_block HS2.out fun q hq => ?_) (Nat.le_trans (Nat.succ_le_of_lt HZ1.out.lt) (Nat.le_of_lt (by simp)))
          have hq2 := (World.ownsRow.lt HS2.out q hq).1
          have hq3 : w1.heap.size + 1 ≤ q := by simpa using hq2
          rw [Below.heap_setCell _ _ _ _ (by show q ≠ w1.heap.size; omega), Below.heap_setCell _ _ _ _ (by show q ≠ w1.heap.size; omega)]
        have hb : Below w.heap.size w ((w2.setCell ⟨w1.heap.size, 0, none⟩ (.slice q2 N d2)).setCell ⟨w1.heap.size, 1, none⟩ (.string (bs b))) := ((below_trans HB1.out HB12.out).setCell (Nat.le_of_lt HZ1.out.lt) _).setCell (Nat.le_of_lt HZ1.out.lt) _
        have hz : TwoAt ((w2.setCell ⟨w1.heap.size, 0, none⟩ (.slice q2 N d2)).setCell ⟨w1.heap.size, 1, none⟩ (.string (bs b))) w.heap.size (.slice none 0 0) (.string ⟨#[]⟩) 27 := by
          have h0 := HZ1.out.below HB12.out
          have hlt := HZ1.out.lt
          show (((w2.setCell ⟨w1.heap.size, 0, none⟩ (.slice q2 N d2)).setCell ⟨w1.heap.size, 1, none⟩ (.string (bs b)))).heap[w.heap.size]? = _
          rw [Below.heap_setCell _ _ _ _ (by show w.heap.size ≠ w1.heap.size; omega), Below.heap_setCell _ _ _ _ (by show w.heap.size ≠ w1.heap.size; omega)]
          exact h0
        obtain ⟨k0, k1, _, _⟩ := hy.cells
        obtain ⟨c0, c1, f0, f1⟩ := hz.cells
        have HYY := Lib.hid hy; have HSS := Lib.hid hs; have HBB := Lib.hid hb; have HZZ := Lib.hid hz
        clear hy hs hb hz
        go_wp2_with fail
        refine (HLG.out _ (w.heap.size + 1) _ HSS.out).mono ?_
        rintro e w4 ⟨rfl, hb4⟩
        have hy4 := HYY.out.below hb4
        have hz4 := HZZ.out.below hb4
        have HS4 := Lib.hid (strs_below HSS.out hb4)
        have HB4 := Lib.hid (below_trans HBB.out hb4)
        clear k0 k1 c0 c1 f0 f1
        obtain ⟨k0, k1, _, _⟩ := hy4.cells
        obtain ⟨c0, c1, f0, f1⟩ := hz4.cells
        clear hb4 hy4 hz4
        have hO3 : O = if langB ns b = true then some (ns, b) else none := HO2.out
        have HO3 := Lib.hid hO3
        clear hO3
        generalize langB ns b = t at *
        cases t with
        | false =>
          have E : O = none := by rw [HO3.out]; rfl
          subst E
          go_wp2_with fail
          refine bodyPost_ret (v := .tuple #[.agg #[.slice none 0 0, .string ⟨#[]⟩], .bool false]) ?_ rfl (langOk_none (zero_below HB4.out _ _))
          simp [results, Tryd.results45, go_sem, c0, c1]
        | true =>
          have E : O = some (ns, b) := by rw [HO3.out]; rfl
          subst E
          go_wp2_with fail
          refine bodyPost_ret (v := .tuple #[.agg #[.slice q2 N d2, .string (bs b)], .bool true]) ?_ rfl ⟨q2, d2, ?_, ?_, zero_below HB4.out _ _⟩
          · simp [results, Tryd.results45, go_sem, c0, c1]
          · rw [HN.out]; rfl
          · show Strs _ _ (.slice q2 ns.length d2) ns
            have hs := HS4.out
            rw [HN.out] at hs
            refine own_mono (own_block hs fun q hq => ?_) (Nat.le_succ _)
            have hq2 := (World.ownsRow.lt hs q hq).1
            rw [Below.heap_setCell _ _ _ _ (by show q ≠ w.heap.size; omega), Below.heap_setCell _ _ _ _ (by show q ≠ w.heap.size; omega)]
      all_goals
        have hy := twoAt_new w2 (.slice q2 N d2) (.string (bs b)) 27
        have hs : Strs (w2.alloc (.cells #[.slice q2 N d2, .string (bs b)] 27)) (w.heap.size + 1) (.slice q2 N d2) ns := own_mono (strs_below HS2.out (below_alloc w2 _)) (Nat.succ_le_of_lt HZ1.out.lt)
        have hb := below_trans HB1.out (below_trans HB12.out (below_alloc w2 (.cells #[.slice q2 N d2, .string (bs b)] 27)))
        have hz := HZ1.out.below (below_trans HB12.out (below_alloc w2 (.cells #[.slice q2 N d2, .string (bs b)] 27)))
        obtain ⟨k0, k1, _, _⟩ := hy.cells
        obtain ⟨c0, c1, f0, f1⟩ := hz.cells
        have HYY := Lib.hid hy; have HSS := Lib.hid hs; have HBB := Lib.hid hb; have HZZ := Lib.hid hz
        clear hy hs hb hz
        go_wp2_with fail
        refine (HLG.out _ (w.heap.size + 1) _ HSS.out).mono ?_
        rintro e w4 ⟨rfl, hb4⟩
        have hy4 := HYY.out.below hb4
        have hz4 := HZZ.out.below hb4
        have HS4 := Lib.hid (strs_below HSS.out hb4)
        have HB4 := Lib.hid (below_trans HBB.out hb4)
        clear k0 k1 c0 c1 f0 f1
        obtain ⟨k0, k1, _, _⟩ := hy4.cells
        obtain ⟨c0, c1, f0, f1⟩ := hz4.cells
        clear hb4 hy4 hz4
        have hO3 : O = if langB ns b = true then some (ns, b) else none := HO2.out
        have HO3 := Lib.hid hO3
        clear hO3
        generalize langB ns b = t at *
        cases t with
        | false =>
          have E : O = none := by rw [HO3.out]; rfl
          subst E
          go_wp2_with fail
          refine bodyPost_ret (v := .tuple #[.agg #[.slice none 0 0, .string ⟨#[]⟩], .bool false]) ?_ rfl (langOk_none (zero_below HB4.out _ _))
          simp [results, Tryd.results45, go_sem, c0, c1]
        | true =>
          have E : O = some (ns, b) := by rw [HO3.out]; rfl
          subst E
          go_wp2_with fail
          refine bodyPost_ret (v := .tuple #[.agg #[.slice q2 N d2, .string (bs b)], .bool true]) ?_ rfl ⟨q2, d2, ?_, ?_, zero_below HB4.out _ _⟩
          · simp [results, Tryd.results45, go_sem, c0, c1]
          · rw [HN.out]; rfl
          · show Strs _ _ (.slice q2 ns.length d2) ns
            have hs := HS4.out
            rw [HN.out] at hs
            refine own_mono (own_block hs fun q hq => ?_) (Nat.le_succ _)
            have hq2 := (World.ownsRow.lt hs q hq).1
            rw [Below.heap_setCell _ _ _ _ (by show q ≠ w.heap.size; omega), Below.heap_setCell _ _ _ _ (by show q ≠ w.heap.size; omega)]
    · have hO2 : O = none := by
        rw [hO]
        cases hs : splitL 58 l with
        | nil => rfl
        | cons a r =>
          cases r with
          | nil => rfl
          | cons b r2 =>
            cases r2 with
            | nil => rw [hs] at h2; simp at h2
            | cons c r3 => rfl
      subst hO2
      obtain ⟨n, hn⟩ : ∃ n, n = (splitL 58 l).length := ⟨_, rfl⟩
      rw [← hn] at hsp h2
      have hn2 : ((n : Int) != 2) = true := by simp; omega
      have hk150 : K ≤ 150 := by omega
      have HSP := Lib.hid hsp
      clear hsp hO hn h150 hK h2
      go_enter Tryd.func45, Tryd.ntmps45
      go_wp2_with fail
      refine (HSP.out _).mono ?_
      rintro e w1 ⟨q, d, rfl, hs1, hb1⟩
      obtain ⟨c0, c1, f0, f1⟩ := ((twoAt_new w (.slice none 0 0) (.string ⟨#[]⟩) 27).below hb1).cells
      have HB1 := Lib.hid (below_trans (below_alloc _ _) hb1)
      clear hb1 hs1
      go_wp2_with fail
      refine bodyPost_ret (v := .tuple #[.agg #[.slice none 0 0, .string ⟨#[]⟩], .bool false]) ?_ rfl (langOk_none (zero_below HB1.out _ _))
      simp [results, Tryd.results45, go_sem, c0, c1]
  · rw [if_neg h150] at hO
    subst hO
    have hk150 : ¬ K ≤ 150 := by omega
    have HSP := Lib.hid hsp
    clear hsp h150 hK
    go_enter Tryd.func45, Tryd.ntmps45
    go_wp2_with fail
    refine (HSP.out _).mono ?_
    rintro e w1 ⟨q, d, rfl, hs1, hb1⟩
    obtain ⟨c0, c1, f0, f1⟩ := ((twoAt_new w (.slice none 0 0) (.string ⟨#[]⟩) 27).below hb1).cells
    have HB1 := Lib.hid (below_trans (below_alloc _ _) hb1)
    clear hb1 hs1
    go_wp2_with fail
    refine bodyPost_ret (v := .tuple #[.agg #[.slice none 0 0, .string ⟨#[]⟩], .bool false]) ?_ rfl (langOk_none (zero_below HB1.out _ _))
    simp [results, Tryd.results45, go_sem, c0, c1]
end Go.Proofs.YtampjipbemmicaaDoor
