/- AllSelfTold: the program's. -/
import Derived.Test.YtkdoghopbefjfaaQ7
import Derived.Deep.RegionHeld
namespace Go.Proofs.Ytkdoghopbefjfaa
open Go.RowKit Go.BigFrame Go.Shelf
set_option linter.unusedSimpArgs false
set_option linter.unusedVariables false
set_option maxRecDepth 4000
attribute [local go_sem] Oper.semAt_some

set_option maxRecDepth 100000 in
set_option maxHeartbeats 1000000 in
theorem implAllSelfTold_any (w : World) (n : Int) : Calls Try.prog 44 #[.int .i64 n] w fun e w' => TellOk (selfO n) w w' e := by
  obtain ⟨j0, hj, hy0, hy1, hy2⟩ := info_parts info_rowT
  by_cases h : 1 ≤ n ∧ n ≤ 9
  · have ho : selfO n = some ((selfs n.toNat [] n.toNat).map ti) := if_pos h
    have hd : decide ((1 : Int) ≤ n ∧ n ≤ 9) = true := decide_eq_true h
    obtain ⟨N, hN⟩ : ∃ N : Nat, n = (N : Int) := ⟨n.toNat, by omega⟩
    subst hN
    rw [Int.toNat_natCast] at ho
    have hN1 : 1 ≤ N := by omega
    have hN9 : N ≤ 9 := by omega
    rw [selfs_odo N hN1] at ho
    obtain ⟨all, hall⟩ : ∃ all, all = aftP N 0 (List.replicate N 0) N := ⟨_, rfl⟩
    rw [← hall] at ho
    have hal : all.length ≤ 1000000000 := by
      have h1 := allS_cnt N N N
      rw [allS_zero, ← hall] at h1
      have h2 := cntS_le N hN9 N N
      have h3 : 10 ^ N ≤ 10 ^ 9 := Nat.pow_le_pow_right (by omega) hN9
      have h4 : (10 : Nat) ^ 9 = 1000000000 := by decide
      simp only [List.length_cons] at h1
      omega
    have HO := Lib.hid ho; have HD := Lib.hid hd; have HA := Lib.hid hall; have HAL := Lib.hid hal; clear ho hd hall hal h
    refine calls_marks Try.func44 rfl fun Q hQ => ?_
    simp only [Try.ntmps44, List.size_toArray, List.length_cons, List.length_nil, Nat.reduceAdd, Nat.reduceSub, Array.replicate_succ, Array.replicate_zero, List.push_toArray, List.append_toArray, List.nil_append, List.cons_append]
    go_wp2_with fail
    refine (isWithin_is true _ _ _ _ HD.out).mono ?_
    rintro e w1 ⟨rfl, rfl⟩
    go_wp2_with fail
    refine (talliesUpTo_is _ _ _ _).mono ?_
    rintro e w2 ⟨rfl, hw2⟩
    have hs2 : w2.heap.size = w.heap.size + 6 := by rw [hw2]; simp
    have hbW : Below w.heap.size w w2 := by
      rw [hw2]
      exact below_trans (below_trans (below_trans (below_trans (below_trans (below_alloc _ _) (below_alloc _ _)) (below_alloc _ _)) (below_alloc _ _)) (below_alloc _ _)) (below_alloc _ _)
    obtain ⟨X, hX⟩ : ∃ X, X = ((w.alloc (.cells #[.int .i64 (N : Int)] 3)).alloc (.cells #[] 32)).alloc (.cells #[.slice (some ⟨w.heap.size + 1, 0, none⟩) 0 0] 51) := ⟨_, rfl⟩
    have hXs : X.heap.size = w.heap.size + 1 + 1 + 1 := by rw [hX]; simp
    rw [← hX] at hw2
    have hbA : Below X.heap.size X w2 := by rw [hw2]; exact below_trans (below_trans (below_alloc _ _) (below_alloc _ _)) (below_alloc _ _)
    have hbox : Boxed w2 (w.heap.size + 1 + 1) 51 (.slice (some ⟨w.heap.size + 1, 0, none⟩) 0 0) := by
      have h0 := Boxed.new ((w.alloc (.cells #[.int .i64 (N : Int)] 3)).alloc (.cells #[] 32)) 51 (.slice (some ⟨w.heap.size + 1, 0, none⟩) 0 0)
      have e : ((w.alloc (.cells #[.int .i64 (N : Int)] 3)).alloc (.cells #[] 32)).heap.size = w.heap.size + 1 + 1 := by simp
      rw [e, ← hX] at h0
      exact (hbA.block _ (by omega)).trans h0
    have hnb : w2.cell? ⟨w.heap.size, 0, none⟩ = some (.int .i64 (N : Int)) := by
      refine (hbA.cell (p := ⟨w.heap.size, 0, none⟩) (by show w.heap.size < _; omega)).trans ?_
      rw [hX]; simp [go_sem]
    have hbn : BoxN (w.heap.size + 1 + 1 + 1) (w.heap.size + 1 + 1 + 1 + 1) (w.heap.size + 1 + 1 + 1 + 2) N N N w2 := by
      rw [hw2, ← hXs]; refine ⟨?_, ?_, ?_⟩ <;> simp [go_sem]
    have hrow : IntsRA w2 w.heap.size (.slice (some ⟨w.heap.size + 1, 0, none⟩) 0 0) [] [] := by
      refine ⟨?_, rfl, fun i u xs h => by simp at h, fun i j u u' _ h => by simp at h, fun i u h => by simp at h⟩
      have h0 := own_lit (w.alloc (.cells #[.int .i64 (N : Int)] 3)) w.heap.size 32 [] (by simp) (Nat.zero_le _)
      rw [Go.Deep.nblk_alloc] at h0
      refine own_below (own_below h0 (below_alloc _ (.cells #[.slice (some ⟨w.heap.size + 1, 0, none⟩) 0 0] 51))) ?_
      show Below (((w.alloc (.cells #[.int .i64 (N : Int)] 3)).alloc (.cells #[] 32)).alloc (.cells #[.slice (some ⟨w.heap.size + 1, 0, none⟩) 0 0] 51)).heap.size (((w.alloc (.cells #[.int .i64 (N : Int)] 3)).alloc (.cells #[] 32)).alloc (.cells #[.slice (some ⟨w.heap.size + 1, 0, none⟩) 0 0] 51)) w2
      rw [← hX]; exact hbA
    have inv0 : RunL w w2 (w.heap.size + 1) (w.heap.size + 1 + 1) w.heap.size N [] w2 (.slice (some ⟨w.heap.size + 1, 0, none⟩) 0 0) [] :=
      ⟨hbox, hnb, hrow, hbW, Nat.le_refl _, fun k e => .inl (Option.some.inj e).symm, fun i x k h => by simp at h⟩
    have HI0 := Lib.hid inv0; have HBN := Lib.hid hbn; have HS2 := Lib.hid hs2
    clear inv0 hbn hbox hnb hrow hbW hs2 hw2 hbA hXs hX
    go_wp2_with fail
    generalize hB3 : w.heap.size + 1 + 1 + 1 + 2 = B3 at *
    generalize hB2 : w.heap.size + 1 + 1 + 1 + 1 = B2 at *
    generalize hB1 : w.heap.size + 1 + 1 + 1 = B1 at *
    generalize hbx : w.heap.size + 1 + 1 = bx at *
    generalize ha0 : w.heap.size + 1 = a0 at *
    have hs2 := HS2.out
    refine wp_tallies N N N hN1 hN9 hN9 (by omega) B1 B2 B3 all HA.out HBN.out rfl
      (fun got W => ∃ v vs, RunL w w2 a0 bx w.heap.size N (got.filter selfT) W v vs)
      (fun s A C row hs hg hr => by obtain ⟨v, vs, h⟩ := hs; exact ⟨v, vs, runL_other h (by omega) (by omega) (by omega) (by omega) hg hr⟩)
      ⟨_, _, HI0.out⟩
      (fun x a' W => ∃ b5, a' = { tmps := #[.int .i64 (N : Int), .pointer (some ⟨w.heap.size, 0, none⟩), .slice none 0 0, .bool false, .pointer (some ⟨bx, 0, none⟩), .pointer (some ⟨b5, 0, none⟩), .int .i64 (N : Int), .bool true, .bool false, .slice (some ⟨a0, 0, none⟩) 0 0, .int .i64 (N : Int), .int .i64 (N : Int), .int .i64 (N : Int), .func (.func 100) #[] #[.pointer (some ⟨B1, 0, none⟩), .pointer (some ⟨B2, 0, none⟩), .pointer (some ⟨B3, 0, none⟩)], aggT (pad x), undef, undef, undef, undef, undef, undef, undef, undef, undef, undef, undef, undef], defers := [] } ∧ BlkT W b5 (pad x) ∧ w2.heap.size + 3 ≤ b5)
      (fun x a' A C row hs hg hr => by
        obtain ⟨b5, h1, h2, h3⟩ := hs
        exact ⟨b5, h1, ⟨(hg.block b5 (blkT_lt h2) (fun e => by have := hr b5 e.symm; omega)).trans h2.1, h2.2⟩, h3⟩) ?assign ?body ?done
    case assign =>
      intro lp pre x W K hi hsz hxl hK
      simp only [List.setIfInBounds_toArray, List.set_cons_succ, List.set_cons_zero]
      have hp9 := pad_len x (by omega)
      unfold aggT
      gi_wp2_with (refine wpListIn_putT rfl _ _ rfl W.heap.size rfl zeros9 (pad x) rfl ⟨heap_alloc_new _ _, rfl⟩ hp9 ?_; intro w3 hB3' hoth hbb hsz3)
      have hbl : Below W.heap.size W w3 := (below_alloc W _).trans (hbb _ (Nat.le_refl _))
      refine hK _ w3 ⟨hbl.size, fun k o _ hk _ => (hbl.block k (Array.getElem?_eq_some_iff.1 hk).1).trans hk⟩ (fun k hk => hbl.block k (by rcases hk with rfl | rfl | rfl | rfl <;> omega)) ?_ ⟨W.heap.size, rfl, hB3', by omega⟩
      obtain ⟨v, vs, h⟩ := hi
      exact ⟨v, vs, runL_other h (by omega) (by omega) (by omega) (by omega) (grown_of_below' hbl) (fun r e => by cases e)⟩
    case body =>
      rintro lp pre x a' W Q2 hno hQ2 ⟨v, vs, inv⟩ ⟨b5, rfl, hb5, hb5s⟩ hsz hpl hxl
      have hp9 := pad_len x (by omega)
      obtain ⟨ts, hts⟩ : ∃ ts, ts = pad x := ⟨_, rfl⟩
      have htk : ts.take N = x := by rw [hts, ← hxl]; exact pad_take x
      have htik : (ti ts).take N = ti x := by rw [← htk]; simp [ti]
      obtain ⟨us, hus⟩ : ∃ us, us = telP N x := ⟨_, rfl⟩
      have hT : ∀ W, Calls Try.prog 83 #[.agg (tvl ts).toArray, .int .i64 (N : Int)] W fun e w' => e = .returned (.agg (tvA us)) ∧ Below W.heap.size W w' := fun W => by
        have h := tellFirst_any ts N W (by rw [hts]; exact hp9) hN9
        rw [htk, ← hus] at h
        exact h
      have hLs : ∀ W, Calls Try.prog 59 #[.agg (tvl ts).toArray, .int .i64 (N : Int)] W fun e w' => ∃ u, e = .returned u ∧ IntsA w' W.heap.size u (ti x) ∧ Below W.heap.size W w' ∧ u.ownBlock = some W.heap.size := fun W => by
        have h := list_any ts N W (by rw [hts]; exact hp9) hN9
        rw [htik] at h
        exact h
      obtain ⟨sb, hsb⟩ : ∃ sb, sb = selfT x := ⟨_, rfl⟩
      have heq : ∀ W, (binOp .eql 65 (.agg (tvl ts).toArray) (.agg (tvA us))).run Try.prog W = .ok (.bool sb) W := fun W => by
        have h := run_eqlT W ts us (by rw [hts]; exact hp9) (by rw [hus]; exact telP_len _ _)
        have hb : decide (ts = us) = sb := by
          rw [hsb, hts, hus, telP_pad x N hN9]
          unfold selfT
          rw [hxl]
          by_cases e : tel N x = x
          · rw [decide_eq_true e]; exact decide_eq_true (by rw [e])
          · rw [decide_eq_false e]; exact decide_eq_false (fun h => e ((pad_inj (by rw [tel_len]; exact hxl)).1 h).symm)
        rw [hb] at h
        exact h
      have hts9 : ts.length = 9 := by rw [hts]; exact hp9
      have hfl : (pre ++ [x]).filter selfT = pre.filter selfT ++ (if sb = true then [x] else []) := by rw [List.filter_append, hsb]; simp [List.filter_cons]
      have hvl : vs.length ≤ 1000000000 := by
        rw [← inv.rr.len, List.length_map]
        have h1 := List.length_filter_le selfT pre
        have h2 := HAL.out
        omega
      rw [← hts] at hb5 ⊢
      have HT := Lib.hid hT; have HLS := Lib.hid hLs; have HF := Lib.hid hfl; have HI := Lib.hid inv; have HB5 := Lib.hid hb5; have HTS9 := Lib.hid hts9; have HVL := Lib.hid hvl
      clear hT hLs hfl hb5 hts9 hp9 hsb hts hus htk htik hpl hvl
      unfold aggT
      gi_wp2_with fail
      refine region_round (by kernel_rfl) (fun ⟨a, w, h⟩ => hno.1 ⟨a, w, h⟩) ?_
      have hu52 := under_tally
      have hi52 : (Try.prog.info? 65).map (·.size) = some (tvl ts).length := by rw [tvl_len, HTS9.out]; exact info_tally
      have hrg : ∀ W, BlkT W b5 ts → W.rangeAt b5 0 (tvl ts) := fun W h j v hv => by
        rw [Nat.zero_add, cell_of_row W _ j _ _ _ h.1]; simpa [tvA] using hv
      have hHeld : BlkT W.drew b5 ts ∧ W.drew.cell? ⟨w.heap.size, 0, none⟩ = some (.int .i64 (N : Int)) := ⟨blkT_below HB5.out (below_drew _), inv.nb⟩
      refine wpAny_of_held (S := fun w' => BlkT w' b5 ts ∧ w'.cell? ⟨w.heap.size, 0, none⟩ = some (.int .i64 (N : Int))) _ _ _ _ ?_
      clear inv
      refine wpAnyH_take (i := 0) (v := .agg (tvl ts).toArray) rfl (by kernel_rfl) (by kernel_rfl) (by kernel_rfl) (fun _ _ _ h => (hno.2 _ _ _ h).elim) (yieldsIf_load_mid (by kernel_rfl) 65 _ rfl b5 0 rfl (tvl ts) _ (fun w hw => hrg w hw.1) hu52 rfl hi52) hHeld ?_
      simp only [Act.put, List.setIfInBounds_toArray, List.set_cons_zero, List.set_cons_succ]
      refine wpAnyH_take (i := 1) (v := .agg (tvl ts).toArray) rfl (by kernel_rfl) (by kernel_rfl) (by kernel_rfl) (fun _ _ _ h => (hno.2 _ _ _ h).elim) (yieldsIf_load_mid (by kernel_rfl) 65 _ rfl b5 0 rfl (tvl ts) _ (fun w hw => hrg w hw.1) hu52 rfl hi52) hHeld ?_
      simp only [Act.put, List.setIfInBounds_toArray, List.set_cons_zero, List.set_cons_succ]
      refine wpAnyH_take (i := 2) (v := .int .i64 (N : Int)) rfl (by kernel_rfl) (by kernel_rfl) (by kernel_rfl) (fun _ _ _ h => (hno.2 _ _ _ h).elim) (Or.inl ⟨by kernel_rfl, fun w hw => by have h := hw.2; first | (go_simp; done) | (go_simp; rfl)⟩) hHeld ?_
      simp only [Act.put, List.setIfInBounds_toArray, List.set_cons_zero, List.set_cons_succ]
      refine wpAnyH_ready (rs := [3]) (by kernel_rfl) (by simp) (AllReadyH.cons rfl (fun K hK => ?_) AllReadyH.nil)
      go_simp
      go_at_call 83
      refine (HT.out _).mono ?_
      rintro e w3 ⟨rfl, hb3⟩
      have hnb3 : w3.cell? ⟨w.heap.size, 0, none⟩ = some (.int .i64 (N : Int)) := (hb3.cell (p := ⟨w.heap.size, 0, none⟩) (World.block_lt_of_cell? _ _ hHeld.2)).trans hHeld.2
      have hHeld3 : BlkT w3 b5 ts ∧ w3.cell? ⟨w.heap.size, 0, none⟩ = some (.int .i64 (N : Int)) := ⟨blkT_below hHeld.1 hb3, hnb3⟩
      refine hK.out _ _ hHeld3 (fun _ => ?_)
      clear hK K
      try simp only [Act.put, List.setIfInBounds_toArray, List.set_cons_zero, List.set_cons_succ]
      refine wpAnyH_take (i := 4) (v := .bool sb) rfl (by kernel_rfl) (by kernel_rfl) (by kernel_rfl) (fun _ _ _ h => (hno.2 _ _ _ h).elim) (Or.inl ⟨by kernel_rfl, fun w hw => by first | rfl | (go_simp; done) | (go_simp; rfl)⟩) hHeld3 ?_
      simp only [Act.put, List.setIfInBounds_toArray, List.set_cons_zero, List.set_cons_succ]
      refine wpAnyH_done (by kernel_rfl) ?_ _
      simp only [List.getElem_toArray, List.getElem_cons_succ, List.getElem_cons_zero, List.set_cons_zero, List.set_cons_succ]
      have hbr : Below W.heap.size W w3 := below_trans (below_drew W) hb3
      have hkf : KeepsFrom w2.heap.size W w3 := ⟨hbr.size, fun k o _ hk _ => (hbr.block k (Array.getElem?_eq_some_iff.1 hk).1).trans hk⟩
      have hk4 : KeepsFour B1 B2 B3 (w2.heap.size + 2) W w3 := fun k hk => hbr.block k (by rcases hk with rfl | rfl | rfl | rfl <;> omega)
      have hI3 : RunL w w2 a0 bx w.heap.size N (pre.filter selfT) w3 v vs := runL_other HI.out (by omega) (by omega) (by omega) (by omega) (grown_of_below' hbr) (fun r e => by cases e)
      have HKF := Lib.hid hkf; have HK4 := Lib.hid hk4; have HI3 := Lib.hid hI3; have HB53 := Lib.hid hHeld3.1; have HNB3 := Lib.hid hnb3
      have hsz3 : w2.heap.size + 3 ≤ w3.heap.size := Nat.le_trans hsz hbr.size
      clear hkf hk4 hI3 hHeld hHeld3 hnb3 hb3 hbr HI heq
      cases sb with
      | false =>
        gi_wp2_with fail
        all_goals exact hQ2 _ _ HKF.out HK4.out ⟨v, vs, by rw [HF.out]; simpa using HI3.out⟩
      | true =>
        gi_wp2_with fail
        refine region_round (by kernel_rfl) (fun ⟨a, w, h⟩ => hno.1 ⟨a, w, h⟩) ?_
        have hHeld : BlkT w3.drew b5 ts ∧ w3.drew.cell? ⟨w.heap.size, 0, none⟩ = some (.int .i64 (N : Int)) := ⟨blkT_below HB53.out (below_drew _), HNB3.out⟩
        have hc0 : w3.cell? ⟨bx, 0, none⟩ = some v := HI3.out.box.cell
        have hS : ∀ W', Below w3.heap.size w3 W' → BlkT W' b5 ts ∧ W'.cell? ⟨w.heap.size, 0, none⟩ = some (.int .i64 (N : Int)) := fun W' hb =>
          ⟨blkT_below HB53.out hb, (hb.cell (p := ⟨w.heap.size, 0, none⟩) (World.block_lt_of_cell? _ _ HNB3.out)).trans HNB3.out⟩
        have hcx : ∀ W', Below w3.heap.size w3 W' → W'.cell? ⟨bx, 0, none⟩ = some v := fun W' hb => (hb.cell (p := ⟨bx, 0, none⟩) (World.block_lt_of_cell? _ _ hc0)).trans hc0
        have hone : ∀ (W' : World) (B' : Nat) (u : Value), IntsA W' B' u (ti x) → u.oneCell' = true := fun W' B' u h => by
          rcases h with ⟨rfl, _⟩ | ⟨_, _, _, _, rfl, _⟩ <;> rfl
        have hvb : v.ownBlock ≠ some b5 := by
          intro e
          rcases HI3.out.rr.outer.2 with ⟨h0, _⟩ | ⟨g, cap, cur, h0, _, hgb, _⟩
          · rw [h0] at e; cases e
          · rw [h0] at e
            have e' : g = b5 := by simpa [Value.ownBlock] using e
            subst e'
            rw [HB53.out.1] at hgb
            cases hgb
        have happ := fun (w4 w5 : World) (v5 u : Value) (B' : Nat) (hb4 : Below w3.heap.size w3 w4) (hu : IntsA w4 B' u (ti x)) (hB' : w.heap.size ≤ B') (hub : ∀ k, u.ownBlock = some k → w3.heap.size ≤ k)
            (hown : w5.ownsRow w.heap.size 32 1 v5 (vs.length + 1) (vs ++ [u])) (hgr : w4.grownBy w5 v.ownBlock) (hwh : v5.ownBlock = v.ownBlock ∨ v5.ownBlock = some w4.heap.size) =>
          (show Boxed w5 bx 51 v ∧ RunL w w2 a0 bx w.heap.size N (pre.filter selfT ++ [x]) (w5.setCell ⟨bx, 0, none⟩ v5) v5 (vs ++ [u]) ∧ KeepsFrom w2.heap.size w3 (w5.setCell ⟨bx, 0, none⟩ v5) ∧ KeepsFour B1 B2 B3 (w2.heap.size + 2) w3 (w5.setCell ⟨bx, 0, none⟩ v5) ∧
              (BlkT w5 b5 ts ∧ w5.cell? ⟨w.heap.size, 0, none⟩ = some (.int .i64 (N : Int))) ∧ (BlkT (w5.setCell ⟨bx, 0, none⟩ v5) b5 ts ∧ (w5.setCell ⟨bx, 0, none⟩ v5).cell? ⟨w.heap.size, 0, none⟩ = some (.int .i64 (N : Int))) from by
            obtain ⟨p1, p2, p3, p4⟩ := runL_app (B1 := B1) (B2 := B2) (B3 := B3) HI3.out hb4 hu hB' hub hown hgr hwh hsz3 (by omega) (by omega) (by omega) (by omega) (by omega) (by omega) (by intro k hk; rcases hk with rfl | rfl | rfl <;> omega) (by omega)
            have hS4 := hS w4 hb4
            have h5 : BlkT w5 b5 ts := ⟨(hgr.block b5 (blkT_lt hS4.1) (fun e => hvb e.symm)).trans hS4.1.1, hS4.1.2⟩
            have hn5 : w5.cell? ⟨w.heap.size, 0, none⟩ = some (.int .i64 (N : Int)) := (World.cell?_of_block (hgr.block w.heap.size (World.block_lt_of_cell? _ _ hS4.2) (fun e => by have := HI3.out.far _ e.symm; omega))).trans hS4.2
            exact ⟨p1, p2, p3, p4, ⟨h5, hn5⟩, ⟨(Below.heap_setCell _ _ _ _ (show b5 ≠ bx by omega)).trans h5.1, h5.2⟩, p2.nb⟩)
        have HAPP := Lib.hid happ
        clear happ
        refine wpAny_of_held (S := (fun w' => BlkT w' b5 ts ∧ w'.cell? ⟨w.heap.size, 0, none⟩ = some (.int .i64 (N : Int)))) _ _ _ _ ?_
        refine wpAnyH_take (i := 1) (v := .agg (tvl ts).toArray) rfl (by kernel_rfl) (by kernel_rfl) (by kernel_rfl) (fun _ _ _ h => (hno.2 _ _ _ h).elim) (yieldsIf_load_mid (by kernel_rfl) 65 _ rfl b5 0 rfl (tvl ts) _ (fun w hw => hrg w hw.1) hu52 rfl hi52) hHeld ?_
        simp only [Act.put, List.setIfInBounds_toArray, List.set_cons_zero, List.set_cons_succ]
        refine wpAnyH_take (i := 2) (v := .int .i64 (N : Int)) rfl (by kernel_rfl) (by kernel_rfl) (by kernel_rfl) (fun _ _ _ h => (hno.2 _ _ _ h).elim) (Or.inl ⟨by kernel_rfl, fun w hw => by have h := hw.2; first | (go_simp; done) | (go_simp; rfl)⟩) hHeld ?_
        simp only [Act.put, List.setIfInBounds_toArray, List.set_cons_zero, List.set_cons_succ]
        refine wpAnyH_ready (rs := [0, 3]) (by kernel_rfl) (by simp) (AllReadyH.cons rfl (fun K hK => ?_) (AllReadyH.cons rfl (fun K hK => ?_) AllReadyH.nil))
        · go_simp
          refine hK.out _ _ hHeld (fun _ => ?_)
          clear hK K
          try simp only [Act.put, List.setIfInBounds_toArray, List.set_cons_zero, List.set_cons_succ]
          refine wpAnyH_ready (rs := [3]) (by kernel_rfl) (by simp) (AllReadyH.cons rfl (fun K hK => ?_) AllReadyH.nil)
          go_simp
          go_at_call 59
          refine (HLS.out _).mono ?_
          rintro e w4 ⟨u, rfl, hu4, hb4, hub4⟩
          have hb34 : Below w3.heap.size w3 w4 := below_trans (below_drew w3) hb4
          obtain ⟨gu, nu, cu, rfl⟩ : ∃ g n c, u = .slice (some ⟨g, 0, none⟩) n c := by
            rcases hu4 with ⟨rfl, _⟩ | ⟨g, cap, E, rest, rfl, _⟩
            · cases hub4
            · exact ⟨_, _, _, rfl⟩
          refine hK.out _ _ (hS w4 hb34) (fun _ => ?_)
          clear hK K
          try simp only [Act.put, List.setIfInBounds_toArray, List.set_cons_zero, List.set_cons_succ]
          refine wpAnyH_ready (rs := [4]) (by kernel_rfl) (by simp) (AllReadyH.cons rfl (fun K hK => ?_) AllReadyH.nil)
          go_simp
          refine hK.out _ _ (hS _ (below_trans hb34 (below_alloc _ _))) (fun _ => ?_)
          clear hK K
          try simp only [Act.put, List.setIfInBounds_toArray, List.set_cons_zero, List.set_cons_succ]
          refine wpAnyH_ready (rs := [5]) (by kernel_rfl) (by simp) (AllReadyH.cons rfl (fun K hK => ?_) AllReadyH.nil)
          refine step_app2 rfl (.tmp 20) (.tmp 24) 51 rfl w.heap.size 32 j0 (.slice none 0 0) 24 Try.underlying51 hj hy0 hy1 hy2 rfl v vs.length vs rfl (own_below HI3.out.rr.outer (below_trans hb34 (below_alloc _ _))) ⟨w4.heap.size, 0, none⟩ 1 1 [.slice (some ⟨gu, 0, none⟩) nu cu] rfl rfl (by intro j y hy; cases j with | zero => (simp at hy; subst hy; simp [go_sem, Addr.add]) | succ j => simp at hy) (by intro y hy; simp at hy; subst hy; exact hone _ _ _ hu4) (by unfold maxLen; have := HVL.out; omega) (by have := HVL.out; omega) (by have := HI3.out.bel.size; have := hb34.size; simp; omega) ?_
          intro v5 w5 hown5 hgr5 hwh5
          obtain ⟨q1, q2, q3, q4, q5, q6⟩ := HAPP.out _ w5 v5 (.slice (some ⟨gu, 0, none⟩) nu cu) _ (below_trans hb34 (below_alloc _ _)) (intsA_below hu4 (below_alloc _ _)) (by have := HI3.out.bel.size; simp; omega) (fun k e => by rw [hub4] at e; have := Option.some.inj e; simp at this; omega) hown5 hgr5 hwh5
          obtain ⟨g5, d5, rfl⟩ := ownsRow_succ hown5
          have hc5 := q1.cell; have hf5 := q1.frozen
          have Q2' := Lib.hid q2; have Q3 := Lib.hid q3; have Q4 := Lib.hid q4; have Q5 := Lib.hid q5; have Q6 := Lib.hid q6
          clear q1 q2 q3 q4 q5 q6 hown5 hgr5 hwh5
          refine hK.out _ _ Q5.out (fun _ => ?_)
          clear hK K
          try simp only [Act.put, List.setIfInBounds_toArray, List.set_cons_zero, List.set_cons_succ]
          refine wpAnyH_ready (rs := [6]) (by kernel_rfl) (by simp) (AllReadyH.cons rfl (fun K hK => ?_) AllReadyH.nil)
          go_simp
          refine hK.out _ _ Q6.out (fun _ => ?_)
          clear hK K
          try simp only [Act.put, List.setIfInBounds_toArray, List.set_cons_zero, List.set_cons_succ]
          refine wpAnyH_done (by kernel_rfl) ?_ _
          simp only [Exit.inBlock, Exit.then]
          exact hQ2 _ _ (HKF.out.trans Q3.out) (keepsFour_t HK4.out Q4.out) ⟨_, _, by rw [HF.out]; exact Q2'.out⟩
        · go_simp
          go_at_call 59
          refine (HLS.out _).mono ?_
          rintro e w4 ⟨u, rfl, hu4, hb4, hub4⟩
          have hb34 : Below w3.heap.size w3 w4 := below_trans (below_drew w3) hb4
          obtain ⟨gu, nu, cu, rfl⟩ : ∃ g n c, u = .slice (some ⟨g, 0, none⟩) n c := by
            rcases hu4 with ⟨rfl, _⟩ | ⟨g, cap, E, rest, rfl, _⟩
            · cases hub4
            · exact ⟨_, _, _, rfl⟩
          refine hK.out _ _ (hS w4 hb34) (fun _ => ?_)
          clear hK K
          try simp only [Act.put, List.setIfInBounds_toArray, List.set_cons_zero, List.set_cons_succ]
          refine wpAnyH_ready (rs := [0, 4]) (by kernel_rfl) (by simp) (AllReadyH.cons rfl (fun K hK => ?_) (AllReadyH.cons rfl (fun K hK => ?_) AllReadyH.nil))
          · have hc1 := hcx _ hb34
            go_simp
            refine hK.out _ _ (hS w4 hb34) (fun _ => ?_)
            clear hK K
            try simp only [Act.put, List.setIfInBounds_toArray, List.set_cons_zero, List.set_cons_succ]
            refine wpAnyH_ready (rs := [4]) (by kernel_rfl) (by simp) (AllReadyH.cons rfl (fun K hK => ?_) AllReadyH.nil)
            go_simp
            refine hK.out _ _ (hS _ (below_trans hb34 (below_alloc _ _))) (fun _ => ?_)
            clear hK K
            try simp only [Act.put, List.setIfInBounds_toArray, List.set_cons_zero, List.set_cons_succ]
            refine wpAnyH_ready (rs := [5]) (by kernel_rfl) (by simp) (AllReadyH.cons rfl (fun K hK => ?_) AllReadyH.nil)
            refine step_app2 rfl (.tmp 20) (.tmp 24) 51 rfl w.heap.size 32 j0 (.slice none 0 0) 24 Try.underlying51 hj hy0 hy1 hy2 rfl v vs.length vs rfl (own_below HI3.out.rr.outer (below_trans hb34 (below_alloc _ _))) ⟨w4.heap.size, 0, none⟩ 1 1 [.slice (some ⟨gu, 0, none⟩) nu cu] rfl rfl (by intro j y hy; cases j with | zero => (simp at hy; subst hy; simp [go_sem, Addr.add]) | succ j => simp at hy) (by intro y hy; simp at hy; subst hy; exact hone _ _ _ hu4) (by unfold maxLen; have := HVL.out; omega) (by have := HVL.out; omega) (by have := HI3.out.bel.size; have := hb34.size; simp; omega) ?_
            intro v5 w5 hown5 hgr5 hwh5
            obtain ⟨q1, q2, q3, q4, q5, q6⟩ := HAPP.out _ w5 v5 (.slice (some ⟨gu, 0, none⟩) nu cu) _ (below_trans hb34 (below_alloc _ _)) (intsA_below hu4 (below_alloc _ _)) (by have := HI3.out.bel.size; simp; omega) (fun k e => by rw [hub4] at e; have := Option.some.inj e; simp at this; omega) hown5 hgr5 hwh5
            obtain ⟨g5, d5, rfl⟩ := ownsRow_succ hown5
            have hc5 := q1.cell; have hf5 := q1.frozen
            have Q2' := Lib.hid q2; have Q3 := Lib.hid q3; have Q4 := Lib.hid q4; have Q5 := Lib.hid q5; have Q6 := Lib.hid q6
            clear q1 q2 q3 q4 q5 q6 hown5 hgr5 hwh5
            refine hK.out _ _ Q5.out (fun _ => ?_)
            clear hK K
            try simp only [Act.put, List.setIfInBounds_toArray, List.set_cons_zero, List.set_cons_succ]
            refine wpAnyH_ready (rs := [6]) (by kernel_rfl) (by simp) (AllReadyH.cons rfl (fun K hK => ?_) AllReadyH.nil)
            go_simp
            refine hK.out _ _ Q6.out (fun _ => ?_)
            clear hK K
            try simp only [Act.put, List.setIfInBounds_toArray, List.set_cons_zero, List.set_cons_succ]
            refine wpAnyH_done (by kernel_rfl) ?_ _
            simp only [Exit.inBlock, Exit.then]
            exact hQ2 _ _ (HKF.out.trans Q3.out) (keepsFour_t HK4.out Q4.out) ⟨_, _, by rw [HF.out]; exact Q2'.out⟩
          · go_simp
            refine hK.out _ _ (hS _ (below_trans hb34 (below_alloc _ _))) (fun _ => ?_)
            clear hK K
            try simp only [Act.put, List.setIfInBounds_toArray, List.set_cons_zero, List.set_cons_succ]
            refine wpAnyH_ready (rs := [0]) (by kernel_rfl) (by simp) (AllReadyH.cons rfl (fun K hK => ?_) AllReadyH.nil)
            have hc1 := hcx _ (below_trans hb34 (below_alloc w4 (.cells #[.slice (some ⟨gu, 0, none⟩) nu cu] 32)))
            go_simp
            refine hK.out _ _ (hS _ (below_trans hb34 (below_alloc _ _))) (fun _ => ?_)
            clear hK K
            try simp only [Act.put, List.setIfInBounds_toArray, List.set_cons_zero, List.set_cons_succ]
            refine wpAnyH_ready (rs := [5]) (by kernel_rfl) (by simp) (AllReadyH.cons rfl (fun K hK => ?_) AllReadyH.nil)
            refine step_app2 rfl (.tmp 20) (.tmp 24) 51 rfl w.heap.size 32 j0 (.slice none 0 0) 24 Try.underlying51 hj hy0 hy1 hy2 rfl v vs.length vs rfl (own_below HI3.out.rr.outer (below_trans hb34 (below_alloc _ _))) ⟨w4.heap.size, 0, none⟩ 1 1 [.slice (some ⟨gu, 0, none⟩) nu cu] rfl rfl (by intro j y hy; cases j with | zero => (simp at hy; subst hy; simp [go_sem, Addr.add]) | succ j => simp at hy) (by intro y hy; simp at hy; subst hy; exact hone _ _ _ hu4) (by unfold maxLen; have := HVL.out; omega) (by have := HVL.out; omega) (by have := HI3.out.bel.size; have := hb34.size; simp; omega) ?_
            intro v5 w5 hown5 hgr5 hwh5
            obtain ⟨q1, q2, q3, q4, q5, q6⟩ := HAPP.out _ w5 v5 (.slice (some ⟨gu, 0, none⟩) nu cu) _ (below_trans hb34 (below_alloc _ _)) (intsA_below hu4 (below_alloc _ _)) (by have := HI3.out.bel.size; simp; omega) (fun k e => by rw [hub4] at e; have := Option.some.inj e; simp at this; omega) hown5 hgr5 hwh5
            obtain ⟨g5, d5, rfl⟩ := ownsRow_succ hown5
            have hc5 := q1.cell; have hf5 := q1.frozen
            have Q2' := Lib.hid q2; have Q3 := Lib.hid q3; have Q4 := Lib.hid q4; have Q5 := Lib.hid q5; have Q6 := Lib.hid q6
            clear q1 q2 q3 q4 q5 q6 hown5 hgr5 hwh5
            refine hK.out _ _ Q5.out (fun _ => ?_)
            clear hK K
            try simp only [Act.put, List.setIfInBounds_toArray, List.set_cons_zero, List.set_cons_succ]
            refine wpAnyH_ready (rs := [6]) (by kernel_rfl) (by simp) (AllReadyH.cons rfl (fun K hK => ?_) AllReadyH.nil)
            go_simp
            refine hK.out _ _ Q6.out (fun _ => ?_)
            clear hK K
            try simp only [Act.put, List.setIfInBounds_toArray, List.set_cons_zero, List.set_cons_succ]
            refine wpAnyH_done (by kernel_rfl) ?_ _
            simp only [Exit.inBlock, Exit.then]
            exact hQ2 _ _ (HKF.out.trans Q3.out) (keepsFour_t HK4.out Q4.out) ⟨_, _, by rw [HF.out]; exact Q2'.out⟩
    case done =>
      rintro D W hD ⟨v, vs, inv⟩ hK
      have HKK := Lib.hid hK; have HI := Lib.hid inv
      have hc0 : W.cell? ⟨bx, 0, none⟩ = some v := inv.box.cell
      obtain ⟨av, cv, rfl⟩ := own_slice inv.rr.outer
      clear inv hK
      go_wp2_with fail
      (try simp only [Exit.inBlock, Exit.then])
      have hD2 : w.heap.size ≤ D := by omega
      refine hQ.marked _ _ D _ rfl HKK.out (results_tmp2 rfl _ _ _) ⟨_, vs, by rw [HO.out]; rfl, ?_, below_mark HI.out.bel hD2 HKK.out, fun e => by rw [HO.out] at e; cases e⟩
      rw [HO.out, Option.getD_some]
      have hkc : ∀ k, k ≠ D → (W.putObj D (.deferred none)).heap[k]? = W.heap[k]? := fun k hk => World.putObj_heap_other hk
      exact intsRA_keep HI.out.rr (fun k e => hkc k (fun e' => by subst e'; have := HI.out.far k e; omega)) (fun i x k e1 e2 => hkc k (fun e' => by subst e'; have := HI.out.far2 i x k e1 e2; omega))
  · have ho : selfO n = none := if_neg h
    have hd : decide ((1 : Int) ≤ n ∧ n ≤ 9) = false := decide_eq_false h
    have HO := Lib.hid ho; have HD := Lib.hid hd; clear ho hd
    go_enter Try.func44, Try.ntmps44
    go_wp2_with fail
    refine (isWithin_is false _ _ _ _ HD.out).mono ?_
    rintro e w2 ⟨rfl, rfl⟩
    go_wp2_with fail
    go_ret2
    exact ⟨_, [], by rw [HO.out]; rfl, by rw [HO.out]; exact intsRA_nil _ _, below_alloc _ _, fun _ => rfl⟩
end Go.Proofs.Ytkdoghopbefjfaa
