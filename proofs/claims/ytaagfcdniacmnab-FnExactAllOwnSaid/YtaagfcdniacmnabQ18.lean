/- AllOwn: the program's. -/
import Derived.Test.YtaagfcdniacmnabQ17
namespace Go.Proofs.Ytaagfcdniacmnab
open Go.RowKit Go.BigFrame Go.Shelf
set_option linter.unusedSimpArgs false
set_option linter.unusedVariables false
set_option maxRecDepth 4000
attribute [local go_sem] Oper.semAt_some

set_option maxRecDepth 100000 in
set_option maxHeartbeats 1000000 in
theorem implAllOwn_any (w : World) (n : Int) : Calls Try.prog 22 #[.int .i64 n] w fun e w' => StrsOk (ownO n) w w' e := by
  obtain ⟨i0, hi, hz0, hz1, hz2⟩ := info_parts info_str
  by_cases h : 1 ≤ n ∧ n ≤ 6
  · obtain ⟨N, hN⟩ : ∃ N : Nat, n = (N : Int) := ⟨n.toNat, by omega⟩
    subst hN
    have hN1 : 1 ≤ N := by omega
    have hN6 : N ≤ 6 := by omega
    have ho : ownO (N : Int) = some (((prs N N 0 []).filter isOwnL).mergeSort fun x y => decide (x ≤ y)) := by
      unfold ownO; rw [if_pos h, Int.toNat_natCast]
    rw [ownWords N hN1 (by omega)] at ho
    have hd : decide ((1 : Int) ≤ (N : Int) ∧ (N : Int) ≤ 6) = true := decide_eq_true h
    obtain ⟨all, hall⟩ : ∃ all, all = aftP N 0 (List.replicate N 0) (2 * N) := ⟨_, rfl⟩
    rw [← hall] at ho
    have hal : all.length ≤ 1000000 := by
      have h1 := allS_cnt N N (2 * N)
      rw [allS_zero, ← hall] at h1
      have h2 := cntS_le N (by omega) N (2 * N)
      have h3 : 10 ^ N ≤ 10 ^ 6 := Nat.pow_le_pow_right (by omega) hN6
      have h4 : (10 : Nat) ^ 6 = 1000000 := by decide
      simp only [List.length_cons] at h1
      omega
    have HO := Lib.hid ho; have HD := Lib.hid hd; have HA := Lib.hid hall; have HAL := Lib.hid hal; clear ho hd hall hal h
    refine calls_marks Try.func22 rfl fun Q hQ => ?_
    simp only [Try.ntmps22, List.size_toArray, List.length_cons, List.length_nil, Nat.reduceAdd, Nat.reduceSub, Array.replicate_succ, Array.replicate_zero, List.push_toArray, List.append_toArray, List.nil_append, List.cons_append]
    go_wp2_with fail
    refine (isWithin_is true _ _ _ _ HD.out).mono ?_
    rintro e w1 ⟨rfl, rfl⟩
    go_wp2_with fail
    have h2N : (2 : Int) * (N : Int) = ((2 * N : Nat) : Int) := by omega
    rw [h2N]
    clear h2N
    refine (talliesUpTo_is _ _ _ _).mono ?_
    rintro e w2 ⟨rfl, hw2⟩
    have hs2 : w2.heap.size = w.heap.size + 5 := by rw [hw2]; simp
    obtain ⟨X, hX⟩ : ∃ X, X = (w.alloc (.cells #[] 9)).alloc (.cells #[.slice (some ⟨w.heap.size, 0, none⟩) 0 0] 32) := ⟨_, rfl⟩
    have hXs : X.heap.size = w.heap.size + 1 + 1 := by rw [hX]; simp
    have hbX : Below w.heap.size w X := by rw [hX]; exact below_trans (below_alloc _ _) (below_alloc _ _)
    have h0 := Boxed.new (w.alloc (.cells #[] 9)) 32 (.slice (some ⟨w.heap.size, 0, none⟩) 0 0)
    have e : (w.alloc (.cells #[] 9)).heap.size = w.heap.size + 1 := by simp
    rw [e, ← hX] at h0
    have hr0 : X.ownsRow w.heap.size 9 1 (.slice (some ⟨w.heap.size, 0, none⟩) 0 0) 0 [] := by
      rw [hX]; exact own_below (own_lit w w.heap.size 9 [] (Nat.le_refl _) (Nat.zero_le _)) (below_alloc _ _)
    rw [← hX] at hw2 ⊢
    rw [hXs]
    have hbA : Below X.heap.size X w2 := by rw [hw2]; exact below_trans (below_trans (below_alloc _ _) (below_alloc _ _)) (below_alloc _ _)
    have hbn : BoxN (w.heap.size + 1 + 1) (w.heap.size + 1 + 1 + 1) (w.heap.size + 1 + 1 + 2) N N (2 * N) w2 := by
      rw [hw2, ← hXs]; refine ⟨?_, ?_, ?_⟩ <;> simp [go_sem]
    have inv0 : RunS w w2 w.heap.size (w.heap.size + 1) [] w2 (.slice (some ⟨w.heap.size, 0, none⟩) 0 0) :=
      ⟨(hbA.block _ (by omega)).trans h0, own_below hr0 hbA, below_trans hbX hbA, Nat.le_refl _, fun k e => .inl (Option.some.inj e).symm⟩
    have HI0 := Lib.hid inv0; have HBN := Lib.hid hbn; have HS2 := Lib.hid hs2
    clear inv0 hbn h0 hr0 hbX hs2 hw2 hbA hXs hX e
    go_wp2_with fail
    generalize hB3 : w.heap.size + 1 + 1 + 2 = B3 at *
    generalize hB2 : w.heap.size + 1 + 1 + 1 = B2 at *
    generalize hB1 : w.heap.size + 1 + 1 = B1 at *
    generalize hbx : w.heap.size + 1 = bx at *
    have hs2 := HS2.out
    refine wp_talliesM N N (2 * N) hN1 (by omega) (by omega) (by omega) B1 B2 B3 all HA.out HBN.out rfl
      (fun got W => ∃ v, RunS w w2 w.heap.size bx ((got.filter ownC).map (prF 0)) W v)
      (fun s A C row hs hg hr => by obtain ⟨v, h⟩ := hs; exact ⟨v, runS_other h (by omega) (by omega) (by omega) hg hr⟩)
      ⟨_, HI0.out⟩
      (fun x a' W => ∃ b5, a' = { tmps := #[.int .i64 (N : Int), undef, .slice none 0 0, .bool false, .pointer (some ⟨bx, 0, none⟩), .pointer (some ⟨b5, 0, none⟩), undef, undef, .int .i64 (N : Int), .bool true, .bool false, .slice (some ⟨w.heap.size, 0, none⟩) 0 0, .int .i64 (N : Int), .int .i64 (N : Int), .int .i64 (N : Int), .int .i64 ((2 * N : Nat) : Int), .func (.func 63) #[] #[.pointer (some ⟨B1, 0, none⟩), .pointer (some ⟨B2, 0, none⟩), .pointer (some ⟨B3, 0, none⟩)], aggT (pad x), undef, undef, undef, undef, undef, undef, undef, undef, undef, undef, undef, undef, undef, undef, undef, undef], defers := [] } ∧ BlkT W b5 (pad x) ∧ w2.heap.size + 3 ≤ b5)
      (fun x a' A C row hs hg hr => by
        obtain ⟨b5, h1, h2, h3⟩ := hs
        exact ⟨b5, h1, ⟨(hg.block b5 (blkT_lt h2) (fun e => by have := hr b5 e.symm; omega)).trans h2.1, h2.2⟩, h3⟩) ?assign ?body ?done
    case assign =>
      intro lp pre x W K hi hsz hxl hK
      simp only [List.setIfInBounds_toArray, List.set_cons_succ, List.set_cons_zero]
      have hp9 := pad_len x (by omega)
      unfold aggT
      gi_wp2_with (refine wpListIn_putT rfl _ _ rfl W.heap.size rfl zeros9 (pad x) rfl ⟨heap_alloc_new _ _, rfl⟩ hp9 ?_; intro w3 hB3' hoth hbb hsz3)
      have hbl : Below W.heap.size W w3 := (below_alloc W _).trans (hbb _ (Nat.le_refl _))
      refine hK _ w3 ⟨hbl.size, fun k o _ hk _ => (hbl.block k (Array.getElem?_eq_some_iff.1 hk).1).trans hk⟩ (fun k hk => hbl.block k (by rcases hk with rfl | rfl | rfl | rfl <;> omega)) ?_ ⟨W.heap.size, rfl, hB3', by omega⟩
      obtain ⟨v, h⟩ := hi
      exact ⟨v, runS_other h (by omega) (by omega) (by omega) (grown_of_below' hbl) (fun r e => by cases e)⟩
    case body =>
      rintro lp pre x a' W Q2 hno hQ2 ⟨v, inv⟩ ⟨b5, rfl, hb5, hb5s⟩ hsz hpl hxl hxm
      have hp9 := pad_len x (by omega)
      obtain ⟨ts, hts⟩ : ∃ ts, ts = pad x := ⟨_, rfl⟩
      have hts9 : ts.length = 9 := by rw [hts]; exact hp9
      have hxm9 : ∀ n ∈ x, n ≤ 9 := fun n hn => by have := hxm n hn; omega
      have hm9 : ∀ n ∈ ts, n ≤ 9 := by
        rw [hts]; intro n hn; unfold pad at hn
        rw [List.mem_append] at hn
        rcases hn with hn | hn
        · exact hxm9 n hn
        · rw [List.mem_replicate] at hn; omega
      obtain ⟨T, hT⟩ : ∃ T, T = prF 0 x := ⟨_, rfl⟩
      have hTd : T.all digB = true := by rw [hT]; exact prF_dig x 0 hxm9 (by omega)
      have hTl : T.length ≤ 18 := by rw [hT]; have := prF_len x 0 hxm9 (by omega); omega
      have hiv : invK ts 9 = T := by
        have h := invT_prF hts9
        unfold invT at h
        rw [h, hts, hT]; unfold pad; exact prF_zeros _ _ _
      have hok : okT ts = true := List.all_eq_true.2 (fun n hn => decide_eq_true (hm9 n hn))
      have hINV : ∀ W, Calls Try.prog 47 #[.agg (tvl ts).toArray] W fun e w' => e = .returned (.tuple #[.string (bs T), .bool true]) ∧ Below W.heap.size W w' := fun W => by
        have h := inventory_any ts W hts9 (fun n hn => by have := hm9 n hn; omega)
        rw [hok, if_pos rfl, hiv] at h
        exact h
      have hTT : ∀ W, Calls Try.prog 48 #[.string (bs T)] W fun e w' => e = .returned (.agg (tvA (tal T))) ∧ Below W.heap.size W w' := fun W => by
        have h := tallyText_any (bs T) W (by rw [bs_size]; omega) (by rw [bs_list]; exact hTd)
        rw [bs_list] at h
        exact h
      obtain ⟨sb, hsb⟩ : ∃ sb, sb = ownC x := ⟨_, rfl⟩
      have heq : ∀ W, (binOp .eql 58 (.agg (tvl ts).toArray) (.agg (tvA (tal T)))).run Try.prog W = .ok (.bool sb) W := fun W => by
        have h := run_eqlT W ts (tal T) hts9 (tal_len _)
        have hb : decide (ts = tal T) = sb := by rw [hsb, hts, hT]; rfl
        rw [hb] at h
        exact h
      obtain ⟨R, hR⟩ : ∃ R, R = (pre.filter ownC).map (prF 0) := ⟨_, rfl⟩
      have hfl : ((pre ++ [x]).filter ownC).map (prF 0) = R ++ (if sb = true then [T] else []) := by
        have hone : List.filter ownC [x] = if sb = true then [x] else [] := by rw [hsb]; simp [List.filter_cons]
        rw [List.filter_append, List.map_append, hone, ← hR]
        cases sb <;> simp [hT]
      have hRl : R.length ≤ 1000000 := by
        rw [hR, List.length_map]
        have h1 := List.length_filter_le ownC pre
        have h2 := HAL.out
        omega
      rw [← hts] at hb5 ⊢
      rw [← hR] at inv
      have HINV := Lib.hid hINV; have HTT := Lib.hid hTT; have HF := Lib.hid hfl; have HI := Lib.hid inv; have HB5 := Lib.hid hb5; have HTS9 := Lib.hid hts9; have HRL := Lib.hid hRl; have HEQ := Lib.hid heq
      clear hINV hTT hfl hb5 hts9 hp9 hsb hts hT hTd hTl hiv hok hm9 hxm9 hpl hRl hR heq
      unfold aggT
      gi_wp2_with (refine wpListIn_getT rfl _ rfl b5 rfl ts HB5.out ?_; unfold aggT)
      refine ⟨trivial, CallsIn.inRound lp (callsIn_wide.2 ((HINV.out _).mono ?_))⟩
      rintro e w2' ⟨rfl, hb2⟩
      have hbl2 := Lib.hid hb2
      clear hb2
      gi_wp2_with fail
      have hu52 := under_tally
      have hi52 : (Try.prog.info? 58).map (·.size) = some (tvl ts).length := by rw [tvl_len, HTS9.out]; exact info_tally
      have hrg : ∀ W, BlkT W b5 ts → W.rangeAt b5 0 (tvl ts) := fun W h j v hv => by
        rw [Nat.zero_add, cell_of_row W _ j _ _ _ h.1]; simpa [tvA] using hv
      refine region_round (by kernel_rfl) (fun ⟨a, w, h⟩ => hno.1 ⟨a, w, h⟩) ?_
      have hHeld : BlkT w2'.drew b5 ts := blkT_below (blkT_below HB5.out hbl2.out) (below_drew _)
      refine wpAny_of_held (S := fun w' => BlkT w' b5 ts) _ _ _ _ ?_
      refine wpAnyH_take (i := 0) (v := .agg (tvl ts).toArray) rfl (by kernel_rfl) (by kernel_rfl) (by kernel_rfl) (fun _ _ _ h => (hno.2 _ _ _ h).elim) (yieldsIf_load_mid (by kernel_rfl) 58 _ rfl b5 0 rfl (tvl ts) _ (fun w hw => hrg w hw) hu52 rfl hi52) hHeld ?_
      simp only [Act.put, List.setIfInBounds_toArray, List.set_cons_zero, List.set_cons_succ]
      refine wpAnyH_take (i := 1) (v := .string (bs T)) rfl (by kernel_rfl) (by kernel_rfl) (by kernel_rfl) (fun _ _ _ h => (hno.2 _ _ _ h).elim) (Or.inl ⟨by kernel_rfl, fun w hw => by first | rfl | (go_simp; done) | (go_simp; rfl)⟩) hHeld ?_
      simp only [Act.put, List.setIfInBounds_toArray, List.set_cons_zero, List.set_cons_succ]
      refine wpAnyH_ready (rs := [2]) (by kernel_rfl) (by simp) (AllReadyH.cons rfl (fun K hK => ?_) AllReadyH.nil)
      go_simp
      go_at_call 48
      refine (HTT.out _).mono ?_
      rintro e w3 ⟨rfl, hb3⟩
      have hHeld3 : BlkT w3 b5 ts := blkT_below hHeld hb3
      refine hK.out _ _ hHeld3 (fun _ => ?_)
      clear hK K
      try simp only [Act.put, List.setIfInBounds_toArray, List.set_cons_zero, List.set_cons_succ]
      have heq := HEQ.out
      refine wpAnyH_take (i := 3) (v := .bool sb) rfl (by kernel_rfl) (by kernel_rfl) (by kernel_rfl) (fun _ _ _ h => (hno.2 _ _ _ h).elim) (Or.inl ⟨by kernel_rfl, fun w hw => by first | rfl | (go_simp; done) | (go_simp; rfl)⟩) hHeld3 ?_
      clear heq
      simp only [Act.put, List.setIfInBounds_toArray, List.set_cons_zero, List.set_cons_succ]
      refine wpAnyH_done (by kernel_rfl) ?_ _
      simp only [List.getElem_toArray, List.getElem_cons_succ, List.getElem_cons_zero, List.set_cons_zero, List.set_cons_succ]
      have hbr : Below W.heap.size W w3 := below_trans hbl2.out (below_trans (below_drew w2') hb3)
      have hkf : KeepsFrom w2.heap.size W w3 := ⟨hbr.size, fun k o _ hk _ => (hbr.block k (Array.getElem?_eq_some_iff.1 hk).1).trans hk⟩
      have hk4 : KeepsFour B1 B2 B3 (w2.heap.size + 2) W w3 := fun k hk => hbr.block k (by rcases hk with rfl | rfl | rfl | rfl <;> omega)
      have hI3 : RunS w w2 w.heap.size bx R w3 v := runS_other HI.out (by omega) (by omega) (by omega) (grown_of_below' hbr) (fun r e => by cases e)
      have HKF := Lib.hid hkf; have HK4 := Lib.hid hk4; have HI3 := Lib.hid hI3
      have hsz3 : w2.heap.size + 3 ≤ w3.heap.size := Nat.le_trans hsz hbr.size
      clear hkf hk4 hI3 hHeld hHeld3 hb3 hbr HI hbl2
      cases sb with
      | false =>
        gi_wp2_with fail
        all_goals exact hQ2 _ _ HKF.out HK4.out ⟨v, by rw [HF.out]; simpa using HI3.out⟩
      | true =>
        have hc0 : w3.cell? ⟨bx, 0, none⟩ = some v := HI3.out.box.cell
        gi_wp2_with (refine wpListIn_app _ rfl (.tmp 27) (.tmp 29) 32 rfl w.heap.size 9 i0 (.string ⟨#[]⟩) 16 Try.underlying32 hi hz0 hz1 hz2 rfl v R.length (strVs R) rfl (own_below HI3.out.row (below_alloc _ _)) ⟨w3.heap.size, 0, none⟩ 1 1 [.string (bs T)] rfl rfl ?c1 ?c2 ?c3 ?c4 ?c5 ?_)
        case c2 => rfl
        case c3 => have := HRL.out; unfold maxLen; omega
        case c4 => have := HRL.out; omega
        case c5 => have := HI3.out.bel.size; simp; omega
        intro v5 w5 hown5 hgr5 hwh5
        obtain ⟨q1, q2, q3, q4⟩ := runS_app (B1 := B1) (B2 := B2) (B3 := B3) HI3.out (below_alloc _ _) hown5 hgr5 (by simpa using hwh5) hsz3 (by omega) (by omega) (by omega) (by intro k hk; rcases hk with rfl | rfl | rfl <;> omega) (by omega)
        obtain ⟨g5, d5, rfl⟩ := ownsRow_succ hown5
        have hc5 := q1.cell; have hf5 := q1.frozen
        have Q2' := Lib.hid q2; have Q3 := Lib.hid q3; have Q4 := Lib.hid q4
        clear q1 q2 q3 q4 hown5 hgr5 hwh5
        gi_wp2_with fail
        exact hQ2 _ _ (HKF.out.trans Q3.out) (keepsFour_t HK4.out Q4.out) ⟨_, by rw [HF.out]; simpa using Q2'.out⟩
    case done =>
      rintro D W hD ⟨v, inv⟩ hK
      have hD2 : w.heap.size ≤ D := by omega
      have HD2 := Lib.hid hD2; have HD3 := Lib.hid (show D = w.heap.size + 5 ∧ w2.heap.size = w.heap.size + 5 ∧ bx = w.heap.size + 1 from ⟨by omega, by omega, by omega⟩); clear hD2 hD hs2
      obtain ⟨R, hR⟩ : ∃ R, R = (all.filter ownC).map (prF 0) := ⟨_, rfl⟩
      rw [← hR] at inv
      have hRl : R.length ≤ 1000000 := by rw [hR, List.length_map]; exact Nat.le_trans (List.length_filter_le _ _) HAL.out
      have HRR := Lib.hid hR; clear hR
      have hc0 : W.cell? ⟨bx, 0, none⟩ = some v := inv.box.cell
      have hsort := sort_any W w.heap.size v R inv.row hRl
      have HKK := Lib.hid hK; have HI := Lib.hid inv; have HSO := Lib.hid hsort
      obtain ⟨av, cv, rfl⟩ := own_slice inv.row
      clear inv hK hsort
      go_wp2_with fail
      refine HSO.out.mono ?_
      rintro e w3 ⟨rfl, r1, _, r3, r4, r5⟩
      have hb3 : Below w.heap.size w w3 := HI.out.bel.trans (r4 w.heap.size HI.out.bel.size (fun k e => (HI.out.row.lt k e).1))
      have hK3 : w3.heap[D]? = some (.deferred (some [])) := (r5 D (Array.getElem?_eq_some_iff.1 HKK.out).1 (fun e => by have := HI.out.far D e; have := HD3.out; omega)).trans HKK.out
      have hc3 : w3.cell? ⟨bx, 0, none⟩ = some (.slice av R.length cv) := (World.cell?_of_block (r5 bx HI.out.box.lt (fun e => by have := HI.out.far bx e; have := HD3.out; omega))).trans hc0
      have R1 := Lib.hid r1; have HB3 := Lib.hid hb3; have HK3 := Lib.hid hK3
      clear r1 r3 r4 r5 hb3 hK3 hc0
      go_wp2_with fail
      (try simp only [Exit.inBlock, Exit.then])
      have hD2 := HD2.out
      refine hQ.marked _ _ D _ rfl HK3.out (results_tmp2 rfl _ _ _) ⟨_, by rw [HO.out]; rfl, ?_, below_mark HB3.out hD2 HK3.out, fun e => by rw [HO.out] at e; cases e⟩
      rw [HO.out, Option.getD_some, List.length_mergeSort, ← HRR.out]
      exact ownsRow_putObj R1.out (.deferred none) HK3.out rfl
  · have ho : ownO n = none := if_neg h
    have hd : decide ((1 : Int) ≤ n ∧ n ≤ 6) = false := decide_eq_false h
    have HO := Lib.hid ho; have HD := Lib.hid hd; clear ho hd
    go_enter Try.func22, Try.ntmps22
    go_wp2_with fail
    refine (isWithin_is false _ _ _ _ HD.out).mono ?_
    rintro e w2 ⟨rfl, rfl⟩
    go_wp2_with fail
    go_ret2
    exact ⟨_, by rw [HO.out]; rfl, by rw [HO.out]; exact World.ownsRow_nil _ _ _ _, below_refl _, fun _ => rfl⟩
end Go.Proofs.Ytaagfcdniacmnab
