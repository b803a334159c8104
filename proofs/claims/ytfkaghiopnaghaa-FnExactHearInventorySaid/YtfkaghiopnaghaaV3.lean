/- Words of which a word is the inventory: the program's wordsBehind. -/
import Derived.Test.YtfkaghiopnaghaaV2
namespace Go.Proofs.Ytfkaghiopnaghaa
open Go.RowKit Go.BigFrame
set_option linter.unusedSimpArgs false
set_option linter.unusedVariables false
set_option maxRecDepth 4000

theorem run_convDigit (k : Nat) (hk : k < 9) (W : World) : (convert 5 9 (.int .u8 (48 + ((k : Int) + 1)))).run Try.prog W = .ok (.string (bs (numL (k + 1)))) W := by
  rw [numL_small (k + 1) (by omega)]
  match k, hk with
  | 0, _ => rfl
  | 1, _ => rfl
  | 2, _ => rfl
  | 3, _ => rfl
  | 4, _ => rfl
  | 5, _ => rfl
  | 6, _ => rfl
  | 7, _ => rfl
  | 8, _ => rfl
  | j + 9, hk => omega

set_option maxHeartbeats 4000000 in
theorem wordsBehind_loop (rec : List Nat → List UInt8 → List (List UInt8)) (ts : List Nat) (b : List UInt8) (w : World) (h9 : ts.length = 9) (hle : ∀ n ∈ ts, n ≤ 9) (hb : b.length ≤ 20)
    (hlen : ∀ i m, ts[i]? = some (m + 1) → 0 < (rec (ts.set i m) (b ++ numL (i + 1))).length ∧ (rec (ts.set i m) (b ++ numL (i + 1))).length ≤ 5000000)
    (hrec : ∀ i m, i < 9 → ts[i]? = some (m + 1) → ∀ W, Calls Try.prog 57 #[.agg (tvl (ts.set i m)).toArray, .string (bs (b ++ numL (i + 1)))] W fun e w' => TextsOk (rec (ts.set i m) (b ++ numL (i + 1))) W w' e) :
    Calls Try.prog 57 #[.agg (tvl ts).toArray, .string (bs b)] w fun e w' => TextsOk (if ts = zeros9 then [b] else heardK rec ts b 9) w w' e := by
  obtain ⟨i0, hi, hz0, hz1, hz2⟩ := info_parts info_str
  have hblk : ∀ W : World, W = w.alloc (.cells (tvl ts).toArray 43) → BlkT W w.heap.size ts := fun W h => by rw [h]; exact ⟨heap_alloc_new _ _, h9⟩
  have hbsz : (bs b).size ≤ 20 := by rw [bs_size]; exact hb
  by_cases hz : ts = zeros9
  · rw [if_pos hz]
    have heq : ∀ W, (binOp .eql 43 (.agg (tvA ts)) (.agg #[.int .i64 0, .int .i64 0, .int .i64 0, .int .i64 0, .int .i64 0, .int .i64 0, .int .i64 0, .int .i64 0, .int .i64 0])).run Try.prog W = .ok (.bool true) W := fun W => by
      have := run_eqlT W ts zeros9 h9 rfl
      rw [decide_eq_true hz] at this
      exact this
    have HBLK := Lib.hid hblk; have HEQ := Lib.hid heq
    clear hblk hlen hrec hz heq
    go_enter Try.func57, Try.ntmps57
    have heq := HEQ.out
    go_wp2_with (first | (refine wpList_getT rfl _ rfl w.heap.size rfl ts (HBLK.out _ rfl) ?_; unfold aggT))
    go_ret
    refine ⟨w.heap.size + 1, 1, by first | rfl | (simp; done), ?_, below_trans (below_alloc _ _) (below_alloc _ _)⟩
    have := own_lit (w.alloc (.cells (tvl ts).toArray 43)) w.heap.size 9 [.string (bs b)] (by simp) (by simp [maxLen])
    rw [Go.Deep.nblk_alloc] at this
    exact this
  · rw [if_neg hz]
    have heq : ∀ W, (binOp .eql 43 (.agg (tvA ts)) (.agg #[.int .i64 0, .int .i64 0, .int .i64 0, .int .i64 0, .int .i64 0, .int .i64 0, .int .i64 0, .int .i64 0, .int .i64 0])).run Try.prog W = .ok (.bool false) W := fun W => by
      have := run_eqlT W ts zeros9 h9 rfl
      rw [decide_eq_false hz] at this
      exact this
    have hpos : 0 < (heardK rec ts b 9).length := by
      have : ∃ i m, i < 9 ∧ ts[i]? = some (m + 1) := by
        apply Classical.byContradiction
        intro hh
        apply hz
        apply List.ext_getElem h9
        intro i h1 h2
        rw [show zeros9[i] = 0 from List.getElem_replicate _]
        apply Classical.byContradiction
        intro hne
        exact hh ⟨i, ts[i] - 1, by omega, by rw [List.getElem?_eq_getElem h1]; congr 1; omega⟩
      obtain ⟨i, m, hi9, hi⟩ := this
      exact heardK_pos rec ts b (fun i m h => (hlen i m h).1) i m hi 9 hi9
    have hix := fun (W : World) (k n : Nat) => run_indexT ts k n W h9
    have hu52 := under_tally
    obtain ⟨M, hM⟩ : ∃ M : Nat, M = 5000000 := ⟨_, rfl⟩
    rw [← hM] at hlen
    have HM5 := Lib.hid hM; have HL := Lib.hid hle; have HLEN := Lib.hid hlen; have HREC := Lib.hid hrec; have HBLK := Lib.hid hblk; have HEQ := Lib.hid heq; have HPOS := Lib.hid hpos; have HIX := Lib.hid hix
    clear hM hle hlen hrec hblk hz heq hpos hix
    go_enter Try.func57, Try.ntmps57
    have heq := HEQ.out
    go_wp2_with (first
      | (refine wpList_getT rfl _ rfl w.heap.size rfl ts (HBLK.out _ rfl) ?_; unfold aggT)
      | (refine wpList_getT rfl _ rfl w.heap.size rfl ts (blkT_below (HBLK.out _ rfl) (below_alloc _ _)) ?_; unfold aggT))
    clear heq
    go_loopw [5, 16] (fun o iv wr => ∃ (k n : Nat) (q : Option Addr) (d : Nat), k ≤ 9 ∧ iv = .int .i64 (k : Int) ∧ o = .slice q n d ∧ n ≤ k * M ∧ Hid (n = (heardK rec ts b k).length ∧ BlkT wr w.heap.size ts ∧ wr.ownsRow (w.heap.size + 1) 9 1 (.slice q n d) n (strVs (heardK rec ts b k)) ∧ Below w.heap.size w wr ∧ w.heap.size + 1 ≤ wr.heap.size)) (fun _ iv _ => 9 - (intOf iv).toNat)
    case atStart =>
      refine ⟨0, 0, _, _, by omega, rfl, rfl, Nat.zero_le _, rfl, blkT_below (HBLK.out _ rfl) (below_alloc _ _), ?_, below_trans (below_alloc _ _) (below_alloc _ _), by simp⟩
      have := own_lit (w.alloc (.cells (tvl ts).toArray 43)) (w.heap.size + 1) 9 [] (by simp) (by simp [maxLen])
      rw [Go.Deep.nblk_alloc] at this
      exact this
    case round =>
      obtain ⟨k, n, q, d, hk, rfl, rfl, hn, HX⟩ := hrel
      have hnb : n ≤ 45000000 := by
        have h1 := Nat.mul_le_mul_right M hk
        have h2 := HM5.out
        omega
      have HN := Lib.hid hn; clear hn
      by_cases hlt : k < 9
      · obtain ⟨m, hm⟩ : ∃ m, ts[k]? = some m := ⟨_, List.getElem?_eq_getElem (by omega)⟩
        have hm9 : m ≤ 9 := HL.out m (List.mem_of_getElem? hm)
        have hid : ∀ W, (Instr.index 43 (.agg (tvA ts)) (.int .i64 (k : Int))).run Try.prog W = .ok (.int .i64 (m : Int)) W := fun W => HIX.out W k m hm
        have hsu := heardK_succ rec ts b k m hm
        have HSU := Lib.hid hsu
        clear hsu
        by_cases h0 : m = 0
        · subst h0
          have e0 : heardK rec ts b (k + 1) = heardK rec ts b k := by rw [HSU.out]; simp
          have E0 := Lib.hid e0; clear e0 hm
          go_wp2_with fail
          go_roundw
          case rel =>
            exact ⟨k + 1, n, q, d, by omega, by go_num, rfl, by rw [Nat.succ_mul]; exact Nat.le_trans HN.out (Nat.le_add_right _ _), by rw [E0.out]; exact HX.out.1, HX.out.2.1, by rw [E0.out]; exact HX.out.2.2.1, HX.out.2.2.2⟩
          case measure => simp [intOf] <;> omega
        · obtain ⟨m', rfl⟩ : ∃ m', m = m' + 1 := ⟨m - 1, by omega⟩
          have e0 : heardK rec ts b (k + 1) = heardK rec ts b k ++ rec (ts.set k m') (b ++ numL (k + 1)) := by rw [HSU.out, if_neg (by omega), Nat.add_sub_cancel]
          obtain ⟨hl1, hl2⟩ := HLEN.out k m' hm
          have hrc := HREC.out k m' hlt hm
          obtain ⟨rs, hrs⟩ : ∃ rs, rs = rec (ts.set k m') (b ++ numL (k + 1)) := ⟨_, rfl⟩
          rw [← hrs] at hl1 hl2 hrc e0
          have hcv := run_convDigit k hlt
          have hs2 : (bs (numL (k + 1))).size = 1 := by rw [bs_size, numL_small (k + 1) (by omega)]; rfl
          have HL2 := Lib.hid hl2
          have hrb : rs.length ≤ 5000000 := by have := HM5.out; omega
          have hus9 : (ts.set k m').length = 9 := by simpa using h9
          have E0 := Lib.hid e0; have HRC := Lib.hid hrc; have HMM := Lib.hid hm; have HU9 := Lib.hid hus9
          clear e0 hrc hm hrs hl2 hus9
          go_wp2_with (first
            | (refine wpList_getT rfl _ rfl w.heap.size rfl ts HX.out.2.1 ?_; unfold aggT)
            | (refine wpList_putT rfl _ _ rfl wr.heap.size rfl zeros9 ts rfl ⟨heap_alloc_new _ _, rfl⟩ h9 ?_; intro w2 hB2 hoth hbb hsz2; have hc3 : w2.cell? ⟨wr.heap.size, k, none⟩ = some (.int .i64 ((m' : Int) + 1)) := (by have := blkT_cell hB2 HMM.out; rw [this]; congr 2); have hfz := blkT_frozen hB2 k))
          have hst := blkT_set hB2 k m'
          have hlt2 := blkT_lt hst
          have hbw : Below wr.heap.size wr w2 := (below_alloc wr _).trans (hbb _ (Nat.le_refl _))
          have HBW := Lib.hid hbw; have HST := Lib.hid hst
          have HBS := Lib.hid (hbw.setCell (p := ⟨wr.heap.size, k, none⟩) (Nat.le_refl _) (.int .i64 (m' : Int)))
          clear hB2 hoth hbb hst hbw
          generalize w2.setCell ⟨wr.heap.size, k, none⟩ (.int .i64 (m' : Int)) = w3 at *
          clear hc3 hfz hid
          have hi52 : (Try.prog.info? 43).map (·.size) = some (tvl (ts.set k m')).length := by rw [tvl_len, HU9.out]; exact info_tally
          have hrg : ∀ W, BlkT W wr.heap.size (ts.set k m') → W.rangeAt wr.heap.size 0 (tvl (ts.set k m')) := fun W h j v hv => by
            rw [Nat.zero_add, cell_of_row W _ j _ _ _ h.1]; simpa [tvA] using hv
          have hs0 : w3.drew.rangeAt wr.heap.size 0 (tvl (ts.set k m')) := hrg _ (blkT_below HST.out (below_drew _))
          have HRG := Lib.hid hrg; clear hrg
          refine wp_region_held_drew (S := fun w' => w'.rangeAt wr.heap.size 0 (tvl (ts.set k m'))) (by kernel_rfl) hs0 (fun hHeld => ?_)
          refine wpAnyH_take (i := 0) (v := .slice q n d) rfl (by kernel_rfl) (by kernel_rfl) (by kernel_rfl) (fun _ _ _ h => h) (Or.inl ⟨by rfl, fun w hw => by first | rfl | (go_simp; done) | (go_simp; rfl) | (go_simp; exact IntWalk.i64_in _ (by omega))⟩) hHeld ?_
          simp only [Act.put, List.setIfInBounds_toArray, List.set_cons_zero, List.set_cons_succ]
          refine wpAnyH_take (i := 1) (v := .agg (tvl (ts.set k m')).toArray) rfl (by kernel_rfl) (by kernel_rfl) (by kernel_rfl) (fun _ _ _ h => h) (yieldsIf_load_mid (by rfl) 43 _ rfl wr.heap.size 0 rfl (tvl (ts.set k m')) _ (fun w hw => hw) hu52 rfl hi52) hHeld ?_
          simp only [Act.put, List.setIfInBounds_toArray, List.set_cons_zero, List.set_cons_succ]
          refine wpAnyH_take (i := 2) (v := .string (bs b)) rfl (by kernel_rfl) (by kernel_rfl) (by kernel_rfl) (fun _ _ _ h => h) (Or.inl ⟨by rfl, fun w hw => by first | rfl | (go_simp; done) | (go_simp; rfl) | (go_simp; exact IntWalk.i64_in _ (by omega))⟩) hHeld ?_
          simp only [Act.put, List.setIfInBounds_toArray, List.set_cons_zero, List.set_cons_succ]
          refine wpAnyH_take (i := 3) (v := .int .i64 (k : Int)) rfl (by kernel_rfl) (by kernel_rfl) (by kernel_rfl) (fun _ _ _ h => h) (Or.inl ⟨by rfl, fun w hw => by first | rfl | (go_simp; done) | (go_simp; rfl) | (go_simp; exact IntWalk.i64_in _ (by omega))⟩) hHeld ?_
          simp only [Act.put, List.setIfInBounds_toArray, List.set_cons_zero, List.set_cons_succ]
          refine wpAnyH_take (i := 4) (v := .int .i64 ((k : Int) + 1)) rfl (by kernel_rfl) (by kernel_rfl) (by kernel_rfl) (fun _ _ _ h => h) (Or.inl ⟨by rfl, fun w hw => by first | rfl | (go_simp; done) | (go_simp; rfl) | (go_simp; exact IntWalk.i64_in _ (by omega))⟩) hHeld ?_
          simp only [Act.put, List.setIfInBounds_toArray, List.set_cons_zero, List.set_cons_succ]
          refine wpAnyH_ready (rs := [5]) (by kernel_rfl) (by simp) (AllReadyH.cons rfl (fun K hK => ?_) AllReadyH.nil)
          go_simp
          go_at_call 61
          refine (signOf_is _ _ (by omega) (by omega)).mono ?_
          rintro e w4 ⟨rfl, rfl⟩
          refine hK.out _ _ hHeld (fun _ => ?_)
          clear hK K
          try simp only [Act.put, List.setIfInBounds_toArray, List.set_cons_zero, List.set_cons_succ]
          refine wpAnyH_take (i := 6) (v := .string (bs (numL (k + 1)))) rfl (by kernel_rfl) (by kernel_rfl) (by kernel_rfl) (fun _ _ _ h => h) (Or.inl ⟨by rfl, fun w hw => by first | (go_simp; done) | (go_simp; exact hcv _)⟩) hHeld ?_
          simp only [Act.put, List.setIfInBounds_toArray, List.set_cons_zero, List.set_cons_succ]
          refine wpAnyH_take (i := 7) (v := .string (bs b ++ bs (numL (k + 1)))) rfl (by kernel_rfl) (by kernel_rfl) (by kernel_rfl) (fun _ _ _ h => h) (Or.inl ⟨by rfl, fun w hw => by go_simp; omega⟩) hHeld ?_
          simp only [Act.put, List.setIfInBounds_toArray, List.set_cons_zero, List.set_cons_succ]
          refine wpAnyH_ready (rs := [8]) (by kernel_rfl) (by simp) (AllReadyH.cons rfl (fun K hK => ?_) AllReadyH.nil)
          go_simp
          go_at_call 57
          rw [bs_append]
          refine (HRC.out _).mono ?_
          rintro e w4 ⟨g4, c4, rfl, ho4, hb4⟩
          have hb34 : Below w3.heap.size w3 w4 := below_trans (below_drew _) hb4
          have hHeld4 := HRG.out w4 (blkT_below HST.out hb34)
          have HO4 := Lib.hid ho4
          have HB34 := Lib.hid (HBS.out.trans (hb34.mono HBS.out.size))
          have HOX : Hid (w4.ownsRow (w.heap.size + 1) 9 1 (.slice q n d) n (strVs (heardK rec ts b k))) := own_below HX.out.2.2.1 HB34.out
          have HBL : Hid (Below w.heap.size w w4) := HX.out.2.2.2.1.trans (HB34.out.mono HX.out.2.2.2.1.size)
          have HS4 := Lib.hid (strs_news ho4 rfl)
          have HT4 := Lib.hid (blkT_below HX.out.2.1 HB34.out)
          clear ho4 hb4
          refine hK.out _ _ hHeld4 (fun _ => ?_)
          clear hK K
          try simp only [Act.put, List.setIfInBounds_toArray, List.set_cons_zero, List.set_cons_succ]
          refine wpAnyH_ready (rs := [9]) (by kernel_rfl) (by simp) (AllReadyH.cons rfl (fun K hK => ?_) AllReadyH.nil)
          refine step_appV rfl _ _ 32 rfl (w.heap.size + 1) 9 i0 (.string ⟨#[]⟩) 16 Try.underlying32 hi hz0 hz1 hz2 rfl (.slice q n d) n _ rfl HOX.out ⟨g4, 0, none⟩ rs.length c4 (strVs rs) rfl (by simp [strVs]) HS4.out (strs_one rs) (by unfold maxLen; omega) (by omega) (by have := HX.out.2.2.2.2; have := HB34.out.size; omega) ?_
          intro v' w5 hown' hgrow hwh
          obtain ⟨av', cv', rfl⟩ := own_slice hown'
          have hq : ∀ z, (Value.slice q n d).ownBlock = some z → w.heap.size + 1 ≤ z ∧ z < wr.heap.size := fun z hz => HX.out.2.2.1.lt z hz
          have hT5 : BlkT w5 wr.heap.size (ts.set k m') := by
            have h4 := blkT_below HST.out hb34
            refine ⟨(hgrow.block _ (blkT_lt h4) (fun e => ?_)).trans h4.1, h4.2⟩
            have := (hq _ e.symm).2
            omega
          have hT0 : BlkT w5 w.heap.size ts := ⟨(hgrow.block _ (blkT_lt HT4.out) (fun e => by have := (hq _ e.symm).1; omega)).trans HT4.out.1, h9⟩
          have HT0 := Lib.hid hT0
          have R1 := Lib.hid hown'
          have R2 := Lib.hid (HBL.out.grown hgrow HBL.out.size (fun z hz => by have := (hq z hz).1; omega))
          have hHeld5 := HRG.out w5 hT5
          have HS5 := Lib.hid hgrow.size
          clear hown' hgrow hT5 hT0 hwh hq
          refine hK.out _ _ hHeld5 (fun _ => ?_)
          clear hK K
          try simp only [Act.put, List.setIfInBounds_toArray, List.set_cons_zero, List.set_cons_succ]
          refine wpAnyH_ready (rs := [10]) (by kernel_rfl) (by simp) (AllReadyH.cons rfl (fun K hK => ?_) AllReadyH.nil)
          go_simp
          refine hK.out _ _ hHeld5 (fun _ => ?_)
          clear hK K
          try simp only [Act.put, List.setIfInBounds_toArray, List.set_cons_zero, List.set_cons_succ]
          refine wpAnyH_done (by kernel_rfl) ?_ _
          go_wp2_with fail
          go_roundw
          case rel =>
            refine ⟨k + 1, n + rs.length, _, _, by omega, by go_num, rfl, by rw [Nat.succ_mul]; exact Nat.add_le_add HN.out HL2.out, ?_, HT0.out, ?_, R2.out, ?_⟩
            · rw [E0.out, List.length_append, ← HX.out.1]
            · rw [E0.out]
              have := R1.out
              simpa [strVs] using this
            · have h1 := HX.out.2.2.2.2
              have h2 := HB34.out.size
              have h3 := HS5.out
              omega
          case measure => simp [intOf] <;> omega
      · obtain rfl : k = 9 := by omega
        rcases own_open HX.out.2.2.1 with ⟨_, h0, _⟩ | ⟨gq, cq, e, _⟩
        · have h1 := HX.out.1; have h2 := HPOS.out; omega
        simp only [Value.slice.injEq] at e
        obtain ⟨rfl, _, rfl⟩ := e
        go_wp2_with fail
        go_ret
        refine ⟨gq, d, by rw [← HX.out.1]; rfl, ?_, HX.out.2.2.2.1⟩
        rw [← HX.out.1]
        exact own_mono HX.out.2.2.1 (by omega)
end Go.Proofs.Ytfkaghiopnaghaa
