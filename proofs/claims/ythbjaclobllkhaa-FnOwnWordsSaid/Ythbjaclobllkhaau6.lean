/- What is said of any digits, noughts too: the model's woRuns, woSay, woTimes. -/
import Derived.Test.YthbjaclobllkhaaA5
namespace Go.Proofs.Ythbjaclobllkhaa
open Go.RowKit Go.BigFrame
set_option linter.unusedSimpArgs false
set_option linter.unusedVariables false
set_option maxRecDepth 4000

def digZ (c : UInt8) : Bool := decide (48 ≤ c.toNat ∧ c.toNat ≤ 57)
theorem dig_atZ (s : ByteArray) (h : s.data.toList.all digZ = true) (k : Nat) (hk : k < s.size) : 48 ≤ s[k].toNat ∧ s[k].toNat ≤ 57 := by
  have h2 := List.all_eq_true.1 h (s.data.toList[k]'(by simpa using hk)) (List.getElem_mem _)
  have e : s.data.toList[k]'(by simpa using hk) = s[k] := by simp; rfl
  rw [e] at h2
  simpa [digZ] using h2
theorem runs_digZ {l : List UInt8} (h : l.all digZ = true) {k : Nat} (hk : k < (runsL l).length) : 48 ≤ (runsL l)[k].1.toNat ∧ (runsL l)[k].1.toNat ≤ 57 := by
  have := runsL_mem (fun c => 48 ≤ c.toNat ∧ c.toNat ≤ 57) l (fun c hc => by simpa [digZ] using List.all_eq_true.1 h c hc) _ (List.getElem_mem hk)
  exact this
set_option maxHeartbeats 1000000 in
theorem woRuns_z (s : ByteArray) (w : World) (hs : s.size ≤ 400) (hd : s.data.toList.all digZ = true) :
    Calls Try.prog 66 #[.string s] w fun e w' => ∃ v vs, e = .returned v ∧ OwnsRR w' w.heap.size 47 3 v vs (rowsL s.data.toList) ∧ Below w.heap.size w w' := by
  obtain ⟨i0, hi, hz0, hz1, hz2⟩ := info_parts info_ints
  go_enter Try.func66, Try.ntmps66
  go_wp2
  go_loopw [3, 4] (fun v i wr => ∃ k : Nat, k ≤ s.size ∧ i = .int .i64 k ∧ (∃ vs, OwnsRR wr w.heap.size 47 3 v vs (rowsL (s.data.toList.take k))) ∧ Below w.heap.size w wr) (fun _ i _ => s.size - (intOf i).toNat)
  case atStart => exact ⟨0, Nat.zero_le _, rfl, ⟨[], ownsRR_nil _ _ _ _⟩, Below.refl _ _⟩
  case round =>
    obtain ⟨k, hk, rfl, ⟨vs, hrr⟩, hb⟩ := hrel
    have HX := Lib.hid hrr
    clear hrr
    by_cases hlt : k < s.size
    · obtain ⟨hd1, hd2⟩ := dig_atZ s hd k hlt
      have hvl : vs.length ≤ k := by rw [← HX.out.len]; simp [rowsL]; exact Nat.le_trans (runsL_len _) (by simp; omega)
      by_cases hsame : 0 < k ∧ s[k]? = s[k - 1]?
      · obtain ⟨m, rfl⟩ : ∃ m, k = m + 1 := ⟨k - 1, by omega⟩
        have hm : m < s.size := by omega
        have hm0 : (0 : Int) ≤ (m : Int) + 1 := by omega
        have hs2 : s[m + 1] = s[m] := by have := hsame.2; simp [hlt, hm] at this; exact this
        have hsame : ((s[m + 1].toNat : Int) == (s[m].toNat : Int)) = true := by rw [hs2]; simp
        obtain ⟨pre, n, hpre⟩ : ∃ pre n, runsL (s.data.toList.take (m + 1)) = pre ++ [(s[m], n)] := by
          rw [take_snoc s m hm, runsL_snoc]; exact stepRun_last _ _
        have hrr' : OwnsRR wr w.heap.size 47 3 u3 vs (pre.map rowOf ++ [rowOf (s[m], n)]) := by
          have := HX.out; unfold rowsL at this; rw [hpre] at this; simpa using this
        obtain ⟨p, g, cap, ws, b, c, hp, rfl, rfl, hws, hlen, hcg, hBb, hbs, hcb0, hcb1, hfb0, hfb1⟩ := ownsRR_last2 hrr'
        have hn : n ≤ m + 1 := by have := runs_last_le hpre; simp at this; omega
        have HR := Lib.hid hrr'; have HP := Lib.hid hpre; have HW := Lib.hid hws; have HQ := Lib.hid hp; have HS := Lib.hid hs2
        clear hrr' hpre hws hp hs2 hvl
        go_wp2
        go_quiet (fail)
        go_wp2
        go_roundw
        case rel =>
          refine ⟨m + 2, by omega, by go_num, ⟨ws ++ [.slice (some ⟨b, 0, none⟩) 2 c], ?_⟩, ?_⟩
          · have e : rowsL (s.data.toList.take (m + 2)) = pre.map rowOf ++ [rowOf (s[m], n + 1)] := by
              unfold rowsL
              rw [take_snoc s (m + 1) hlt, runsL_snoc, HP.out, HS.out, stepRun_same]; simp
            rw [e]
            exact ownsRR_set_last2 (ownsRR_below HR.out (belowN _ _ _)) HW.out
          · exact (hb.trans (belowN _ _ _)).setCell (p := ⟨b, 1, none⟩) hBb _
        case measure => simp [intOf]; omega
      · have he : rowsL (s.data.toList.take (k + 1)) = rowsL (s.data.toList.take k) ++ [rowOf (s[k], 1)] := by
          unfold rowsL
          rw [take_snoc s k hlt, runsL_snoc]
          cases k with
          | zero => simp [runsL, stepRun]
          | succ m =>
            have hm : m < s.size := by omega
            obtain ⟨pre, n, hpre⟩ : ∃ pre n, runsL (s.data.toList.take (m + 1)) = pre ++ [(s[m], n)] := by
              rw [take_snoc s m hm, runsL_snoc]; exact stepRun_last _ _
            have hne : s[m] ≠ s[m + 1] := by
              intro e; exact hsame ⟨by omega, by simp [hlt, hm, e]⟩
            rw [hpre, stepRun_other _ _ _ _ hne]; simp
        have HE := Lib.hid he; clear he
        by_cases h0 : 0 < k
        · obtain ⟨m, rfl⟩ : ∃ m, k = m + 1 := ⟨k - 1, by omega⟩
          have hm : m < s.size := by omega
          have hm0 : (0 : Int) ≤ (m : Int) + 1 := by omega
          have hdiff : ((s[m + 1].toNat : Int) == (s[m].toNat : Int)) = false := by
            have : s[m + 1] ≠ s[m] := fun e => hsame ⟨by omega, by simp [hlt, hm, e]⟩
            simp; intro e; exact this (UInt8.toNat_inj.1 (by omega))
          clear hsame
          go_wp2
          go_quiet (fail)
          have HR2 := Lib.hid (ownsRR_below HX.out (belowN _ wr nq)); have hb2 := hb.trans (belowN _ wr nq)
          generalize wr.drewN nq = wq at *
          have hsz := hb2.size
          have HB := Lib.hid hb2; clear hb2
          go_wp2_with (at_builtin; refine wpList_append_own _ rfl _ _ 65 rfl w.heap.size 47 i0 (.slice none 0 0) 1 24 Try.underlying65 hi hz0 hz1 hz2 rfl (by decide) _ _ _ rfl ((HR2.out.outer.alloc _).alloc _) ⟨wq.heap.size + 1, 0, none⟩ 1 1 [.slice (some ⟨wq.heap.size, 0, none⟩) 2 2] rfl rfl ?c1 ?c2 ?c3 ?c4 ?c5 ?_)
          case c1 =>
            intro j u hj
            match j, hj with
            | 0, hj => simp at hj; subst hj; simp [Addr.add]
          case c2 => intro u hu; simp at hu; subst hu; rfl
          case c3 => unfold maxLen; omega
          case c4 => omega
          case c5 => simp; omega
          intro v' w1 hown' hgrow _
          have R1 := Lib.hid (ownsRR_push HR2.out (rowOf (s[m + 1], 1)) (by simp [rowOf, maxLen]) hsz hown' hgrow (by decide))
          have R2 := Lib.hid (((HB.out.alloc hsz _).alloc (by simp; omega) _).grown hgrow (by simp; omega) (fun g hg => (HR2.out.outer.lt g hg).1))
          clear hown' hgrow
          go_wp2
          go_roundw
          case rel => exact ⟨m + 1 + 1, by omega, by go_num, ⟨_, by rw [HE.out]; exact R1.out⟩, R2.out⟩
          case measure => simp [intOf]; omega
        · obtain rfl : k = 0 := by omega
          clear hsame
          go_wp2
          go_quiet (fail)
          have HR2 := Lib.hid (ownsRR_below HX.out (belowN _ wr nq)); have hb2 := hb.trans (belowN _ wr nq)
          generalize wr.drewN nq = wq at *
          have hsz := hb2.size
          have HB := Lib.hid hb2; clear hb2
          go_wp2_with (at_builtin; refine wpList_append_own _ rfl _ _ 65 rfl w.heap.size 47 i0 (.slice none 0 0) 1 24 Try.underlying65 hi hz0 hz1 hz2 rfl (by decide) _ _ _ rfl ((HR2.out.outer.alloc _).alloc _) ⟨wq.heap.size + 1, 0, none⟩ 1 1 [.slice (some ⟨wq.heap.size, 0, none⟩) 2 2] rfl rfl ?c1 ?c2 ?c3 ?c4 ?c5 ?_)
          case c1 =>
            intro j u hj
            match j, hj with
            | 0, hj => simp at hj; subst hj; simp [Addr.add]
          case c2 => intro u hu; simp at hu; subst hu; rfl
          case c3 => unfold maxLen; omega
          case c4 => omega
          case c5 => simp; omega
          intro v' w1 hown' hgrow _
          have R1 := Lib.hid (ownsRR_push HR2.out (rowOf (s[0], 1)) (by simp [rowOf, maxLen]) hsz hown' hgrow (by decide))
          have R2 := Lib.hid (((HB.out.alloc hsz _).alloc (by simp; omega) _).grown hgrow (by simp; omega) (fun g hg => (HR2.out.outer.lt g hg).1))
          clear hown' hgrow
          go_wp2
          go_roundw
          case rel => exact ⟨0 + 1, by omega, by go_num, ⟨_, by rw [HE.out]; exact R1.out⟩, R2.out⟩
          case measure => simp [intOf]; omega
    · obtain rfl : k = s.size := by omega
      go_wp2
      go_ret
      have hx := HX.out
      rw [List.take_of_length_le (by simp)] at hx
      exact ⟨_, _, rfl, hx, hb⟩
set_option maxHeartbeats 2000000 in
theorem woSay_z (s : ByteArray) (w : World) (h1 : 1 ≤ s.size) (hs : s.size ≤ 400) (hd : s.data.toList.all digZ = true) :
    Calls Try.prog 61 #[.string s] w fun e w' => e = .returned (.string (bs (sayL s.data.toList))) ∧ Below w.heap.size w w' := by
  go_enter Try.func61, Try.ntmps61
  go_wp2_with fail
  refine (woRuns_z s w hs hd).mono ?_
  rintro e w1 ⟨v, vs, rfl, hrr, hb⟩
  have HB := Lib.hid hb
  obtain ⟨rs, hrs⟩ : ∃ rs, rs = runsL s.data.toList := ⟨_, rfl⟩
  have hrows : rowsL s.data.toList = rs.map rowOf := by rw [hrs]; rfl
  have hsay : sayL s.data.toList = sayR rs := by rw [hrs]; rfl
  have hN4 : rs.length ≤ 400 := by rw [hrs]; exact Nat.le_trans (runsL_len _) (by simpa using hs)
  have hdg : ∀ k (h : k < rs.length), 48 ≤ rs[k].1.toNat ∧ rs[k].1.toNat ≤ 57 ∧ rs[k].2 ≤ 400 := by
    subst hrs; intro k h
    exact ⟨(runs_digZ hd h).1, (runs_digZ hd h).2, Nat.le_trans (runs_cnt h) (by simpa using hs)⟩
  have HD := Lib.hid hdg
  rw [hrows] at hrr
  have HX := Lib.hid hrr
  rcases ownsRR_open hrr with ⟨_, _, hx⟩ | ⟨g, cap, rfl, hc1, hc2, _, hgs, hcell⟩
  · exact absurd hx (by simp [hrs]; exact runsL_ne (by simpa using h1))
  · have hat : ∀ k (h : k < rs.length), ∃ b c, b < w1.heap.size ∧ w1.cell? ⟨g, k, none⟩ = some (.slice (some ⟨b, 0, none⟩) 2 c) ∧ w1.cell? ⟨b, 0, none⟩ = some (.int .i64 ((rs[k].1.toNat : Int) - 48)) ∧ w1.cell? ⟨b, 1, none⟩ = some (.int .i64 (rs[k].2 : Int)) := by
      intro k h
      obtain ⟨b, c, e1, e2, e3⟩ := ownsRR_at2 hrr (i := k) (x := .int .i64 ((rs[k].1.toNat : Int) - 48)) (y := .int .i64 (rs[k].2 : Int)) (by simp [h, rowOf])
      exact ⟨b, c, World.block_lt_of_cell? w1 _ e2, hcell k (by simpa using h) _ e1, e2, e3⟩
    have HA := Lib.hid hat
    have HL := Lib.hid hsay
    simp only [List.length_map] at hc1 ⊢
    obtain ⟨N, hN⟩ : ∃ N, N = rs.length := ⟨_, rfl⟩
    simp only [← hN] at hc1 hN4 ⊢
    have HN := Lib.hid hN
    clear hrr hb hsay hrows hrs hcell hat hN hdg
    go_wp2_with fail
    go_loopw [3, 9] (fun o i wr => ∃ (k : Nat) (t : ByteArray), k ≤ N ∧ i = .int .i64 k ∧ o = .string t ∧ t.size ≤ 40 * k ∧ Hid (t.data.toList = sayR (rs.take k)) ∧ Hid (Below w1.heap.size w1 wr)) (fun _ i _ => N - (intOf i).toNat)
    case atStart => exact ⟨0, bs [], Nat.zero_le _, rfl, rfl, by simp [bs_size], by rw [bs_list]; exact rfl, below_refl _⟩
    case round =>
      obtain ⟨k, t, hk, rfl, rfl, ht, HT, HW⟩ := hrel
      by_cases hlt : k < N
      · have hlt' : k < rs.length := by rw [← HN.out]; exact hlt
        obtain ⟨b, c, hbs, hc0, hc1', hc2'⟩ := HA.out k hlt'
        obtain ⟨hd1, hd2, hd3⟩ := HD.out k hlt'
        have hsn := Lib.hid (sayR_snoc rs k hlt')
        obtain ⟨d, hdd⟩ : ∃ d, d = rs[k].1.toNat := ⟨_, rfl⟩
        obtain ⟨n, hnn⟩ : ∃ n, n = rs[k].2 := ⟨_, rfl⟩
        simp only [← hdd, ← hnn] at hc1' hc2' hd1 hd2 hd3
        have HDD := Lib.hid hdd; have HNN := Lib.hid hnn; clear hdd hnn
        have hr0 : wr.cell? ⟨g, k, none⟩ = some (.slice (some ⟨b, 0, none⟩) 2 c) := (HW.out.cell (p := ⟨g, k, none⟩) hgs).trans hc0
        have hr1 : wr.cell? ⟨b, 0, none⟩ = some (.int .i64 ((d : Int) - 48)) := (HW.out.cell (p := ⟨b, 0, none⟩) hbs).trans hc1'
        have hr2 : wr.cell? ⟨b, 1, none⟩ = some (.int .i64 (n : Int)) := (HW.out.cell (p := ⟨b, 1, none⟩) hbs).trans hc2'
        have hbr : b < wr.heap.size := Nat.lt_of_lt_of_le hbs HW.out.size
        have hl1 := numL_len19 n (by omega)
        have hl2 := numL_len19 (d - 48) (by omega)
        rw [← bs_size] at hl1 hl2
        clear hc0 hc1' hc2' hbs
        have hn1 := fun (W : World) => l1Num_any n (n : Int) W (by omega) (by omega) (by omega)
        have hn2 := fun (W : World) => l1Num_any d ((d : Int) - 48) W (by omega) (by omega) (by omega)
        rw [show ((n : Int)).toNat = n from by omega] at hn1
        rw [show ((d : Int) - 48).toNat = d - 48 from by omega] at hn2
        have H1 := Lib.hid hn1; have H2 := Lib.hid hn2; clear hn1 hn2
        go_wp2_with fail
        go_region_with (go_at_call 31; first
          | ((with_reducible refine (H1.out _).mono ?_); rintro e w2 ⟨rfl, hb1⟩; try (have hb1c := (hb1.cell (p := ⟨b, 0, none⟩) hbr).trans hr1))
          | ((with_reducible refine (H2.out _).mono ?_); rintro e w3 ⟨rfl, hb2⟩; try (have hb2c := (hb2.cell (p := ⟨b, 1, none⟩) hbr).trans hr2)))
        all_goals
          go_wp2_with fail
          go_roundw
          case rel =>
            refine ⟨k + 1, _, by omega, by go_num, rfl, ?_, ?_, ?_⟩
            · simp only [ByteArray.size_append]; omega
            · rw [list_append, list_append, HT.out, bs_list, bs_list, hsn.out, HDD.out, HNN.out]; exact rfl
            · first
                | exact below_trans HW.out (below_trans (below_drew _) (below_trans hb1 hb2))
                | exact below_trans HW.out (below_trans (below_drew _) (below_trans hb2 hb1))
          case measure => simp [intOf] <;> omega

      · obtain rfl : k = N := by omega
        go_wp2
        go_ret
        exact ⟨ret_str (bs_eq (by rw [HT.out, HL.out, List.take_of_length_le (by rw [← HN.out]; exact Nat.le_refl _)])), HB.out.trans (HW.out.mono HB.out.size)⟩


theorem numL_digZ (n : Nat) : (numL n).all digZ = true := by
  induction n using Nat.strongRecOn with
  | _ n ih =>
    by_cases h : n < 10
    · rw [numL_one n h]
      simp only [List.all_cons, List.all_nil, Bool.and_true]
      exact decide_eq_true (by rw [UInt8.toNat_ofNat']; omega)
    · rw [numL_more n h, List.all_append, ih (n / 10) (by omega), Bool.true_and]
      simp only [List.all_cons, List.all_nil, Bool.and_true]
      exact decide_eq_true (by rw [UInt8.toNat_ofNat']; omega)
theorem numL_ge (n : Nat) : 1 ≤ (numL n).length := by
  by_cases h : n < 10
  · rw [numL_one n h]; simp
  · rw [numL_more n h]; simp
theorem sayR_facts : ∀ rs : List (UInt8 × Nat), (∀ p ∈ rs, 48 ≤ p.1.toNat ∧ p.1.toNat ≤ 57 ∧ p.2 < 1000) → (sayR rs).all digZ = true ∧ rs.length ≤ (sayR rs).length ∧ (sayR rs).length ≤ 4 * rs.length
  | [], _ => ⟨rfl, Nat.le_refl _, Nat.le_refl _⟩
  | p :: rs, h => by
    obtain ⟨h1, h2, h3⟩ := sayR_facts rs (fun q hq => h q (by simp [hq]))
    obtain ⟨g1, g2, g3⟩ := h p (by simp)
    have e : sayR (p :: rs) = numL p.2 ++ numL (p.1.toNat - 48) ++ sayR rs := by simp [sayR, sayP]
    have l1 := numL_len 2 p.2 (by omega)
    have l2 := numL_len 0 (p.1.toNat - 48) (by omega)
    have l3 := numL_ge p.2
    rw [e]
    refine ⟨by rw [List.all_append, List.all_append, numL_digZ, numL_digZ, h1]; rfl, ?_, ?_⟩ <;> simp only [List.length_append, List.length_cons] <;> omega
theorem sayL_facts {l : List UInt8} (h1 : 1 ≤ l.length) (h9 : l.length ≤ 400) (hd : l.all digZ = true) : (sayL l).all digZ = true ∧ 1 ≤ (sayL l).length ∧ (sayL l).length ≤ 4 * l.length := by
  have hne := runsL_ne h1
  have hln := runsL_len l
  obtain ⟨a, b, c⟩ := sayR_facts (runsL l) (fun p hp => by
    obtain ⟨k, hk, rfl⟩ := List.getElem_of_mem hp
    have g1 := runs_digZ hd hk
    have g2 := runs_cnt hk
    exact ⟨g1.1, g1.2, by omega⟩)
  have : 1 ≤ (runsL l).length := List.length_pos_iff.2 hne
  exact ⟨a, by unfold sayL; omega, by unfold sayL; omega⟩
theorem woSay_l (l : List UInt8) (w : World) (h1 : 1 ≤ l.length) (h9 : l.length ≤ 400) (hd : l.all digZ = true) :
    Calls Try.prog 61 #[.string (bs l)] w fun e w' => e = .returned (.string (bs (sayL l))) ∧ Below w.heap.size w w' := by
  have := woSay_z (bs l) w (by rw [bs_size]; exact h1) (by rw [bs_size]; exact h9) (by rw [bs_list]; exact hd)
  rw [bs_list] at this
  exact this
def dgZ (d : Int) : UInt8 := UInt8.ofNat (48 + d.toNat)
set_option maxHeartbeats 1000000 in
theorem woTimes_z (d : Int) (n : Nat) (w : World) (hd0 : 1 ≤ d) (hd9 : d ≤ 9) (hn : n ≤ 401) :
    Calls Try.prog 48 #[.int .i64 d, .int .i64 n] w fun e w' => e = .returned (.string (bs (List.replicate n (dgZ d)))) ∧ Below w.heap.size w w' := by
  have hnum := fun (W : World) => l1Num_any 9 d W (by omega) (by omega) (by omega)
  rw [numL_one d.toNat (by omega)] at hnum
  change ∀ W : World, Calls Try.prog 31 #[.int .i64 d] W fun e w' => e = .returned (.string (bs [dgZ d])) ∧ Below W.heap.size W w' at hnum
  have HNUM := Lib.hid hnum; clear hnum
  go_enter Try.func48, Try.ntmps48
  go_wp2_with fail
  go_loopw [1, 5] (fun i o wr => ∃ (k m : Nat), k + m = n ∧ i = .int .i64 (k : Int) ∧ o = .string (bs (List.replicate m (dgZ d))) ∧ Hid (Below w.heap.size w wr)) (fun i _ _ => (intOf i).toNat)
  case atStart => exact ⟨n, 0, rfl, rfl, rfl, below_refl _⟩
  case round =>
    obtain ⟨k, m, hk, rfl, rfl, HW⟩ := hrel
    have hsz : (bs (List.replicate m (dgZ d))).size = m := by rw [bs_size, List.length_replicate]
    have hs1 : (bs [dgZ d]).size = 1 := by rw [bs_size]; rfl
    cases k with
    | zero =>
      obtain rfl : m = n := by omega
      go_wp2_with fail
      go_ret
      exact ⟨rfl, HW.out⟩
    | succ j =>
      have hj : (0 : Int) ≤ (j : Int) + 1 := by omega
      have hj2 : (0 : Int) < (j : Int) + 1 := by omega
      go_wp2_with (go_at_call 31; refine (HNUM.out _).mono ?_; rintro e w2 ⟨rfl, hb2⟩)
      go_roundw
      case rel => exact ⟨j, m + 1, by omega, by go_num, by rw [bs_append, List.replicate_succ'], below_trans HW.out hb2⟩
      case measure => simp [intOf] <;> omega
end Go.Proofs.Ythbjaclobllkhaa
