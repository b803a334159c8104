/- Runs of a word: the program's runParts and what leans on it. -/
import Derived.Test.YtclifchdkcidgaaA5
namespace Go.Proofs.Ytclifchdkcidgaa
open Go.RowKit Go.BigFrame
set_option linter.unusedSimpArgs false
set_option linter.unusedVariables false

/-- The parts of a row of bytes at block b, from an offset on, one for each run. -/
def partsV (b : Nat) : Nat → List (UInt8 × Nat) → List Value
  | _, [] => []
  | o, (_, n) :: r => .slice (some ⟨b, o, none⟩) n n :: partsV b (o + n) r
def cntR (rs : List (UInt8 × Nat)) : Nat := (rs.map (·.2)).sum
theorem cntR_snoc (rs : List (UInt8 × Nat)) (d : UInt8) (n : Nat) : cntR (rs ++ [(d, n)]) = cntR rs + n := by simp [cntR]
theorem partsV_snoc (b : Nat) (d : UInt8) (n : Nat) : ∀ (o : Nat) (rs : List (UInt8 × Nat)), partsV b o (rs ++ [(d, n)]) = partsV b o rs ++ [.slice (some ⟨b, o + cntR rs, none⟩) n n]
  | o, [] => by simp [partsV, cntR]
  | o, (c, m) :: r => by
    simp only [List.cons_append, partsV]
    rw [partsV_snoc b d n (o + m) r]
    simp [cntR, Nat.add_assoc]
theorem partsV_len (b : Nat) : ∀ (o : Nat) (rs : List (UInt8 × Nat)), (partsV b o rs).length = rs.length
  | o, [] => rfl
  | o, (c, m) :: r => by simp [partsV, partsV_len b (o + m) r]
theorem partsV_at (b : Nat) : ∀ (o : Nat) (rs : List (UInt8 × Nat)) (k : Nat) (h : k < rs.length), (partsV b o rs)[k]? = some (.slice (some ⟨b, o + cntR (rs.take k), none⟩) rs[k].2 rs[k].2)
  | o, [], k, h => by simp at h
  | o, (c, m) :: r, 0, h => by simp [partsV, cntR]
  | o, (c, m) :: r, k + 1, h => by
    simp only [partsV, List.getElem?_cons_succ, List.take_succ_cons, List.getElem_cons_succ]
    rw [partsV_at b (o + m) r k (by simpa using h)]
    simp [cntR, Nat.add_assoc]

theorem info_bytes : (Try.prog.info? 50).map (fun i => (i.zero, i.size, i.bytes)) = some (some (.slice none 0 0), 1, 24) := by kernel_rfl

set_option maxHeartbeats 2000000 in
theorem runParts_any (l : List UInt8) (b cap : Nat) (w : World) (hl : l.length ≤ 400) (hcap : l.length ≤ cap) (hm : cap ≤ maxLen) (hb : b < w.heap.size)
    (hc : ∀ i (h : i < l.length), w.cell? ⟨b, i, none⟩ = some (.int .u8 (l[i].toNat : Int))) :
    Calls Try.prog 52 #[.slice (some ⟨b, 0, none⟩) l.length cap] w fun e w' => ∃ v, e = .returned v ∧ w'.ownsRow w.heap.size 50 1 v (runsL l).length (partsV b 0 (runsL l)) ∧ Below w.heap.size w w' := by
  obtain ⟨i0, hi, hz0, hz1, hz2⟩ := info_parts info_bytes
  unfold maxLen at hm
  obtain ⟨n, hn⟩ : ∃ n, n = l.length := ⟨_, rfl⟩
  have HC := Lib.hid hc; clear hc
  have HN := Lib.hid hn
  rw [← hn] at hl hcap ⊢
  clear hn
  go_enter Try.func52, Try.ntmps52
  go_wp2_with (refine wpList_make_own _ rfl _ _ 48 rfl w.heap.size 50 i0 (.slice none 0 0) 1 Try.underlying48 hi hz0 hz1 .i64 .i64 (n : Int) n rfl rfl rfl (by rw [hz2]; omega) (by unfold maxLen; omega) (Nat.le_refl _) ?_; intro w1 hown hgr)
  have hb1 := (Below.refl w.heap.size w).grown hgr (Nat.le_refl _) (fun k h => by cases h)
  have HO := Lib.hid hown; have HB := Lib.hid hb1
  clear hown hgr hb1
  go_wp2_with fail
  go_loopw [3, 4, 5] (fun v st en wr => ∃ k : Nat, en = .int .i64 k ∧ Hid (Below w.heap.size w wr) ∧
      ((k ≤ n ∧ ∃ (j : Nat) (pre : List (UInt8 × Nat)) (d : UInt8), st = .int .i64 j ∧ j < k ∧ Hid (runsL (l.take k) = pre ++ [(d, k - j)] ∧ cntR pre = j ∧ l[j]? = some d) ∧ Hid (wr.ownsRow w.heap.size 50 1 v pre.length (partsV b 0 pre))) ∨
       (k = n + 1 ∧ (∃ j : Nat, st = .int .i64 j) ∧ Hid (wr.ownsRow w.heap.size 50 1 v (runsL l).length (partsV b 0 (runsL l))))))
    (fun _ _ en _ => n + 1 - (intOf en).toNat)
  case atStart =>
    refine ⟨1, rfl, HB.out, ?_⟩
    by_cases h0 : n = 0
    · right
      have hl0 : l = [] := List.eq_nil_of_length_eq_zero (by rw [← HN.out, h0])
      subst hl0
      exact ⟨by omega, ⟨0, rfl⟩, HO.out⟩
    · left
      have h1 : 0 < l.length := by rw [← HN.out]; omega
      refine ⟨by omega, 0, [], l[0], rfl, by omega, ⟨?_, rfl, by simp [h1]⟩, HO.out⟩
      cases l with
      | nil => simp at h1
      | cons c r => simp [runsL, stepRun]
  case round =>
    obtain ⟨k, rfl, HW, hrel | hrel⟩ := hrel
    · obtain ⟨hk, j, pre, d, rfl, hj, HP, HV⟩ := hrel
      have hpl : pre.length ≤ 400 := by
        have := runsL_len (l.take k); rw [HP.out.1] at this; simp at this; omega
      have hjk : (k : Int) - (j : Int) = ((k - j : Nat) : Int) := by omega
      by_cases hend : k = n
      · subst hend
        have heq : ((k : Int) == (k : Int)) = true := by simp
        go_wp2_with fail
        go_quiet (fail)
        have HV2 := Lib.hid (own_below HV.out (belowN _ wr nq)); have hb2 := HW.out.trans (belowN _ wr nq)
        generalize wr.drewN nq = wq at *
        have hsz := hb2.size
        have HB2 := Lib.hid hb2; clear hb2
        go_wp2_with (at_builtin; refine wpList_append_own _ rfl _ _ 48 rfl w.heap.size 50 i0 (.slice none 0 0) 1 24 Try.underlying48 hi hz0 hz1 hz2 rfl (by decide) _ _ _ rfl (HV2.out.alloc _) ⟨wq.heap.size, 0, none⟩ 1 1 [.slice (some ⟨b, j, none⟩) (k - j) (k - j)] rfl rfl ?c1 ?c2 ?c3 ?c4 ?c5 ?_)
        case c1 =>
          intro i u hj
          match i, hj with
          | 0, hj => simp at hj; subst hj; simp [Addr.add]
        case c2 => intro u hu; simp at hu; subst hu; rfl
        case c3 => unfold maxLen; omega
        case c4 => omega
        case c5 => simp; omega
        intro v' w2 hown' hgrow _
        have R1 := Lib.hid hown'
        have R2 := Lib.hid ((HB2.out.alloc hsz _).grown hgrow (by simp; omega) (fun g hg => (HV2.out.lt g hg).1))
        clear hown' hgrow
        go_wp2_with fail
        go_roundw
        case rel =>
          refine ⟨k + 1, by go_num, R2.out, .inr ⟨rfl, ⟨k, rfl⟩, ?_⟩⟩
          have e1 : runsL l = pre ++ [(d, k - j)] := by
            have := HP.out.1; rw [List.take_of_length_le (by rw [← HN.out]; exact Nat.le_refl _)] at this; exact this
          rw [e1, partsV_snoc, HP.out.2.1]
          have := R1.out
          simp only [List.length_append, List.length_cons, List.length_nil, Nat.zero_add]
          exact this
        case measure => simp [intOf] <;> omega
      · have hkn : k < n := by omega
        have hkl : k < l.length := by rw [← HN.out]; exact hkn
        have hjl : j < l.length := by rw [← HN.out]; omega
        have hne : ((k : Int) == (n : Int)) = false := by simp; omega
        have hbr : b < wr.heap.size := Nat.lt_of_lt_of_le hb HW.out.size
        have hck : wr.cell? ⟨b, k, none⟩ = some (.int .u8 (l[k].toNat : Int)) := (HW.out.cell (p := ⟨b, k, none⟩) hb).trans (HC.out k hkl)
        have hcj : wr.cell? ⟨b, j, none⟩ = some (.int .u8 (l[j].toNat : Int)) := (HW.out.cell (p := ⟨b, j, none⟩) hb).trans (HC.out j hjl)
        have htk := Lib.hid (show runsL (l.take (k + 1)) = stepRun (runsL (l.take k)) l[k] by rw [List.take_succ_eq_append_getElem hkl, runsL_snoc])
        have hlj : d = l[j] := by have := HP.out.2.2; simp [hjl] at this; exact this.symm
        have HLJ := Lib.hid hlj; clear hlj
        by_cases hs : l[k] = l[j]
        · have hsb : ((l[k].toNat : Int) != (l[j].toNat : Int)) = false := by rw [hs]; simp
          have HS := Lib.hid hs; clear hs
          go_wp2_with fail
          go_quiet (fail)
          go_wp2_with fail
          go_roundw
          case rel =>
            refine ⟨k + 1, by go_num, HW.out.trans (belowN _ _ _), .inl ⟨by omega, j, pre, d, rfl, by omega, ⟨?_, HP.out.2.1, HP.out.2.2⟩, own_below HV.out (belowN _ _ _)⟩⟩
            rw [htk.out, HP.out.1, HS.out, ← HLJ.out, stepRun_same]
            congr 3; omega
          case measure => simp [intOf] <;> omega
        · have hsb : ((l[k].toNat : Int) != (l[j].toNat : Int)) = true := by
            simp; intro e; exact hs (UInt8.toNat_inj.1 (by omega))
          have HS := Lib.hid hs; clear hs
          go_wp2_with fail
          go_quiet (fail)
          have HV2 := Lib.hid (own_below HV.out (belowN _ wr nq)); have hb2 := HW.out.trans (belowN _ wr nq)
          generalize wr.drewN nq = wq at *
          have hsz := hb2.size
          have HB2 := Lib.hid hb2; clear hb2
          go_wp2_with (at_builtin; refine wpList_append_own _ rfl _ _ 48 rfl w.heap.size 50 i0 (.slice none 0 0) 1 24 Try.underlying48 hi hz0 hz1 hz2 rfl (by decide) _ _ _ rfl (HV2.out.alloc _) ⟨wq.heap.size, 0, none⟩ 1 1 [.slice (some ⟨b, j, none⟩) (k - j) (k - j)] rfl rfl ?c1 ?c2 ?c3 ?c4 ?c5 ?_)
          case c1 =>
            intro i u hj
            match i, hj with
            | 0, hj => simp at hj; subst hj; simp [Addr.add]
          case c2 => intro u hu; simp at hu; subst hu; rfl
          case c3 => unfold maxLen; omega
          case c4 => omega
          case c5 => simp; omega
          intro v' w2 hown' hgrow _
          have R1 := Lib.hid hown'
          have R2 := Lib.hid ((HB2.out.alloc hsz _).grown hgrow (by simp; omega) (fun g hg => (HV2.out.lt g hg).1))
          clear hown' hgrow
          go_wp2_with fail
          go_roundw
          case rel =>
            refine ⟨k + 1, by go_num, R2.out, .inl ⟨by omega, k, pre ++ [(d, k - j)], l[k], rfl, by omega, ⟨?_, ?_, by simp [hkl]⟩, ?_⟩⟩
            · rw [htk.out, HP.out.1, stepRun_other _ _ _ _ (by rw [HLJ.out]; exact fun e => HS.out e.symm)]
              congr 3; omega
            · rw [cntR_snoc, HP.out.2.1]; omega
            · rw [partsV_snoc, HP.out.2.1]
              have := R1.out
              simp only [List.length_append, List.length_cons, List.length_nil, Nat.zero_add]
              exact this
          case measure => simp [intOf] <;> omega
    · obtain ⟨rfl, ⟨j, rfl⟩, HV⟩ := hrel
      go_wp2
      go_ret
      exact ⟨_, rfl, HV.out, HW.out⟩

/-! ### Runs, spread out again -/
def flatR (rs : List (UInt8 × Nat)) : List UInt8 := rs.flatMap (fun p => List.replicate p.2 p.1)
theorem flatR_append (a b : List (UInt8 × Nat)) : flatR (a ++ b) = flatR a ++ flatR b := by simp [flatR]
theorem flatR_len (rs : List (UInt8 × Nat)) : (flatR rs).length = cntR rs := by
  induction rs with
  | nil => rfl
  | cons p r ih => simp only [flatR, cntR, List.flatMap_cons, List.length_append, List.length_replicate, List.map_cons, List.sum_cons] at *; omega
theorem flatR_step (acc : List (UInt8 × Nat)) (c : UInt8) : flatR (stepRun acc c) = flatR acc ++ [c] := by
  unfold stepRun
  split
  · rename_i d n h
    have hne : acc ≠ [] := by intro e; simp [e] at h
    have h2 : acc.getLast hne = (d, n) := by
      have := List.getLast?_eq_some_getLast hne
      rw [h] at this; exact (Option.some.inj this).symm
    split
    · rename_i hd
      subst hd
      conv => rhs; rw [← List.dropLast_concat_getLast hne, h2]
      rw [flatR_append, flatR_append]
      simp only [flatR, List.flatMap_cons, List.flatMap_nil, List.append_nil, List.append_assoc]
      rw [List.replicate_succ']
    · rw [flatR_append]; simp [flatR]
  · rename_i h
    have : acc = [] := by simpa using h
    subst this; simp [flatR]
theorem flatR_runs (l : List UInt8) : flatR (runsL l) = l := by
  induction h : l.length generalizing l with
  | zero => have : l = [] := List.eq_nil_of_length_eq_zero h; subst this; rfl
  | succ n ih =>
    have hne : l ≠ [] := by intro e; simp [e] at h
    have hd := List.dropLast_concat_getLast hne
    conv => lhs; rw [← hd, runsL_snoc, flatR_step, ih _ (by simp [h])]
    exact hd
theorem stepRun_pos (acc : List (UInt8 × Nat)) (c : UInt8) (h : ∀ p ∈ acc, 1 ≤ p.2) : ∀ p ∈ stepRun acc c, 1 ≤ p.2 := by
  unfold stepRun
  split
  · split
    · intro p hp
      rw [List.mem_append] at hp
      rcases hp with hp | hp
      · exact h p (List.dropLast_subset _ hp)
      · simp at hp; subst hp; simp
    · intro p hp
      rw [List.mem_append] at hp
      rcases hp with hp | hp
      · exact h p hp
      · simp at hp; subst hp; simp
  · intro p hp; simp at hp; subst hp; simp
theorem runs_pos (l : List UInt8) : ∀ p ∈ runsL l, 1 ≤ p.2 := by
  induction h : l.length generalizing l with
  | zero => intro p hp; have : l = [] := List.eq_nil_of_length_eq_zero h; subst this; simp [runsL] at hp
  | succ n ih =>
    have hne : l ≠ [] := by intro e; simp [e] at h
    have hd := List.dropLast_concat_getLast hne
    rw [← hd, runsL_snoc]
    exact stepRun_pos _ _ (ih l.dropLast (by simp [h]))
theorem flat_get (rs : List (UInt8 × Nat)) (k : Nat) (h : k < rs.length) (hp : 1 ≤ rs[k].2) : (flatR rs)[cntR (rs.take k)]? = some rs[k].1 := by
  have e : flatR rs = flatR (rs.take k) ++ flatR (rs.drop k) := by rw [← flatR_append, List.take_append_drop]
  rw [e, List.getElem?_append_right (by rw [flatR_len]; exact Nat.le_refl _), flatR_len, Nat.sub_self, List.drop_eq_getElem_cons h]
  obtain ⟨n, hn⟩ : ∃ n, rs[k].2 = n + 1 := ⟨rs[k].2 - 1, by omega⟩
  simp only [flatR, List.flatMap_cons, hn, List.replicate_succ, List.cons_append, List.getElem?_cons_zero]
theorem runs_get (l : List UInt8) (k : Nat) (h : k < (runsL l).length) : l[cntR ((runsL l).take k)]? = some (runsL l)[k].1 := by
  have := flat_get (runsL l) k h (runs_pos l _ (List.getElem_mem h))
  rw [flatR_runs] at this
  exact this

theorem digitOf_is (c : Int) (w : World) (h0 : 48 ≤ c) (h1 : c ≤ 255) :
    Calls Try.prog 53 #[.int .u8 c] w fun e w' => e = .returned (.int .i64 (c - 48)) ∧ w = w' := by
  go_enter Try.func53, Try.ntmps53
  go_wp2
  go_ret
  exact ⟨rfl, rfl⟩

set_option maxHeartbeats 2000000 in
theorem implLongestRun_any (s : ByteArray) (w : World) (hs : s.size ≤ maxLen) :
    Calls Try.prog 50 #[.string s] w fun e w' => e = .returned (.tuple #[.int .i64 (if goodL s.data.toList = true then (longL s.data.toList : Int) else 0), .bool (goodL s.data.toList)]) ∧ Below w.heap.size w w' := by
  cases hg : goodL s.data.toList with
  | false =>
    have HG := Lib.hid hg; clear hg
    go_enter Try.func50, Try.ntmps50
    go_wp2_with fail
    refine (implIsWord_any s w hs).mono ?_
    rintro e w1 ⟨rfl, rfl⟩
    rw [HG.out]
    go_wp2
    go_ret2
    exact ⟨rfl, Below.refl _ _⟩
  | true =>
    obtain ⟨h1, h2, h3⟩ := goodL_parts hg
    have HG := Lib.hid hg; clear hg
    go_enter Try.func50, Try.ntmps50
    go_wp2_with fail
    refine (implIsWord_any s w hs).mono ?_
    rintro e w1 ⟨rfl, rfl⟩
    rw [HG.out]
    go_wp2_with (refine wpList_bytes _ rfl 9 50 _ rfl 5 Try.underlying9 Try.underlying50 Try.underlying5 s rfl hs ?_; intro w1 cap hb hsz hcap hcm hcell hfr)
    have hz : s.size = s.data.toList.length := by simp
    have hcell2 : ∀ i (h : i < s.data.toList.length), w1.cell? ⟨w.heap.size, i, none⟩ = some (.int .u8 (s.data.toList[i].toNat : Int)) := fun i h => hcell i (by rw [hz]; exact h)
    have hp := runParts_any s.data.toList w.heap.size cap w1 (by rw [← hz]; exact h2) (by rw [← hz]; exact hcap) hcm hsz hcell2
    rw [← hz] at hp
    have HP := Lib.hid hp
    have HB := Lib.hid hb
    clear hp hcell hcell2 hfr hb hz
    go_wp2_with fail
    refine HP.out.mono ?_
    rintro e w2 ⟨v, rfl, hown, hb2⟩
    have HB2 := Lib.hid hb2
    obtain ⟨rs, hrs⟩ : ∃ rs, rs = runsL s.data.toList := ⟨_, rfl⟩
    have hlong : longL s.data.toList = longR rs := by rw [hrs]; rfl
    have hbd : ∀ k (h : k < rs.length), rs[k].2 ≤ 400 := by
      subst hrs; intro k h; exact Nat.le_trans (runs_cnt h) (by simpa using h2)
    rw [← hrs] at hown
    have hN4 : rs.length ≤ 400 := by rw [hrs]; exact Nat.le_trans (runsL_len _) (by simpa using h2)
    obtain ⟨N, hN⟩ : ∃ N, N = rs.length := ⟨_, rfl⟩
    rcases own_open hown with ⟨_, h0, _⟩ | ⟨g, cp, rfl, _, hg, hc1, hc2, _, hcell, _⟩
    · exact absurd h0 (by rw [hrs]; intro e; exact runsL_ne (by simpa using h1) (List.eq_nil_of_length_eq_zero e))
    · have hat : ∀ k (h : k < rs.length), w2.cell? ⟨g, k, none⟩ = some (.slice (some ⟨w.heap.size, 0 + cntR (rs.take k), none⟩) rs[k].2 rs[k].2) := by
        intro k h
        rw [hcell k (by rw [partsV_len]; exact h)]
        have := partsV_at w.heap.size 0 rs k h
        rw [List.getElem?_eq_getElem (by rw [partsV_len]; exact h)] at this
        exact this
      have HA := Lib.hid hat; have HL := Lib.hid hlong; have HD := Lib.hid hbd
      rw [← hN] at hN4 hc1 ⊢
      have HN := Lib.hid hN
      unfold maxLen at hc2
      clear hown hb2 hrs hlong hbd hcell hat hN
      go_wp2_with fail
      go_loop [4, 14] (fun m i => ∃ k : Nat, k ≤ N ∧ i = .int .i64 k ∧ m = .int .i64 (longR (rs.take k))) (fun _ i => N - (intOf i).toNat)
      case atStart => exact ⟨0, Nat.zero_le _, rfl, rfl⟩
      case round =>
        obtain ⟨k, hk, rfl, rfl⟩ := hrel
        by_cases hlt : k < N
        · have hlt' : k < rs.length := by rw [← HN.out]; exact hlt
          have hc0 := HA.out k hlt'
          have hbk := HD.out k hlt'
          have hmx := longR_take_succ rs k hlt'
          obtain ⟨q, hq⟩ : ∃ q, q = rs[k].2 := ⟨_, rfl⟩
          obtain ⟨o, ho⟩ : ∃ o, o = 0 + cntR (rs.take k) := ⟨_, rfl⟩
          obtain ⟨mx, hmx2⟩ : ∃ mx, mx = longR (rs.take k) := ⟨_, rfl⟩
          rw [← hq] at hc0 hbk hmx
          rw [← ho] at hc0
          rw [← hmx2] at hmx ⊢
          have HM := Lib.hid hmx
          clear hmx hq ho hmx2
          by_cases hgt : mx < q
          all_goals
            go_wp2
            go_round
            case rel => exact ⟨k + 1, by omega, by go_num, by rw [HM.out]; congr 1; omega⟩
            case measure => simp [intOf] <;> omega
        · obtain rfl : k = N := by omega
          go_wp2
          go_ret2
          refine ⟨?_, below_trans HB.out HB2.out⟩
          rw [HL.out, List.take_of_length_le (by rw [← HN.out]; exact Nat.le_refl _)]
          rfl

theorem implIsSpeakable_any (s : ByteArray) (w : World) (hs : s.size ≤ maxLen) :
    Calls Try.prog 18 #[.string s] w fun e w' => e = .returned (.tuple #[.bool (speakL s.data.toList), .bool (goodL s.data.toList)]) ∧ Below w.heap.size w w' := by
  cases hg : goodL s.data.toList with
  | false =>
    have HG := Lib.hid hg; clear hg
    go_enter Try.func18, Try.ntmps18
    go_wp2_with fail
    refine (implLongestRun_any s w hs).mono ?_
    rintro e w1 ⟨rfl, hb⟩
    rw [HG.out]
    have HB := Lib.hid hb; clear hb
    go_wp2_with fail
    go_ret2
    exact ⟨by unfold speakL; rw [HG.out]; rfl, HB.out⟩
  | true =>
    have HG := Lib.hid hg; clear hg
    obtain ⟨n, hn⟩ : ∃ n, n = longL s.data.toList := ⟨_, rfl⟩
    have HN := Lib.hid hn; clear hn
    go_enter Try.func18, Try.ntmps18
    go_wp2_with fail
    refine (implLongestRun_any s w hs).mono ?_
    rintro e w1 ⟨rfl, hb⟩
    rw [HG.out, if_pos rfl, ← HN.out]
    have HB := Lib.hid hb; clear hb
    go_wp2_with fail
    go_ret2
    exact ⟨by unfold speakL; rw [HG.out, ← HN.out, Bool.true_and, show decide (n ≤ 9) = decide ((n : Int) ≤ 9) from by simp only [decide_eq_decide]; omega]; rfl, HB.out⟩

/-- A bool and a row of rows, or nil and false. -/
def RowsOk (l : List UInt8) (w w' : World) (e : Ending) : Prop :=
  ∃ v vs, e = .returned (.tuple #[v, .bool (goodL l)]) ∧ OwnsRR w' w.heap.size 52 3 v vs (if goodL l = true then rowsL l else []) ∧ Below w.heap.size w w'

theorem specRunsOf_any (s : ByteArray) (w : World) (hs : s.size ≤ maxLen) :
    Calls Try.prog 19 #[.string s] w fun e w' => RowsOk s.data.toList w w' e := by
  cases hg : goodL s.data.toList with
  | false =>
    have HG := Lib.hid hg; clear hg
    go_enter Try.func19, Try.ntmps19
    go_wp2_with fail
    refine (woGood_any s w hs).mono ?_
    rintro e w1 ⟨rfl, rfl⟩
    rw [HG.out]
    go_wp2
    go_ret2
    exact ⟨_, [], by rw [HG.out]; rfl, by rw [HG.out, if_neg (by simp)]; exact ownsRR_nil _ _ _ _, Below.refl _ _⟩
  | true =>
    obtain ⟨h1, h2, h3⟩ := goodL_parts hg
    have HG := Lib.hid hg; clear hg
    go_enter Try.func19, Try.ntmps19
    go_wp2_with fail
    refine (woGood_any s w hs).mono ?_
    rintro e w1 ⟨rfl, rfl⟩
    rw [HG.out]
    go_wp2_with fail
    refine (woRuns_any s w h2 h3).mono ?_
    rintro e w1 ⟨v, vs, rfl, hrr, hb⟩
    have HR := Lib.hid hrr; have HB := Lib.hid hb; clear hrr hb
    go_wp2
    go_ret2
    exact ⟨_, vs, by rw [HG.out]; rfl, by rw [HG.out, if_pos rfl]; exact HR.out, HB.out⟩

set_option maxHeartbeats 2000000 in
theorem implRunsOf_any (s : ByteArray) (w : World) (hs : s.size ≤ maxLen) :
    Calls Try.prog 20 #[.string s] w fun e w' => RowsOk s.data.toList w w' e := by
  cases hg : goodL s.data.toList with
  | false =>
    have HG := Lib.hid hg; clear hg
    go_enter Try.func20, Try.ntmps20
    go_wp2_with fail
    refine (implIsWord_any s w hs).mono ?_
    rintro e w1 ⟨rfl, rfl⟩
    rw [HG.out]
    go_wp2
    go_ret2
    exact ⟨_, [], by rw [HG.out]; rfl, by rw [HG.out, if_neg (by simp)]; exact ownsRR_nil _ _ _ _, Below.refl _ _⟩
  | true =>
    obtain ⟨h1, h2, h3⟩ := goodL_parts hg
    have HG := Lib.hid hg; clear hg
    obtain ⟨i0, hi, hz0, hz1, hz2⟩ := info_parts info_ints
    go_enter Try.func20, Try.ntmps20
    go_wp2_with fail
    refine (implIsWord_any s w hs).mono ?_
    rintro e w1 ⟨rfl, rfl⟩
    rw [HG.out]
    go_wp2_with (refine wpList_bytes _ rfl 9 50 _ rfl 5 Try.underlying9 Try.underlying50 Try.underlying5 s rfl hs ?_; intro w1 cap hb hsz hcap hcm hcell hfr)
    have hz : s.size = s.data.toList.length := by simp
    have hcell2 : ∀ i (h : i < s.data.toList.length), w1.cell? ⟨w.heap.size, i, none⟩ = some (.int .u8 (s.data.toList[i].toNat : Int)) := fun i h => hcell i (by rw [hz]; exact h)
    have hp := runParts_any s.data.toList w.heap.size cap w1 (by rw [← hz]; exact h2) (by rw [← hz]; exact hcap) hcm hsz hcell2
    rw [← hz] at hp
    have HP := Lib.hid hp
    have HB := Lib.hid hb
    have HC := Lib.hid hcell2
    clear hp hcell hcell2 hfr hb hz
    go_wp2_with fail
    refine HP.out.mono ?_
    rintro e w2 ⟨v, rfl, hown, hb2⟩
    have HB2 := Lib.hid hb2
    obtain ⟨rs, hrs⟩ : ∃ rs, rs = runsL s.data.toList := ⟨_, rfl⟩
    have hrows : rowsL s.data.toList = rs.map rowOf := by rw [hrs]; rfl
    have hbd : ∀ k (h : k < rs.length), 49 ≤ rs[k].1.toNat ∧ rs[k].1.toNat ≤ 57 ∧ 1 ≤ rs[k].2 ∧ rs[k].2 ≤ 400 ∧ s.data.toList[cntR (rs.take k)]? = some rs[k].1 := by
      subst hrs; intro k h
      exact ⟨(runs_dig h3 h).1, (runs_dig h3 h).2, runs_pos _ _ (List.getElem_mem h), Nat.le_trans (runs_cnt h) (by simpa using h2), runs_get _ _ h⟩
    rw [← hrs] at hown
    have hN4 : rs.length ≤ 400 := by rw [hrs]; exact Nat.le_trans (runsL_len _) (by simpa using h2)
    obtain ⟨N, hN⟩ : ∃ N, N = rs.length := ⟨_, rfl⟩
    rcases own_open hown with ⟨_, h0, _⟩ | ⟨g, cp, rfl, _, hg, hc1, hc2, _, hcell, _⟩
    · exact absurd h0 (by rw [hrs]; intro e; exact runsL_ne (by simpa using h1) (List.eq_nil_of_length_eq_zero e))
    · have hat : ∀ k (h : k < rs.length), w2.cell? ⟨g, k, none⟩ = some (.slice (some ⟨w.heap.size, 0 + cntR (rs.take k), none⟩) rs[k].2 rs[k].2) := by
        intro k h
        rw [hcell k (by rw [partsV_len]; exact h)]
        have := partsV_at w.heap.size 0 rs k h
        rw [List.getElem?_eq_getElem (by rw [partsV_len]; exact h)] at this
        exact this
      have HA := Lib.hid hat; have HL := Lib.hid hrows; have HD := Lib.hid hbd
      rw [← hN] at hN4 hc1 ⊢
      have HN := Lib.hid hN
      unfold maxLen at hc2
      have hsz2 : w.heap.size < w2.heap.size := Nat.lt_of_lt_of_le hsz HB2.out.size
      clear hown hb2 hrs hrows hbd hcell hat hN
      go_wp2_with (refine wpList_make_own _ rfl _ _ 25 rfl w2.heap.size 52 i0 (.slice none 0 0) 1 Try.underlying25 hi hz0 hz1 .i64 .i64 (N : Int) N rfl rfl rfl (by rw [hz2]; omega) (by unfold maxLen; omega) (Nat.le_refl _) ?_; intro w3 hown hgr)
      have hb3 := (Below.refl w2.heap.size w2).grown hgr (Nat.le_refl _) (fun k h => by cases h)
      have HO : Hid (OwnsRR w3 w2.heap.size 52 3 (.slice (some ⟨w2.heap.size, 0, none⟩) 0 N) [] []) :=
        ⟨hown, rfl, fun i u xs h => by simp at h, fun i j u u' _ h => by simp at h, fun i u h => by simp at h⟩
      have HB3 := Lib.hid hb3
      clear hown hgr hb3
      go_wp2_with fail
      go_loopw [5, 19] (fun v i wr => ∃ k : Nat, k ≤ N ∧ i = .int .i64 k ∧ (∃ vs, Hid (OwnsRR wr w2.heap.size 52 3 v vs ((rs.take k).map rowOf))) ∧ Hid (Below w2.heap.size w2 wr)) (fun _ i _ => N - (intOf i).toNat)
      case atStart => exact ⟨0, Nat.zero_le _, rfl, ⟨[], HO.out⟩, HB3.out⟩
      case round =>
        obtain ⟨k, hk, rfl, ⟨vs, HX⟩, HW⟩ := hrel
        have hszr : w2.heap.size ≤ wr.heap.size := HW.out.size
        by_cases hlt : k < N
        · have hlt' : k < rs.length := by rw [← HN.out]; exact hlt
          have hvl : vs.length ≤ 400 := by rw [← HX.out.len]; simp; omega
          obtain ⟨hd1, hd2, hd3, hd4, hd5⟩ := HD.out k hlt'
          have hlo : cntR (rs.take k) < s.data.toList.length := get_lt hd5
          have hc0 : wr.cell? ⟨g, k, none⟩ = some (.slice (some ⟨w.heap.size, 0 + cntR (rs.take k), none⟩) rs[k].2 rs[k].2) := (HW.out.cell (p := ⟨g, k, none⟩) hg).trans (HA.out k hlt')
          have hcb : wr.cell? ⟨w.heap.size, 0 + cntR (rs.take k), none⟩ = some (.int .u8 (rs[k].1.toNat : Int)) := by
            refine (HW.out.cell (p := ⟨w.heap.size, 0 + cntR (rs.take k), none⟩) hsz2).trans ((HB2.out.cell (p := ⟨w.heap.size, 0 + cntR (rs.take k), none⟩) hsz).trans ?_)
            have := HC.out (cntR (rs.take k)) hlo
            rw [Nat.zero_add, this]
            rw [List.getElem?_eq_getElem hlo] at hd5
            rw [Option.some.inj hd5]
          have hrow : (rs.take (k + 1)).map rowOf = (rs.take k).map rowOf ++ [rowOf rs[k]] := by
            rw [List.take_succ_eq_append_getElem hlt', List.map_append]; rfl
          have HRW := Lib.hid hrow
          obtain ⟨q, hq⟩ : ∃ q, q = rs[k].2 := ⟨_, rfl⟩
          obtain ⟨d, hd⟩ : ∃ d, d = rs[k].1.toNat := ⟨_, rfl⟩
          obtain ⟨o, ho⟩ : ∃ o, o = 0 + cntR (rs.take k) := ⟨_, rfl⟩
          rw [← ho, ← hq] at hc0
          rw [← ho, ← hd] at hcb
          rw [← hd] at hd1 hd2
          rw [← hq] at hd3 hd4
          have HQ := Lib.hid hq; have HDD := Lib.hid hd
          clear hrow hd5 hlo ho hq hd
          go_wp2_with (first
            | (go_at_call 53; refine (digitOf_is _ _ (by omega) (by omega)).mono ?_; rintro e w' ⟨rfl, rfl⟩)
            | (at_builtin; refine wpList_append_own _ rfl _ _ 25 rfl w2.heap.size 52 i0 (.slice none 0 0) 1 24 Try.underlying25 hi hz0 hz1 hz2 rfl (by decide) _ _ _ rfl ((HX.out.outer.alloc _).alloc _) ⟨wr.heap.size + 1, 0, none⟩ 1 1 [.slice (some ⟨wr.heap.size, 0, none⟩) 2 2] rfl rfl ?c1 ?c2 ?c3 ?c4 ?c5 ?_))
          case c1 =>
            intro j u hj
            match j, hj with
            | 0, hj => simp at hj; subst hj; simp [Addr.add]
          case c2 => intro u hu; simp at hu; subst hu; rfl
          case c3 => unfold maxLen; omega
          case c4 => omega
          case c5 => simp; omega
          intro v' w4 hown' hgrow _
          have R1 := Lib.hid (ownsRR_push HX.out [.int .i64 ((d : Int) - 48), .int .i64 (q : Int)] (by simp [maxLen]) hszr hown' hgrow (by decide))
          have R2 := Lib.hid (((HW.out.alloc hszr _).alloc (by simp; omega) _).grown hgrow (by simp; omega) (fun g hg => (HX.out.outer.lt g hg).1))
          clear hown' hgrow
          go_wp2_with fail
          go_roundw
          case rel => exact ⟨k + 1, by omega, by go_num, ⟨_, by rw [HRW.out]; have := R1.out; rw [HQ.out, HDD.out] at this; exact this⟩, R2.out⟩
          case measure => simp [intOf] <;> omega
        · obtain rfl : k = N := by omega
          go_wp2_with fail
          go_ret2
          refine ⟨_, vs, by rw [HG.out]; rfl, ?_, below_trans HB.out (below_trans HB2.out HW.out)⟩
          rw [HG.out, if_pos rfl, HL.out]
          have := HX.out
          rw [List.take_of_length_le (by rw [← HN.out]; exact Nat.le_refl _)] at this
          exact ownsRR_mono this (Nat.le_of_lt hsz2)
end Go.Proofs.Ytclifchdkcidgaa
