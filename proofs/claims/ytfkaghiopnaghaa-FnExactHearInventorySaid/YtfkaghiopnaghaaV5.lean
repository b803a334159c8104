/- HearInventory: the model's side, and the law. -/
import Derived.Test.YtfkaghiopnaghaaV4
namespace Go.Proofs.Ytfkaghiopnaghaa
open Go.RowKit Go.BigFrame
set_option linter.unusedSimpArgs false
set_option linter.unusedVariables false
set_option maxRecDepth 4000

theorem sum_set0 : ∀ (ts : List Nat) (i x : Nat), ts[i]? = some 0 → (ts.set i x).sum = ts.sum + x
  | [], i, x, h => by simp at h
  | a :: r, 0, x, h => by simp at h; subst h; simp; omega
  | a :: r, i + 1, x, h => by
    have := sum_set0 r i x (by simpa using h)
    simp; omega
theorem toldL_none_iff {l : List UInt8} (h : isInvL l = false) : toldL l = none := by
  have := toldL_isSome l
  rw [h] at this
  cases ht : toldL l with
  | none => rfl
  | some ts => rw [ht] at this; cases this
theorem toldL_some_of {l : List UInt8} (h : isInvL l = true) : ∃ ts, toldL l = some ts := by
  have := toldL_isSome l
  rw [h] at this
  exact Option.isSome_iff_exists.1 this

set_option maxHeartbeats 4000000 in
theorem specHearInventory_any (s : ByteArray) (w : World) (hs : s.size ≤ maxLen) :
    Calls Try.prog 34 #[.string s] w fun e w' => HeardOk (hearLO s.data.toList) w w' e := by
  have h1 := taIs_any s w hs
  have hlen : s.data.toList.length = s.size := by simp
  unfold maxLen at hs
  cases hin : isInvL s.data.toList with
  | false =>
    have ht := toldL_none_iff hin
    have hO : hearLO s.data.toList = none := by unfold hearLO; rw [ht]
    rw [hin] at h1
    rw [hO]
    have H1 := Lib.hid h1; clear h1 ht hO hlen hin
    go_enter Try.func34, Try.ntmps34
    go_wp2_with fail
    refine H1.out.mono ?_
    rintro e w1 ⟨rfl, hb⟩
    have HB := Lib.hid hb; clear hb
    go_wp2_with fail
    go_ret2
    exact ⟨_, rfl, .inl ⟨rfl, rfl⟩, HB.out⟩
  | true =>
    obtain ⟨ts, ht⟩ := toldL_some_of hin
    obtain ⟨hg, h9, hle⟩ := toldL_facts ht
    rw [hin] at h1
    by_cases h6 : s.size ≤ 6
    · obtain ⟨i0, hi, hz0, hz1, hz2⟩ := info_parts info_intT
      obtain ⟨hg1, hg2, hd⟩ := goodL_parts (s := s) hg
      have hT : toldF 0 zeros9 s.data.toList = some ts := by have := ht; unfold toldL at this; rw [if_pos hg] at this; exact this
      have hev : s.size % 2 = 0 := by
        by_cases he : s.size % 2 = 0
        · exact he
        · have := toldF_odd s.data.toList 0 zeros9 (by omega)
          rw [hT] at this; cases this
      obtain ⟨o, ho⟩ : ∃ o, o = hearLO s.data.toList := ⟨_, rfl⟩
      rw [← ho]
      have hO : o = if ts.sum ≤ 7 then some (heardL ts.sum ts []) else none := by
        rw [ho]; unfold hearLO; rw [ht]; dsimp only
        by_cases h7 : ts.sum ≤ 7
        · rw [if_pos ⟨by omega, h7⟩, if_pos h7]
        · rw [if_neg (fun h => h7 h.2), if_neg h7]
      have H1 := Lib.hid h1; have HD := Lib.hid hd; have HT := Lib.hid hT; have HEV := Lib.hid hev; have HO := Lib.hid hO; have H9 := Lib.hid h9; have HLE := Lib.hid hle
      clear h1 hd hT hev hO ho ht hg hin hlen h9 hle
      go_enter Try.func34, Try.ntmps34
      go_wp2_with fail
      refine H1.out.mono ?_
      rintro e w1 ⟨rfl, hb⟩
      have HB := Lib.hid hb; clear hb
      go_wp2_with (refine wpList_make_full _ rfl _ _ 22 rfl w1.heap.size 3 i0 (.int .i64 0) 1 Try.underlying22 hi hz0 hz1 .i64 .i64 9 9 9 rfl rfl rfl rfl (by rw [hz2]; omega) (by unfold maxLen; omega) (Nat.le_refl _) ?_; intro w2 hown hgr; have HOW := Lib.hid hown; have HB2 := Lib.hid ((Below.refl w1.heap.size w1).grown hgr (Nat.le_refl _) (fun k h => by cases h)); clear hown hgr)
      go_loopw [5, 6] (fun lv iv wr => ∃ (j b m : Nat) (acc : List Nat), j % 2 = 0 ∧ j ≤ s.size ∧ b ≤ 9 ∧ m ≤ 9 * j ∧ iv = .int .i64 (j : Int) ∧ lv = .int .i64 (m : Int) ∧ Hid (m = acc.sum ∧ acc.length = 9 ∧ (∀ i, b ≤ i → i < 9 → acc[i]? = some 0) ∧ toldF b acc (s.data.toList.drop j) = some ts ∧ wr.ownsRow w1.heap.size 3 1 (.slice (some ⟨w1.heap.size, 0, none⟩) 9 9) 9 (tvl acc) ∧ Below w1.heap.size w1 wr)) (fun _ i _ => s.size - (intOf i).toNat)
      case atStart =>
        refine ⟨0, 0, 0, zeros9, rfl, Nat.zero_le _, by omega, by omega, rfl, rfl, rfl, rfl, fun i _ hi => zeros9_get i hi, HT.out, ?_, HB2.out⟩
        have e : (madeCells (Value.int .i64 0).cells (9 * 1)).toList = tvl zeros9 := by rw [Nat.mul_one]; exact toList_madeCells_one _ _
        exact e ▸ HOW.out
      case round =>
        obtain ⟨j, b, m, acc, hj, hjs, hb, hm, rfl, rfl, HX⟩ := hrel
        by_cases hlt : j + 1 < s.size
        · have hlt0 : j < s.size := by omega
          obtain ⟨a1, a2⟩ := digs_at HD.out (j + 1) hlt
          obtain ⟨b1, b2⟩ := digs_at HD.out j hlt0
          have hst := HX.out.2.2.2.1
          rw [drop2 s j hlt] at hst
          unfold toldF at hst
          obtain ⟨d, hdd⟩ : ∃ d, s[j + 1].toNat = d + 49 := ⟨s[j + 1].toNat - 49, by omega⟩
          obtain ⟨n, hnn⟩ : ∃ n, s[j].toNat = n + 48 := ⟨s[j].toNat - 48, by omega⟩
          have hi0 : s[j + 1].toNat - 49 = d := by omega
          rw [show s[j + 1].toNat - 48 = d + 1 from by omega, show s[j].toNat - 48 = n from by omega, hi0] at hst
          have hc : ¬ d + 1 ≤ b := by
            intro hc
            rw [if_pos hc] at hst
            cases hst
          rw [if_neg hc] at hst
          have hd9 : d < 9 := by omega
          have hn9 : n ≤ 9 := by omega
          have hac := HX.out.2.2.1 d (by omega) hd9
          have h1 : wr.cell? ⟨w1.heap.size, d, none⟩ = some (.int .i64 0) := by
            rw [HX.out.2.2.2.2.1.cellAt d (by omega)]; simp [tvl, hac]
          have h2 : wr.frozen? ⟨w1.heap.size, d, none⟩ = false := HX.out.2.2.2.2.1.frozenAt d
          have hsd : (s[j + 1].toNat : Int) = (d : Int) + 49 := by omega
          have hsn : (s[j].toNat : Int) = (n : Int) + 48 := by omega
          have t3 : ((j : Int) + 1).toNat = j + 1 := by omega
          have g3 : (0 : Int) ≤ (j : Int) + 1 := by omega
          have g5 : IntKind.i64.wrap ((j : Int) + 1) = (j : Int) + 1 := IntWalk.i64_in _ (by omega)
          have i2 : (j : Int) < (s.size : Int) := by omega
          have i3 : (j : Int) + 1 < (s.size : Int) := by omega
          have z1 : IntKind.u8.wrap ((d : Int) + 49 - 49) = (d : Int) := by rw [show (d : Int) + 49 - 49 = d from by omega]; exact IntWalk.u8_in _ (by omega)
          have z2 : IntKind.u8.wrap ((n : Int) + 48 - 48) = (n : Int) := by rw [show (n : Int) + 48 - 48 = n from by omega]; exact IntWalk.u8_in _ (by omega)
          have z3 : IntKind.u8.wrap (d : Int) = (d : Int) := IntWalk.u8_in _ (by omega)
          have z4 : IntKind.u8.wrap (n : Int) = (n : Int) := IntWalk.u8_in _ (by omega)
          have z5 : IntKind.i64.wrap (n : Int) = (n : Int) := IntWalk.i64_in _ (by omega)
          have d0 : (0 : Int) ≤ (d : Int) := by omega
          have d9 : (d : Int) < 9 := by omega
          have HST := Lib.hid hst; have HJ := Lib.hid hj; have HAC := Lib.hid hac; have HC := Lib.hid hc
          clear hst hdd hnn hi0 a1 a2 b1 b2 hj hac hc
          go_wp2_with fail
          go_region_with (fail)
          all_goals
            go_wp2_with fail
            go_roundw
            case rel =>
              have hst' := (own_below HX.out.2.2.2.2.1 (below_drew wr)).stored d (.int .i64 (n : Int))
              refine ⟨j + 2, d + 1, m + n, acc.set d n, by have := HJ.out; omega, by omega, by omega, by omega, by go_num, by go_num, ?_, by simpa using HX.out.2.1, ?_, HST.out, ?_, ?_⟩
              · rw [sum_set0 acc d n HAC.out, ← HX.out.1]
              · intro i h1 h2
                rw [List.getElem?_set_ne (by omega)]
                exact HX.out.2.2.1 i (by
                  have : d + 1 ≤ i := h1
                  have hb' : b ≤ d := by
                    apply Classical.byContradiction
                    intro hh
                    exact HC.out (by omega)
                  omega) h2
              · rw [tvl, List.map_set]
                exact hst'.1
              · exact (HX.out.2.2.2.2.2.drew).setCell (p := ⟨w1.heap.size, d, none⟩) (Nat.le_refl _) _
            case measure => simp [intOf] <;> omega
        · have hend : j = s.size := by have := HEV.out; omega
          subst hend
          have hst := HX.out.2.2.2.1
          rw [List.drop_of_length_le (by simp)] at hst
          simp only [toldF, Option.some.injEq] at hst
          subst hst
          have hm' := HX.out.1
          have hrow : IntsA wr w1.heap.size (.slice (some ⟨w1.heap.size, 0, none⟩) 9 9) (ti acc) := intsA_of (by
            have := HX.out.2.2.2.2.1
            rw [tvl_ti] at this
            unfold Ints
            simpa [ti_len, HX.out.2.1] using this)
          by_cases h7 : m ≤ 7
          · have hoo : o = some (heardL m acc []) := by rw [HO.out, if_pos (by omega), hm']
            have hth := taHeard_any m acc [] wr _ _ HX.out.2.1 hm'.symm h7 (by simpa using h7) hrow
            obtain ⟨ls, hls⟩ : ∃ ls, ls = heardL m acc [] := ⟨_, rfl⟩
            rw [← hls] at hoo hth
            have hth2 : Calls Try.prog 55 #[.slice (some ⟨w1.heap.size, 0, none⟩) 9 9, .string { data := #[] }] wr fun e w' => TextsOk ls wr w' e := hth
            have HTH := Lib.hid hth2; have HOO := Lib.hid hoo
            clear hth hth2 hoo hls hrow hm'
            go_wp2_with fail
            refine HTH.out.mono ?_
            rintro e w3 ⟨g, c, rfl, ho3, hb3⟩
            have HO3 := Lib.hid ho3; have HB3 := Lib.hid hb3; clear ho3 hb3
            have HBB := Lib.hid (below_trans HB.out HX.out.2.2.2.2.2)
            go_wp2_with fail
            go_ret2
            rw [HOO.out]
            exact ⟨_, rfl, textsOk_O (w := w) (own_mono HO3.out HBB.out.size), below_trans HBB.out HB3.out⟩
          · have hoo : o = none := by rw [HO.out, if_neg (by omega)]
            have HOO := Lib.hid hoo
            clear hoo hrow hm'
            go_wp2_with fail
            go_ret2
            rw [HOO.out]
            exact ⟨_, rfl, .inl ⟨rfl, rfl⟩, below_trans HB.out HX.out.2.2.2.2.2⟩
    · have hO : hearLO s.data.toList = none := by unfold hearLO; rw [ht]; dsimp only; rw [if_neg (fun h => h6 (by omega))]
      rw [hO]
      have H1 := Lib.hid h1; clear h1 ht hO hlen hin hle hg
      go_enter Try.func34, Try.ntmps34
      go_wp2_with fail
      refine H1.out.mono ?_
      rintro e w1 ⟨rfl, hb⟩
      have HB := Lib.hid hb; clear hb
      go_wp2_with fail
      go_ret2
      exact ⟨_, rfl, .inl ⟨rfl, rfl⟩, HB.out⟩

theorem hearLO_len (l : List UInt8) : ((hearLO l).getD []).length ≤ 2000000000 := by
  unfold hearLO
  cases ht : toldL l with
  | none => simp
  | some ts =>
    dsimp only
    split
    · rename_i h
      have h9 := (toldL_facts ht).2.1
      have h1 := (heardL_facts ts.sum ts [] h9 rfl).2
      have h2 : 9 ^ ts.sum ≤ 9 ^ 7 := Nat.pow_le_pow_right (by omega) h.2
      have h3 : 9 ^ 7 = 4782969 := by decide
      rw [Option.getD_some]
      omega
    · simp

set_option maxHeartbeats 1000000 in
theorem law_HearInventory (s : ByteArray) (w : World) (hs : s.size ≤ maxLen) :
    Calls Try.prog 11 #[.string s] w fun e w' => e = .returned (.bool true) ∧ Below w.heap.size w w' := by
  by_cases hb : 1048576 < s.size
  · go_enter Try.func11, Try.ntmps11
    go_wp2_with fail
    go_ret
    exact ⟨rfl, Below.refl _ _⟩
  · obtain ⟨o, ho⟩ : ∃ o, o = hearLO s.data.toList := ⟨_, rfl⟩
    have hlen : (o.getD []).length ≤ 2000000000 := by rw [ho]; exact hearLO_len _
    obtain ⟨y, hy⟩ : ∃ y, y = o.isSome := ⟨_, rfl⟩
    obtain ⟨ls, hls⟩ : ∃ ls, ls = o.getD [] := ⟨_, rfl⟩
    obtain ⟨tt, ht⟩ : ∃ tt, tt = 1 + ls.length := ⟨_, rfl⟩
    have ht2 : tt ≤ 2000000001 := by rw [ht, hls]; omega
    have ht1 : 1 ≤ tt := by omega
    have e1 : ((tt : Int) != (tt : Int)) = false := by simp
    have e2 : (y != y) = false := by simp
    have hspec := fun (W : World) => specHearInventory_any s W hs
    have himpl := fun (W : World) => implHearInventory_any s W hs
    rw [← ho] at hspec himpl
    have hopen : ∀ (W W' : World) (e : Ending), HeardOk o W W' e → ∃ v, e = .returned (.tuple #[v, .bool y]) ∧ StrsO W' W.heap.size v ls ∧ Below W.heap.size W W' := by
      rintro W W' e ⟨v, h1, h2, h3⟩
      exact ⟨v, by rw [hy]; exact h1, by rw [hls]; exact h2, h3⟩
    have HS := Lib.hid hspec; have HI := Lib.hid himpl; have HO := Lib.hid hopen; have HT := Lib.hid ht; have HTT := Lib.hid ht2
    clear hy hls ht ho hlen hspec himpl hopen
    go_enter Try.func11, Try.ntmps11
    go_wp2_with fail
    refine (HS.out w).mono ?_
    intro e w1 h1
    obtain ⟨v0, rfl, h2, h3⟩ := HO.out _ _ _ h1
    have A1 := Lib.hid h2; have B1 := Lib.hid h3; clear h1 h2 h3
    go_wp2_with fail
    refine (HI.out w1).mono ?_
    intro e w2 h1
    obtain ⟨v1, rfl, h2, h3⟩ := HO.out _ _ _ h1
    have A2 := Lib.hid h2; have B2 := Lib.hid h3; clear h1 h2 h3
    go_wp2_with fail
    refine (eqStringO_same w2 _ _ v1 v0 ls A2.out (strsO_below A1.out B2.out)).mono ?_
    rintro e w3 ⟨rfl, h3⟩
    have B3 := Lib.hid h3; clear h3
    go_wp2_with fail
    refine (markStringO_any w3 _ 1 v1 ls (strsO_below A2.out B3.out) (Nat.le_trans B2.out.size B3.out.size) (by have h1 := HT.out; have h2 := HTT.out; omega)).mono ?_
    rintro e w4 ⟨rfl, h4, h5⟩
    rw [← HT.out]
    have A4 := Lib.hid h4; have B4 := Lib.hid h5; clear h4 h5
    go_wp2_with fail
    refine (heldStringO_any w4 _ 1 _ v1 A4.out (by have h1 := HT.out; have h2 := HTT.out; omega)).mono ?_
    rintro e w5 ⟨rfl, h5⟩
    rw [← HT.out]
    have B5 := Lib.hid h5; clear h5
    go_wp2_with fail
    refine (HI.out w5).mono ?_
    intro e w6 h1
    obtain ⟨v6, rfl, h2, h3⟩ := HO.out _ _ _ h1
    have A6 := Lib.hid h2; have B6 := Lib.hid h3; clear h1 h2 h3
    go_wp2_with fail
    have C6 := Lib.hid (below_trans (below_trans ((below_trans B2.out B3.out).trans B4.out) B5.out) B6.out)
    have A1' : Hid (StrsO w6 w.heap.size v0 ls) := strsO_below A1.out C6.out
    refine (eqStringO_same w6 _ _ v6 v0 ls A6.out A1'.out).mono ?_
    rintro e w7 ⟨rfl, h7⟩
    have B7 := Lib.hid h7; clear h7
    go_wp2_with fail
    refine (heldStringO_any w7 _ 1 _ v1 (strsO_below A4.out (below_trans B5.out (below_trans B6.out B7.out))) (by have h1 := HT.out; have h2 := HTT.out; omega)).mono ?_
    rintro e w8 ⟨rfl, h8⟩
    rw [← HT.out]
    have B8 := Lib.hid h8; clear h8
    go_wp2_with fail
    go_ret
    exact ⟨rfl, below_trans B1.out (below_trans C6.out (below_trans B7.out B8.out))⟩

end Go.Proofs.Ytfkaghiopnaghaa
