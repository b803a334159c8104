/- What is heard: the model's woHear and HearWord. -/
import Derived.Test.YtdlhahigiooddaaI11
namespace Go.Proofs.Ytdlhahigiooddaa
open Go.RowKit Go.BigFrame
set_option linter.unusedSimpArgs false
set_option linter.unusedVariables false
set_option maxRecDepth 4000

theorem rowsH_runs {s : ByteArray} (hd : s.data.toList.all digB = true) (he : s.size % 2 = 0) : ∀ r ∈ rowsH s.data.toList, isRunB r = true := by
  intro r hr
  obtain ⟨k, hk, rfl⟩ := List.getElem_of_mem hr
  have hk2 := hk
  rw [rowsH_len] at hk2
  have hl : s.data.toList.length = s.size := by simp
  have h1 := dig_at s hd (2 * k + 1) (by omega)
  have h2 := dig_at s hd (2 * k) (by omega)
  rw [rowsH_get _ _ hk]
  have e1 : s.data.toList.getD (2 * k + 1) 0 = s[2 * k + 1]'(by omega) := by rw [List.getD_eq_getElem?_getD, List.getElem?_eq_getElem (by omega)]; rfl
  have e2 : s.data.toList.getD (2 * k) 0 = s[2 * k]'(by omega) := by rw [List.getD_eq_getElem?_getD, List.getElem?_eq_getElem (by omega)]; rfl
  rw [e1, e2]
  obtain ⟨a1, a2⟩ := h1
  obtain ⟨b1, b2⟩ := h2
  generalize s[2 * k + 1]'(by omega) = x at a1 a2 ⊢
  generalize s[2 * k]'(by omega) = y at b1 b2 ⊢
  unfold isRunB
  refine decide_eq_true ⟨rfl, ?_, ?_, ?_⟩
  · show (1 : Int) ≤ (x.toNat : Int) - 48; omega
  · show (x.toNat : Int) - 48 ≤ 9; omega
  · show (1 : Int) ≤ (y.toNat : Int) - 48; omega
theorem rowsH_at (s : ByteArray) (j : Nat) (k : Nat) (hj : j = 2 * k) (h : j + 1 < s.size) : (rowsH s.data.toList)[k]'(by rw [rowsH_len]; simp; omega) = [((s[j + 1]).toNat : Int) - 48, ((s[j]).toNat : Int) - 48] := by
  subst hj
  have hl : s.data.toList.length = s.size := by simp
  rw [rowsH_get]
  have e1 : s.data.toList.getD (2 * k + 1) 0 = s[2 * k + 1]'(by omega) := by rw [List.getD_eq_getElem?_getD, List.getElem?_eq_getElem (by omega)]; rfl
  have e2 : s.data.toList.getD (2 * k) 0 = s[2 * k]'(by omega) := by rw [List.getD_eq_getElem?_getD, List.getElem?_eq_getElem (by omega)]; rfl
  rw [e1, e2]

set_option maxHeartbeats 2000000 in
theorem woHear_any (s : ByteArray) (w : World) (hs : s.size ≤ maxLen) :
    Calls Try.prog 80 #[.string s] w fun e w' => e = .returned (strOk (hearO s.data.toList)) ∧ Below w.heap.size w w' := by
  have hl : s.data.toList.length = s.size := by simp
  cases hg : goodL s.data.toList with
  | false =>
    have ho : hearO s.data.toList = none := by unfold hearO; rw [if_neg (by rw [hg]; simp)]
    have HG := Lib.hid hg; have HO := Lib.hid ho; clear hg ho hl
    go_enter Try.func80, Try.ntmps80
    go_wp2_with fail
    refine (woGood_any s w hs).mono ?_
    rintro e w1 ⟨rfl, rfl⟩
    rw [HG.out]
    go_wp2_with fail
    go_ret2
    exact ⟨by rw [HO.out]; rfl, Below.refl _ _⟩
  | true =>
    obtain ⟨h1, h2, h3⟩ := goodL_parts hg
    by_cases hev : s.size % 2 = 0
    · obtain ⟨N, hN⟩ : ∃ N, s.size = 2 * N := ⟨s.size / 2, by omega⟩
      have hrn := rowsH_runs h3 hev
      have ho : hearO s.data.toList = match hearL (rowsH s.data.toList) with
        | some (t, _) => if goodL t = true then some t else none
        | none => none := by unfold hearO; rw [if_pos ⟨hg, by rw [hl]; exact hev⟩, wordO_hear _ hrn]; cases hearL (rowsH s.data.toList) <;> rfl
      have hlen : (rowsH s.data.toList).length = N := by rw [rowsH_len, hl]; omega
      have hev2 : ((s.size : Int) % 2) = 0 := by omega
      have hev3 : ((s.size : Int).tmod 2) = 0 := by rw [Int.tmod_eq_emod_of_nonneg (by omega)]; omega
      have HG := Lib.hid hg; have HD := Lib.hid h3; have HO := Lib.hid ho; have HLEN := Lib.hid hlen; have HN := Lib.hid hN
      clear hg h3 ho hl hrn hlen hev hN
      go_enter Try.func80, Try.ntmps80
      go_wp2_with fail
      refine (woGood_any s w hs).mono ?_
      rintro e w1 ⟨rfl, rfl⟩
      rw [HG.out]
      go_wp2_with fail
      go_loopw [4, 5] (fun o i wr => ∃ (j k : Nat) (t : List UInt8) (b : Int), j = 2 * k ∧ k ≤ N ∧ i = .int .i64 (j : Int) ∧ o = .string (bs t) ∧ t.length ≤ 9 * k ∧ Hid (hearL ((rowsH s.data.toList).take k) = some (t, b) ∧ (∀ m : Nat, j = m + 2 → ∃ hm : m + 1 < s.size, b = ((s[m + 1]).toNat : Int) - 48) ∧ (j = 0 → b = 0) ∧ Below w.heap.size w wr)) (fun _ i _ => s.size - (intOf i).toNat)
      case atStart => exact ⟨0, 0, [], 0, rfl, Nat.zero_le _, rfl, rfl, Nat.zero_le _, rfl, fun m hm => by omega, fun _ => rfl, below_refl _⟩
      case round =>
        obtain ⟨j, k, t, b, hj, hk, rfl, rfl, ht, HX⟩ := hrel
        by_cases hlt : j + 1 < s.size
        · have hlt2 : k < (rowsH s.data.toList).length := by rw [HLEN.out]; have := HN.out; omega
          have hj1 : j < s.size := Nat.lt_of_succ_lt hlt
          have hstep : hearL ((rowsH s.data.toList).take (k + 1)) = hearStep (some (t, b)) [((s[j + 1]).toNat : Int) - 48, ((s[j]'hj1).toNat : Int) - 48] := by rw [hearL_succ _ k hlt2, rowsH_at s j k hj hlt, HX.out.1]
          unfold hearStep at hstep
          simp only [List.getD_cons_zero, List.getD_cons_succ] at hstep
          obtain ⟨a1, a2⟩ := dig_at s HD.out (j + 1) hlt
          obtain ⟨b1, b2⟩ := dig_at s HD.out j hj1
          rw [show ((s[j].toNat : Int) - 48).toNat = s[j].toNat - 48 from by omega] at hstep
          have HST := Lib.hid hstep; clear hstep
          have hsz : (bs t).size ≤ 1800 := by rw [bs_size]; have := HN.out; omega
          have hk1 : k + 1 ≤ N := by have := HN.out; omega
          have htm := fun (W : World) => woTimes_any ((s[j + 1].toNat : Int) - 48) (s[j].toNat - 48) W (by omega) (by omega) (by omega)
          rw [show (((s[j].toNat - 48 : Nat)) : Int) = (s[j].toNat : Int) - 48 by omega] at htm
          have hsz2 : (bs (List.replicate (s[j].toNat - 48) (dgw ((s[j + 1].toNat : Int) - 48)))).size ≤ 9 := by rw [bs_size, List.length_replicate]; omega
          have HTM := Lib.hid htm; clear htm
          have HJ := Lib.hid hj; clear hj
          rcases Nat.eq_zero_or_pos j with hz | hz
          · have hne : (s[j + 1].toNat : Int) - 48 ≠ b := by rw [HX.out.2.2.1 hz]; omega
            have hst2 := HST.out
            rw [if_pos hne] at hst2
            have HS2 := Lib.hid hst2; clear hst2 hne HST
            have hp : ¬ (0 : Int) < (j : Int) := by omega
            have hp2 : ¬ 0 < j := by omega
            have hp3 : decide (0 < j) = false := decide_eq_false hp2
            have HZ := Lib.hid hz; clear hz
            have g3 : (0 : Int) ≤ (j : Int) + 1 := by omega
            have g5 : IntKind.i64.wrap ((j : Int) + 1) = (j : Int) + 1 := IntWalk.i64_in _ (by omega)
            have t3 : ((j : Int) + 1).toNat = j + 1 := by omega
            have i2 : (j : Int) < (s.size : Int) := by omega
            have i3 : (j : Int) + 1 < (s.size : Int) := by omega
            have z1 : IntKind.u8.wrap ((s[j + 1].toNat : Int) - 48) = (s[j + 1].toNat : Int) - 48 := IntWalk.u8_in _ (by omega)
            have z2 : IntKind.i64.wrap ((s[j + 1].toNat : Int) - 48) = (s[j + 1].toNat : Int) - 48 := IntWalk.i64_in _ (by omega)
            have z3 : IntKind.u8.wrap ((s[j].toNat : Int) - 48) = (s[j].toNat : Int) - 48 := IntWalk.u8_in _ (by omega)
            have z4 : IntKind.i64.wrap ((s[j].toNat : Int) - 48) = (s[j].toNat : Int) - 48 := IntWalk.i64_in _ (by omega)
            go_wp2_with fail
            go_quiet (fail)
            go_wp2_with fail
            go_region_with (go_at_call 77; (refine (HTM.out _).mono ?_); rintro e w2 ⟨rfl, hb2⟩)
            all_goals
              have HB2 := Lib.hid hb2; clear hb2
              go_wp2_with fail
              go_roundw
              case rel =>
                refine ⟨j + 2, k + 1, _, _, by have := HJ.out; omega, hk1, by go_num, by rw [bs_append], ?_, HS2.out, ?_, ?_, below_trans HX.out.2.2.2 (below_trans (belowN _ _ _) HB2.out)⟩
                · rw [List.length_append, List.length_replicate]; omega
                · rintro m' hm'
                  obtain rfl : m' = j := by omega
                  exact ⟨hlt, rfl⟩
                · intro h; omega
              case measure => simp [intOf] <;> omega
          rcases j with _ | _ | m
          · exact absurd hz (by omega)
          · exact absurd HJ.out (by omega)
          · have g1 : (0 : Int) ≤ (m : Int) + 1 := by omega
            have g2 : (0 : Int) ≤ (m : Int) + 1 + 1 := by omega
            have g3 : (0 : Int) ≤ (m : Int) + 1 + 1 + 1 := by omega
            have g4 : (0 : Int) < (m : Int) + 1 + 1 := by omega
            have g5 : IntKind.i64.wrap ((m : Int) + 1 + 1 + 1) = (m : Int) + 1 + 1 + 1 := IntWalk.i64_in _ (by omega)
            have g6 : IntKind.i64.wrap ((m : Int) + 1) = (m : Int) + 1 := IntWalk.i64_in _ (by omega)
            have g7 : (m : Int) + 1 + 1 - 1 = (m : Int) + 1 := by omega
            have t1 : ((m : Int) + 1).toNat = m + 1 := by omega
            have t2 : ((m : Int) + 1 + 1).toNat = m + 1 + 1 := by omega
            have t3 : ((m : Int) + 1 + 1 + 1).toNat = m + 1 + 1 + 1 := by omega
            have i1 : (m : Int) + 1 < (s.size : Int) := by omega
            have i2 : (m : Int) + 1 + 1 < (s.size : Int) := by omega
            have i3 : (m : Int) + 1 + 1 + 1 < (s.size : Int) := by omega
            have z1 : IntKind.u8.wrap ((s[m + 1 + 1 + 1].toNat : Int) - 48) = (s[m + 1 + 1 + 1].toNat : Int) - 48 := IntWalk.u8_in _ (by omega)
            have z2 : IntKind.i64.wrap ((s[m + 1 + 1 + 1].toNat : Int) - 48) = (s[m + 1 + 1 + 1].toNat : Int) - 48 := IntWalk.i64_in _ (by omega)
            have z3 : IntKind.u8.wrap ((s[m + 1 + 1].toNat : Int) - 48) = (s[m + 1 + 1].toNat : Int) - 48 := IntWalk.u8_in _ (by omega)
            have z4 : IntKind.i64.wrap ((s[m + 1 + 1].toNat : Int) - 48) = (s[m + 1 + 1].toNat : Int) - 48 := IntWalk.i64_in _ (by omega)
            have n1 : m + 1 < s.size := by omega
            have n2 : m + 1 + 1 < s.size := by omega
            obtain ⟨hm1, hb⟩ := HX.out.2.1 m rfl
            by_cases heq : s[m + 1 + 1 + 1] = s[m + 1]
            · have HEQ := Lib.hid heq
              have hnn : hearO s.data.toList = none := by
                have := HST.out
                rw [if_neg (by rw [hb, heq]; simp)] at this
                rw [HO.out, hearL_none _ _ this]
              have HNN := Lib.hid hnn
              have hq : ((s[m + 1 + 1 + 1].toNat : Int) == (s[m + 1].toNat : Int)) = true := by rw [heq]; simp
              have hq2 : (s[m + 1 + 1 + 1].toNat : Int) = (s[m + 1].toNat : Int) := by rw [heq]
              clear heq hnn
              go_wp2_with fail
              go_quiet (fail)
              go_wp2_with fail
              go_ret2
              exact ⟨by rw [HNN.out]; rfl, below_trans HX.out.2.2.2 (belowN _ _ _)⟩
            · have hne : (s[m + 1 + 1 + 1].toNat : Int) - 48 ≠ b := by
                rw [hb]; intro h; exact heq (UInt8.toNat_inj.1 (by omega))
              have hst2 := HST.out
              rw [if_pos hne] at hst2
              have HS2 := Lib.hid hst2; clear hst2 hne HST
              have hq2 : ¬ (s[m + 1 + 1 + 1].toNat : Int) = (s[m + 1].toNat : Int) := by intro h; exact heq (UInt8.toNat_inj.1 (by omega))
              have hq : ((s[m + 1 + 1 + 1].toNat : Int) == (s[m + 1].toNat : Int)) = false := by simpa using hq2
              have HEQ := Lib.hid heq
              clear heq
              go_wp2_with fail
              go_quiet (fail)
              go_wp2_with fail
              go_region_with (go_at_call 77; (refine (HTM.out _).mono ?_); rintro e w2 ⟨rfl, hb2⟩)
              all_goals
                have HB2 := Lib.hid hb2; clear hb2
                go_wp2_with fail
                go_roundw
                case rel =>
                  refine ⟨m + 1 + 1 + 2, k + 1, _, _, by have := HJ.out; omega, hk1, by go_num, by rw [bs_append], ?_, HS2.out, ?_, ?_, below_trans HX.out.2.2.2 (below_trans (belowN _ _ _) HB2.out)⟩
                  · rw [List.length_append, List.length_replicate]; omega
                  · rintro m' hm'
                    obtain rfl : m' = m + 1 + 1 := by omega
                    exact ⟨hlt, rfl⟩
                  · intro h; omega
                case measure => simp [intOf] <;> omega
        · obtain rfl : j = s.size := by have := HN.out; omega
          obtain rfl : k = N := by have := HN.out; omega
          have hsz : (bs t).size ≤ maxLen := by rw [bs_size]; unfold maxLen; omega
          have hgd := fun (W : World) => woGood_any (bs t) W hsz
          rw [bs_list] at hgd
          have HGD := Lib.hid hgd; clear hgd
          have hho := HO.out
          rw [show hearL (rowsH s.data.toList) = some (t, b) from by rw [← HX.out.1, List.take_of_length_le (by rw [HLEN.out]; exact Nat.le_refl _)]] at hho
          cases hgt : goodL t with
          | false =>
            have hnn : hearO s.data.toList = none := by rw [hho]; simp [hgt]
            have HNN := Lib.hid hnn; have HGT := Lib.hid hgt; clear hnn hho hgt
            go_wp2_with fail
            refine (HGD.out _).mono ?_
            rintro e w2 ⟨rfl, rfl⟩
            rw [HGT.out]
            go_wp2_with fail
            go_ret2
            exact ⟨by rw [HNN.out]; rfl, HX.out.2.2.2⟩
          | true =>
            have hnn : hearO s.data.toList = some t := by rw [hho]; simp [hgt]
            have HNN := Lib.hid hnn; have HGT := Lib.hid hgt; clear hnn hho hgt
            go_wp2_with fail
            refine (HGD.out _).mono ?_
            rintro e w2 ⟨rfl, rfl⟩
            rw [HGT.out]
            go_wp2_with fail
            go_ret2
            exact ⟨by rw [HNN.out]; rfl, HX.out.2.2.2⟩
    · have ho : hearO s.data.toList = none := by unfold hearO; rw [if_neg (fun h => hev (by rw [← hl]; exact h.2))]
      have hev2 : ((s.size : Int) % 2) = 1 := by omega
      have hev3 : ((s.size : Int).tmod 2) = 1 := by rw [Int.tmod_eq_emod_of_nonneg (by omega)]; omega
      have HG := Lib.hid hg; have HO := Lib.hid ho; clear hg ho hl hev h3
      go_enter Try.func80, Try.ntmps80
      go_wp2_with fail
      refine (woGood_any s w hs).mono ?_
      rintro e w1 ⟨rfl, rfl⟩
      rw [HG.out]
      go_wp2_with fail
      go_ret2
      exact ⟨by rw [HO.out]; rfl, Below.refl _ _⟩

theorem specHearWord_any (s : ByteArray) (w : World) (hs : s.size ≤ maxLen) :
    Calls Try.prog 37 #[.string s] w fun e w' => e = .returned (strOk (hearO s.data.toList)) ∧ Below w.heap.size w w' := by
  cases ho : hearO s.data.toList
  all_goals
    have hc := woHear_any s w hs
    rw [ho] at hc
    have HC := Lib.hid hc; clear hc ho
    go_enter Try.func37, Try.ntmps37
    go_wp2_with fail
    refine HC.out.mono ?_
    rintro e w1 ⟨rfl, hb⟩
    have HB := Lib.hid hb; clear hb
    unfold strOk
    go_wp2_with fail
    go_ret2
    exact ⟨rfl, HB.out⟩
end Go.Proofs.Ytdlhahigiooddaa
