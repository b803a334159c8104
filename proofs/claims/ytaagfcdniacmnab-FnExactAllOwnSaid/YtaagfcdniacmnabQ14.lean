/- AllOwn: the model's. -/
import Derived.Test.YtaagfcdniacmnabQ13
namespace Go.Proofs.Ytaagfcdniacmnab
open Go.RowKit Go.BigFrame
set_option linter.unusedSimpArgs false
set_option linter.unusedVariables false
set_option maxRecDepth 4000

/-- All own inventories with no digit greater than n, in order. -/
def ownO (n : Int) : Option (List (List UInt8)) := if 1 ≤ n ∧ n ≤ 6 then some (((prs n.toNat n.toNat 0 []).filter isOwnL).mergeSort fun x y => decide (x ≤ y)) else none

set_option maxHeartbeats 2000000 in
theorem specAllOwn_any (w : World) (n : Int) : Calls Try.prog 21 #[.int .i64 n] w fun e w' => StrsOk (ownO n) w w' e := by
  obtain ⟨i0, hi, hz0, hz1, hz2⟩ := info_parts info_str
  by_cases h : 1 ≤ n ∧ n ≤ 6
  · obtain ⟨mo, hmo⟩ : ∃ mo : Nat, n = (mo : Int) := ⟨n.toNat, by omega⟩
    subst hmo
    have ho : ownO (mo : Int) = some (((prs mo mo 0 []).filter isOwnL).mergeSort fun x y => decide (x ≤ y)) := by
      unfold ownO; rw [if_pos h, Int.toNat_natCast]
    have hd : decide ((1 : Int) ≤ (mo : Int) ∧ (mo : Int) ≤ 6) = true := decide_eq_true h
    have h1 : 1 ≤ mo := by omega
    have h6 : mo ≤ 6 := by omega
    have hp := fun W => taPairs_any mo h1 h6 mo 0 [] W (by omega) (by simp)
    obtain ⟨ws, hws⟩ : ∃ ws, ws = prs mo mo 0 [] := ⟨_, rfl⟩
    have hwl : ws.length ≤ 1000000 := by
      rw [hws, prs_len]
      have h2 : (mo + 1) ^ mo ≤ 7 ^ mo := Nat.pow_le_pow_left (by omega) mo
      have h3 : 7 ^ mo ≤ 7 ^ 6 := Nat.pow_le_pow_right (by omega) h6
      have h4 : (7 : Nat) ^ 6 = 117649 := by decide
      omega
    have hwb : ∀ l ∈ ws, l.length ≤ 18 := by
      intro l hl
      rw [hws, prs_all mo mo 0 (mo * mo) [] (Nat.le_refl _)] at hl
      obtain ⟨c, hc, rfl⟩ := List.mem_map.1 hl
      have hcl := allS_len mo mo _ c hc
      have := prF_len c 0 (fun x hx => Nat.le_trans (allS_le mo mo _ c hc x hx) (by omega)) (by omega)
      simp; omega
    rw [← hws] at ho hp
    obtain ⟨N, hN⟩ : ∃ N, N = ws.length := ⟨_, rfl⟩
    have hempty : (bs [] : ByteArray) = { data := #[] } := rfl
    rw [hempty] at hp
    have hfs := fun (k : Nat) (hk : k < ws.length) => (show (ws.take (k + 1)).filter isOwnL = (ws.take k).filter isOwnL ++ (if isOwnL ws[k] = true then [ws[k]] else []) by
      rw [List.take_succ_eq_append_getElem hk, List.filter_append]; simp [List.filter_cons])
    have hfl := fun (k : Nat) => (show ((ws.take k).filter isOwnL).length ≤ k from Nat.le_trans (List.length_filter_le _ _) (by rw [List.length_take]; omega))
    unfold TextsOk at hp
    rw [← hN] at hp hwl
    have HO := Lib.hid ho; have HD := Lib.hid hd; have HP := Lib.hid hp; have HWB := Lib.hid hwb; have HN := Lib.hid hN; have HFS := Lib.hid hfs; have HFL := Lib.hid hfl
    clear ho hd hp hwb hN hws hfs hfl hempty h
    go_enter Try.func21, Try.ntmps21
    go_wp2_with fail
    refine (l1In_is true _ _ _ _ HD.out).mono ?_
    rintro e w1 ⟨rfl, rfl⟩
    go_wp2_with fail
    refine (HP.out _).mono ?_
    rintro e w2 ⟨g, c, rfl, ho2, hb2⟩
    have hg : g < w2.heap.size := (ho2.lt g rfl).2
    have hcN : N ≤ c ∧ c ≤ 9223372036854775807 := by
      rcases own_open ho2 with ⟨e, _⟩ | ⟨_, _, e, _, _, h3, h4, _⟩
      · cases e
      · simp only [Value.slice.injEq] at e; obtain ⟨_, _, rfl⟩ := e; unfold maxLen at h4; omega
    have HO2 := Lib.hid ho2; have HB2 := Lib.hid hb2; clear ho2 hb2
    go_wp2_with fail
    go_loopw [4, 15] (fun o iv wr => ∃ (k m : Nat) (q : Option Addr) (d : Nat), k ≤ N ∧ iv = .int .i64 (k : Int) ∧ o = .slice q m d ∧ m ≤ k ∧ Hid (m = ((ws.take k).filter isOwnL).length ∧ wr.ownsRow w2.heap.size 9 1 (.slice q m d) m (strVs ((ws.take k).filter isOwnL)) ∧ Below w.heap.size w wr ∧ Below w2.heap.size w2 wr)) (fun _ iv _ => N - (intOf iv).toNat)
    case atStart => exact ⟨0, 0, _, _, by omega, rfl, rfl, Nat.le_refl _, rfl, World.ownsRow_nil _ _ _ _, HB2.out, below_refl _⟩
    case round =>
      obtain ⟨k, m, q, d, hk, rfl, rfl, hmk, HX⟩ := hrel
      by_cases hlt : k < N
      · have hkl : k < ws.length := by rw [← HN.out]; exact hlt
        have hcw : wr.cell? ⟨g, k, none⟩ = some (.string (bs ws[k])) := (HX.out.2.2.2.cell (p := ⟨g, k, none⟩) hg).trans (strs_cells HO2.out HN.out k hkl)
        have hfs := HFS.out k hkl
        have hlb := HWB.out ws[k] (List.getElem_mem hkl)
        obtain ⟨l, hl⟩ : ∃ l, l = ws[k] := ⟨_, rfl⟩
        rw [← hl] at hcw hfs hlb
        have hta := fun W => taOf_any (bs l) W (by rw [bs_size]; unfold maxLen; omega)
        rw [show (bs l).data.toList = l by simp [bs]] at hta
        have HFS2 := Lib.hid hfs; have HTA := Lib.hid hta; clear hfs hta hl
        cases hio : invO l with
        | none =>
          have hio' : isOwnL l = false := by unfold isOwnL; rw [hio]; rfl
          have e0 : (ws.take (k + 1)).filter isOwnL = (ws.take k).filter isOwnL := by rw [HFS2.out, hio']; simp
          have E0 := Lib.hid e0
          rw [hio] at HTA
          clear e0 hio hio'
          go_wp2_with fail
          refine (HTA.out _).mono ?_
          rintro e w3 ⟨rfl, hb3⟩
          have HB3 := Lib.hid hb3; clear hb3
          unfold strOk
          go_wp2_with fail
          go_roundw
          case rel => exact ⟨k + 1, m, q, d, by omega, by go_num, rfl, by omega, by rw [E0.out]; exact HX.out.1, by rw [E0.out]; exact own_below HX.out.2.1 HB3.out, below_trans HX.out.2.2.1 HB3.out, below_trans HX.out.2.2.2 HB3.out⟩
          case measure => simp [intOf] <;> omega
        | some o =>
          have hcmp : ((bs o).toList == (bs l).toList) = isOwnL l := by
            unfold isOwnL
            rw [hio, bytes_toListT, bytes_toListT]
            simp [bs]
            by_cases e : o = l <;> simp [e]
          rw [hio] at HTA
          clear hio
          cases hio' : isOwnL l with
          | false =>
            have e0 : (ws.take (k + 1)).filter isOwnL = (ws.take k).filter isOwnL := by rw [HFS2.out, hio']; simp
            rw [hio'] at hcmp
            have E0 := Lib.hid e0
            clear e0 hio'
            go_wp2_with fail
            refine (HTA.out _).mono ?_
            rintro e w3 ⟨rfl, hb3⟩
            have HB3 := Lib.hid hb3; clear hb3
            unfold strOk
            go_wp2_with fail
            go_roundw
            case rel => exact ⟨k + 1, m, q, d, by omega, by go_num, rfl, by omega, by rw [E0.out]; exact HX.out.1, by rw [E0.out]; exact own_below HX.out.2.1 HB3.out, below_trans HX.out.2.2.1 HB3.out, below_trans HX.out.2.2.2 HB3.out⟩
            case measure => simp [intOf] <;> omega
          | true =>
            have e0 : (ws.take (k + 1)).filter isOwnL = (ws.take k).filter isOwnL ++ [l] := by rw [HFS2.out, hio']; simp
            rw [hio'] at hcmp
            have E0 := Lib.hid e0
            clear e0 hio'
            go_wp2_with fail
            refine (HTA.out _).mono ?_
            rintro e w3 ⟨rfl, hb3⟩
            have hown3 := own_below HX.out.2.1 (below_trans hb3 (below_alloc w3 (.cells #[.string (bs l)] 9)))
            have HB3 := Lib.hid (below_trans HX.out.2.2.1 hb3); have HC3 := Lib.hid (below_trans HX.out.2.2.2 hb3); have HOW3 := Lib.hid hown3; clear hb3 hown3
            have hcmp' : ((bs o).toList == (bs l).toList) = true := hcmp
            unfold strOk
            go_wp2_with (refine wpList_app _ rfl _ _ 32 rfl w2.heap.size 9 i0 (.string ⟨#[]⟩) 16 Try.underlying32 hi hz0 hz1 hz2 rfl _ m _ rfl HOW3.out ⟨w3.heap.size, 0, none⟩ 1 1 [.string (bs l)] rfl rfl (by intro j u hu; cases j with | zero => (simp at hu; subst hu; simp [go_sem, Addr.add]) | succ j => simp at hu) (by intro y hy; simp at hy; subst hy; rfl) (by unfold maxLen; omega) (by omega) (by have := HC3.out.size; simp; omega) ?_; intro v5 w5 hown5 hgr5 hwh5)
            have hb5 : Below w.heap.size w w5 := (below_trans HB3.out (below_alloc w3 (.cells #[.string (bs l)] 9))).grown hgr5 (by have := HB3.out.size; simp; omega) (fun r e => Nat.le_trans HB2.out.size (HOW3.out.lt r e).1)
            have hc5 : Below w2.heap.size w2 w5 := (below_trans HC3.out (below_alloc w3 (.cells #[.string (bs l)] 9))).grown hgr5 (by have := HC3.out.size; simp; omega) (fun r e => (HOW3.out.lt r e).1)
            obtain ⟨g5, d5, rfl⟩ := ownsRow_succ hown5
            have HO5 := Lib.hid hown5; have HB5 := Lib.hid hb5; have HC5 := Lib.hid hc5
            clear hown5 hgr5 hwh5 hb5 hc5
            go_wp2_with fail
            go_roundw
            case rel =>
              refine ⟨k + 1, m + 1, _, _, by omega, by go_num, rfl, by omega, by rw [E0.out, List.length_append, ← HX.out.1]; rfl, ?_, HB5.out, HC5.out⟩
              rw [E0.out]
              have := HO5.out
              simpa [strVs] using this
            case measure => simp [intOf] <;> omega
      · obtain rfl : k = N := by omega
        have hm := HX.out.1
        have how := HX.out.2.1
        rw [List.take_of_length_le (by rw [← HN.out]; exact Nat.le_refl _)] at hm how
        have hts := taSorted_any wr w2.heap.size m (.slice q m d) (ws.filter isOwnL) hm (by omega) how
        have HTS := Lib.hid hts; have HM := Lib.hid hm; clear hts hm how
        go_wp2_with fail
        refine HTS.out.mono ?_
        rintro e w3 ⟨v3, rfl, ho3, hb3⟩
        have HO3 := Lib.hid ho3; have HB3 := Lib.hid hb3; clear ho3 hb3
        go_wp2_with fail
        go_ret2
        refine ⟨v3, by rw [HO.out]; rfl, ?_, below_trans HX.out.2.2.1 HB3.out, fun e => by rw [HO.out] at e; cases e⟩
        rw [HO.out, Option.getD_some, List.length_mergeSort, ← HM.out]
        exact own_mono HO3.out HX.out.2.2.1.size
  · have ho : ownO n = none := if_neg h
    have hd : decide ((1 : Int) ≤ n ∧ n ≤ 6) = false := decide_eq_false h
    have HO := Lib.hid ho; have HD := Lib.hid hd; clear ho hd
    go_enter Try.func21, Try.ntmps21
    go_wp2_with fail
    refine (l1In_is false _ _ _ _ HD.out).mono ?_
    rintro e w2 ⟨rfl, rfl⟩
    go_wp2_with fail
    go_ret2
    exact ⟨_, by rw [HO.out]; rfl, by rw [HO.out]; exact World.ownsRow_nil _ _ _ _, below_refl _, fun _ => rfl⟩
end Go.Proofs.Ytaagfcdniacmnab
