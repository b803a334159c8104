/- SmoothInOwn: the program's, the law. -/
import Derived.Test.YtkjmocdhhndlgaaGreatDoorO10
import Derived.Test.YtkjmocdhhndlgaaGreatDoorS
namespace Go.Proofs.YtkjmocdhhndlgaaGreatDoor
open Go.RowKit Go.BigFrame Go.Shelf
set_option linter.unusedSimpArgs false
set_option linter.unusedVariables false
set_option maxRecDepth 4000

theorem drop_bs (l : List UInt8) (k n : Nat) (h : n = l.length) : (bs l).extract k n = bs (l.drop k) := by
  refine bs_eq ?_
  rw [list_extract, bs_list, List.take_of_length_le]
  rw [List.length_drop, h]; exact Nat.le_refl _
set_option maxHeartbeats 1000000 in
theorem implSmoothInOwn_any (l : List UInt8) (most : Int) (w : World) (hs : l.length ≤ maxLen) :
    Calls Tryz.prog 25 #[.string (bs l), .int .i64 most] w fun e w' => e = .returned (soV l most) ∧ Below w.heap.size w w' := by
  by_cases h2 : l = []
  · subst h2
    rw [soV_no (by unfold soB; simp)]
    have he : (bs ([] : List UInt8)).toList.isEmpty = true := by rw [Go.Lib.toList_data, bs_list]; rfl
    clear hs
    go_enter Tryz.func25, Tryz.ntmps25
    go_wp2_with fail
    go_ret2
    exact ⟨rfl, Below.refl _ _⟩
  · have hne := bs_nonempty h2
    have his := fun (W : World) => implIsSmooth_any (bs l) W (by rw [bs_size]; exact hs)
    rw [bs_list] at his
    have HIS := Lib.hid his; clear his hs
    cases h4 : (depO l).isSome with
    | false =>
      rw [soV_no (by unfold soB; rw [h4]; rfl)]
      rw [h4] at HIS
      clear h2 h4
      go_enter Tryz.func25, Tryz.ntmps25
      go_wp2_with fail
      refine (HIS.out _).mono ?_
      rintro e w1 ⟨rfl, hb⟩
      have HB := Lib.hid hb; clear hb
      go_wp2_with fail
      go_ret2
      exact ⟨rfl, HB.out⟩
    | true =>
      rw [h4] at HIS
      cases h3 : decide (0 ≤ most ∧ most ≤ 5000) with
      | false =>
        rw [soV_no (by unfold soB; rw [h3]; simp)]
        have H3 := Lib.hid h3; clear h2 h3 h4
        go_enter Tryz.func25, Tryz.ntmps25
        go_wp2_with fail
        refine (HIS.out _).mono ?_
        rintro e w1 ⟨rfl, hb⟩
        have HB := Lib.hid hb; clear hb
        go_wp2_with fail
        refine (isWithin_is false _ _ _ _ H3.out).mono ?_
        rintro e w2 ⟨rfl, rfl⟩
        go_wp2_with fail
        go_ret2
        exact ⟨rfl, HB.out⟩
      | true =>
        rw [soV_yes (by unfold soB; rw [h4, h3, decide_eq_true h2]; rfl)]
        have hm := of_decide_eq_true h3
        obtain ⟨N, rfl⟩ : ∃ N : Nat, most = (N : Int) := ⟨most.toNat, by omega⟩
        have hN : N ≤ 5000 := by omega
        unfold soN
        rw [Int.toNat_natCast]
        have HO := Lib.hid (fun (W : World) => ownText_any 1 2 N W ⟨by omega, by omega⟩ ⟨by omega, by omega⟩ (by omega))
        have hTl : (sgL (gOwn 1 2 N)).length = N := by unfold sgL; rw [List.length_map, gOwn_len 1 2 N (by omega) (by omega)]
        generalize sgL (gOwn 1 2 N) = T at *
        have hTz : (bs T).size = N := by rw [bs_size]; exact hTl
        have hhp := fun (i : Nat) (W : World) => Tryz.strings_HasPrefix (bs (T.drop i)) (bs l) W
        simp only [bs_list] at hhp
        have HHP := Lib.hid hhp; have H3 := Lib.hid h3; have HTL := Lib.hid hTl
        clear h2 h3 h4 hm hTl hhp
        go_enter Tryz.func25, Tryz.ntmps25
        go_wp2_with fail
        refine (HIS.out _).mono ?_
        rintro e w1 ⟨rfl, hb⟩
        have HB := Lib.hid hb; clear hb
        go_wp2_with fail
        refine (isWithin_is true _ _ _ _ H3.out).mono ?_
        rintro e w2 ⟨rfl, rfl⟩
        go_wp2_with fail
        refine (HO.out _).mono ?_
        rintro e w2 ⟨rfl, hb⟩
        have HB2 := Lib.hid (below_trans HB.out hb); clear hb
        go_wp2_with fail
        go_loopw [7, 25] (fun cv iv wr => ∃ (i m : Nat), cv = .int .i64 (m : Int) ∧ iv = .int .i64 (i : Int) ∧ i ≤ N ∧ m ≤ i ∧ Hid (m = occ l T i ∧ Below w2.heap.size w2 wr)) (fun _ iv _ => N - (intOf iv).toNat)
        case atStart => exact ⟨0, 0, rfl, rfl, Nat.zero_le _, Nat.le_refl _, rfl, Below.refl _ _⟩
        case round =>
          obtain ⟨i, m, rfl, rfl, hiN, hmi, HX⟩ := hrel
          by_cases hlt : i < N
          · have hex : (bs T).extract i N = bs (T.drop i) := drop_bs T i N HTL.out.symm
            have hhp := HHP.out i
            have hos : occ l T (i + 1) = occ l T i + (if hitB l T i = true then 1 else 0) := rfl
            have hhb : Lib.hasPrefix (T.drop i) l = hitB l T i := rfl
            rw [hhb] at hhp
            obtain ⟨y, hy⟩ : ∃ y, y = hitB l T i := ⟨_, rfl⟩
            rw [← hy] at hhp hos
            have HH := Lib.hid hhp; have HOS := Lib.hid hos
            clear hhp hos hhb hy
            cases y with
            | false =>
              go_wp2_with fail
              refine (HH.out _).mono ?_
              rintro e w3 ⟨rfl, rfl⟩
              go_wp2_with fail
              go_roundw
              case rel => exact ⟨i + 1, m, rfl, by go_num, by omega, by omega, by rw [HOS.out, HX.out.1]; rfl, HX.out.2⟩
              case measure => simp [intOf] <;> omega
            | true =>
              go_wp2_with fail
              refine (HH.out _).mono ?_
              rintro e w3 ⟨rfl, rfl⟩
              go_wp2_with fail
              go_roundw
              case rel => exact ⟨i + 1, m + 1, by go_num, by go_num, by omega, by omega, by rw [HOS.out, HX.out.1]; rfl, HX.out.2⟩
              case measure => simp [intOf] <;> omega
          · obtain rfl : i = N := by omega
            go_wp2_with fail
            go_ret2
            exact ⟨by rw [← HX.out.1]; rfl, below_trans HB2.out HX.out.2⟩
end Go.Proofs.YtkjmocdhhndlgaaGreatDoor
