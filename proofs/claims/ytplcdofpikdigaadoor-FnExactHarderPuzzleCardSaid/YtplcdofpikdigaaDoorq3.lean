/- Chapter 9: the model's pzGood; the law of IsPuzzle. -/
import Derived.Test.YtplcdofpikdigaaDoorq2
import Derived.Deep.RegionWith
import Derived.Deep.RegionHeld3
namespace Go.Proofs.YtplcdofpikdigaaDoor
open Go.RowKit Go.BigFrame Go.Deep
set_option linter.unusedSimpArgs false
set_option linter.unusedVariables false
set_option maxRecDepth 4000

set_option maxHeartbeats 8000000 in
theorem pzGood_any (W S : List UInt8) (D : Int) (w : World) (hW : W.length ≤ maxLen) (hS : S.length ≤ maxLen) :
    Calls Tryd.prog 49 #[pzV W S D] w fun e w' => e = .returned (.bool (pzB W S D)) ∧ Below w.heap.size w w' := by
  obtain ⟨G, hG⟩ : ∃ G, G = pzB W S D := ⟨_, rfl⟩
  rw [← hG]
  unfold pzB pzS at hG
  obtain ⟨n, hn⟩ : ∃ n, n = W.length := ⟨_, rfl⟩
  obtain ⟨m, hm⟩ : ∃ m, m = S.length := ⟨_, rfl⟩
  unfold maxLen at hW hS
  obtain ⟨t, ht⟩ : ∃ t, t = bs W := ⟨_, rfl⟩
  obtain ⟨u, hu⟩ : ∃ u, u = bs S := ⟨_, rfl⟩
  have htl : W = t.data.toList := by rw [ht, bs_list]
  have hul : S = u.data.toList := by rw [hu, bs_list]
  have htn : t.size = n := by rw [ht, bs_size, hn]
  have hum : u.size = m := by rw [hu, bs_size, hm]
  unfold pzV
  rw [← ht, ← hu]
  rw [← hn] at hW hG; rw [← hm] at hS hG
  rw [htl, hul] at hG
  clear hn hm ht hu htl hul
  subst htn hum
  have HG := Lib.hid hG; clear hG
  by_cases h1 : (1 : Int) ≤ D ∧ D ≤ 4
  · by_cases h2 : 1 ≤ t.size ∧ t.size ≤ 8
    · by_cases h3 : u.size % 2 = 0
      · have htm : (u.size : Int).tmod 2 = 0 := by rw [Int.tmod_eq_emod_of_nonneg (by omega)]; omega
        by_cases h4 : 2 ≤ u.size ∧ u.size ≤ 2 * t.size
        · have HGG : Hid (G = (t.data.toList.all (sgB D) && u.data.toList.all (sgB 9))) := by rw [HG.out, decide_eq_true h1, decide_eq_true h2, decide_eq_true h3, decide_eq_true h4]; rfl
          have HBX := Lib.hid (boxP_new w (.string t) (.string u) (.int .i64 D) 28)
          go_enter Tryd.func49, Tryd.ntmps49
          go_wp2_with (go_at_call 61; refine (l1In_is true _ _ _ _ (by simp; omega)).mono ?_; rintro e w' ⟨rfl, rfl⟩)
          go_loopw [3] (fun i wr => ∃ k : Nat, k ≤ t.size ∧ i = .int .i64 k ∧ Hid ((t.data.toList.take k).all (sgB D) = true ∧ BoxP w (.string t) (.string u) (.int .i64 D) 28 wr)) (fun i _ => t.size - (intOf i).toNat)
          case atStart => exact ⟨0, Nat.zero_le _, rfl, rfl, HBX.out⟩
          case round =>
            obtain ⟨k, hk, rfl, HX⟩ := hrel
            obtain ⟨c0, c1, c2, _, _, _⟩ := HX.out.2.at.cells
            by_cases hlt : k < t.size
            · have hsn := all_take_succ (sgB D) t k hlt
              rw [HX.out.1, Bool.true_and] at hsn
              unfold sgB at hsn
              by_cases h46 : t[k].toNat = 46
              · have HT : Hid ((t.data.toList.take (k + 1)).all (sgB D) = true) := by
                  rw [decide_eq_true h46] at hsn; exact hsn
                have HBW := Lib.hid HX.out.2
                clear hsn HX
                go_wp2_with fail
                go_quiet (fail)
                go_wp2_with fail
                go_roundw
                case rel => exact ⟨k + 1, by omega, by go_num, HT.out, HBW.out.drewN _⟩
                case measure => simp [intOf] <;> omega
              · have h47 : ((t[k].toNat : Int) != 46) = true := by simp; omega
                have h255 : (t[k].toNat : Int) ≤ 255 := by have := t[k].toNat_lt; omega
                have hwr : IntKind.i64.wrap ((t[k].toNat : Int) - 48) = (t[k].toNat : Int) - 48 := by rw [IntKind.wrap_i64]; omega
                obtain ⟨v, hv⟩ : ∃ v, v = decide ((1 : Int) ≤ (t[k].toNat : Int) - 48 ∧ (t[k].toNat : Int) - 48 ≤ D) := ⟨_, rfl⟩
                have HV : Hid ((t.data.toList.take (k + 1)).all (sgB D) = v) := by
                  rw [decide_eq_false h46, ← hv] at hsn; exact hsn
                have HI := Lib.hid (fun (W : World) => l1In_is v ((t[k].toNat : Int) - 48) 1 D W hv.symm)
                have HBW := Lib.hid HX.out.2
                clear hv hsn HX
                cases v with
                | true =>
                  go_wp2_with fail
                  go_quiet (first | (go_at_call 61; exact Calls.quiet_of_same ((HI.out _).mono (fun _ _ h => ⟨h.1, h.2.symm⟩))))
                  go_wp2_with fail
                  go_roundw
                  case rel => exact ⟨k + 1, by omega, by go_num, HV.out, HBW.out.drewN _⟩
                  case measure => simp [intOf] <;> omega
                | false =>
                  have HF : Hid (G = false) := by rw [HGG.out, all_false_of_take (k + 1) HV.out]; rfl
                  go_wp2_with fail
                  go_quiet (first | (go_at_call 61; exact Calls.quiet_of_same ((HI.out _).mono (fun _ _ h => ⟨h.1, h.2.symm⟩))))
                  go_wp2_with fail
                  go_ret
                  exact ⟨ret_bool HF.out.symm, (HBW.out.drewN _).below⟩
            · have HT : Hid (t.data.toList.all (sgB D) = true) := by
                have h := HX.out.1
                rw [List.take_of_length_le (by simp; omega)] at h
                exact h
              have HBW := Lib.hid HX.out.2
              clear HX
              go_wp2_with fail
              go_loopw [4] (fun i wr => ∃ k : Nat, k ≤ u.size ∧ i = .int .i64 k ∧ Hid ((u.data.toList.take k).all (sgB 9) = true ∧ BoxP w (.string t) (.string u) (.int .i64 D) 28 wr)) (fun i _ => u.size - (intOf i).toNat)
              case atStart => exact ⟨0, Nat.zero_le _, rfl, rfl, HBW.out⟩
              case round =>
                clear c0 c1 c2 hlt hk
                obtain ⟨j, hj, rfl, HX⟩ := hrel
                obtain ⟨c0, c1, c2, _, _, _⟩ := HX.out.2.at.cells
                by_cases hlt : j < u.size
                · have hsn := all_take_succ (sgB 9) u j hlt
                  rw [HX.out.1, Bool.true_and] at hsn
                  unfold sgB at hsn
                  by_cases h46 : u[j].toNat = 46
                  · have HU : Hid ((u.data.toList.take (j + 1)).all (sgB 9) = true) := by
                      rw [decide_eq_true h46] at hsn; exact hsn
                    have HBW2 := Lib.hid HX.out.2
                    clear hsn HX
                    go_wp2_with fail
                    go_roundw
                    case rel => exact ⟨j + 1, by omega, by go_num, HU.out, HBW2.out⟩
                    case measure => simp [intOf] <;> omega
                  · have h47 : ((u[j].toNat : Int) != 46) = true := by simp; omega
                    have h255 : (u[j].toNat : Int) ≤ 255 := by have := u[j].toNat_lt; omega
                    have hwr : IntKind.i64.wrap ((u[j].toNat : Int) - 48) = (u[j].toNat : Int) - 48 := by rw [IntKind.wrap_i64]; omega
                    obtain ⟨v, hv⟩ : ∃ v, v = decide ((1 : Int) ≤ (u[j].toNat : Int) - 48 ∧ (u[j].toNat : Int) - 48 ≤ 9) := ⟨_, rfl⟩
                    have HV : Hid ((u.data.toList.take (j + 1)).all (sgB 9) = v) := by
                      rw [decide_eq_false h46, ← hv] at hsn; exact hsn
                    have HI := Lib.hid (fun (W : World) => l1In_is v ((u[j].toNat : Int) - 48) 1 9 W hv.symm)
                    have HBW2 := Lib.hid HX.out.2
                    clear hv hsn HX
                    cases v with
                    | true =>
                      go_wp2_with fail
                      refine (HI.out _).mono ?_
                      rintro e w1 ⟨rfl, rfl⟩
                      go_wp2_with fail
                      go_roundw
                      case rel => exact ⟨j + 1, by omega, by go_num, HV.out, HBW2.out⟩
                      case measure => simp [intOf] <;> omega
                    | false =>
                      have HF := Lib.hid (show G = false by rw [HGG.out, all_false_of_take (l := u.data.toList) (j + 1) HV.out]; simp)
                      go_wp2_with fail
                      refine (HI.out _).mono ?_
                      rintro e w1 ⟨rfl, rfl⟩
                      go_wp2_with fail
                      go_ret
                      exact ⟨ret_bool HF.out.symm, HBW2.out.below⟩
                · have HU : Hid (G = true) := by
                    have h := HX.out.1
                    rw [List.take_of_length_le (by simp; omega)] at h
                    rw [HGG.out, HT.out, h]; rfl
                  have HBW2 := Lib.hid HX.out.2
                  clear HX
                  go_wp2_with fail
                  go_ret
                  exact ⟨ret_bool HU.out.symm, HBW2.out.below⟩
        · have HGG := Lib.hid (show G = false by rw [HG.out, decide_eq_false h4]; simp)
          go_enter Tryd.func49, Tryd.ntmps49
          go_wp2_with (go_at_call 61; (first | (refine (l1In_is true _ _ _ _ (by simp; omega)).mono ?_) | (refine (l1In_is false _ _ _ _ (by simp; omega)).mono ?_)); rintro e w' ⟨rfl, rfl⟩)
          go_ret
          exact ⟨ret_bool (by rw [HGG.out]; try simp), below_alloc _ _⟩
      · have htm : (u.size : Int).tmod 2 = 1 := by rw [Int.tmod_eq_emod_of_nonneg (by omega)]; omega
        have HGG := Lib.hid (show G = false by rw [HG.out, decide_eq_false h3]; simp)
        go_enter Tryd.func49, Tryd.ntmps49
        go_wp2_with (go_at_call 61; refine (l1In_is true _ _ _ _ (by simp; omega)).mono ?_; rintro e w' ⟨rfl, rfl⟩)
        go_ret
        exact ⟨ret_bool (by rw [HGG.out]; try simp), below_alloc _ _⟩
    · have HGG := Lib.hid (show G = false by rw [HG.out, decide_eq_false h2]; simp)
      go_enter Tryd.func49, Tryd.ntmps49
      go_wp2_with (go_at_call 61; (first | (refine (l1In_is true _ _ _ _ (by simp; omega)).mono ?_) | (refine (l1In_is false _ _ _ _ (by simp; omega)).mono ?_)); rintro e w' ⟨rfl, rfl⟩)
      go_ret
      exact ⟨ret_bool (by rw [HGG.out]; try simp), below_alloc _ _⟩
  · have HGG := Lib.hid (show G = false by rw [HG.out, decide_eq_false h1]; simp)
    go_enter Tryd.func49, Tryd.ntmps49
    go_wp2_with (go_at_call 61; refine (l1In_is false _ _ _ _ (by simp; omega)).mono ?_; rintro e w' ⟨rfl, rfl⟩)
    go_ret
    exact ⟨ret_bool (by rw [HGG.out]; try simp), below_alloc _ _⟩
end Go.Proofs.YtplcdofpikdigaaDoor
