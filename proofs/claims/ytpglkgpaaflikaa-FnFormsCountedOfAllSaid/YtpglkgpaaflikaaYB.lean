/- Chapter 6: FormOfList, IsForm, FormOfDistances, AreDistances on both sides, and their laws. -/
import Derived.Test.YtpglkgpaaflikaaYA
import Derived.ChangeKeysEq
namespace Go.Proofs.Ytpglkgpaaflikaa
open Go.RowKit Go.BigFrame Go.Maps
set_option linter.unusedSimpArgs false
set_option linter.unusedVariables false
set_option maxRecDepth 4000

def flO (xs : List Int) : Option (List Int) := if plL xs = true then some (fmL (bkL xs)) else none
def isF (xs : List Int) : Bool := plL xs && decide (fmL (bkL xs) = xs)
def areB (ds : List Int) : Bool := okB ds && decide (bkL (fmL ds) = ds)
def fdB (ds : List Int) : Bool := plL ds && areB ds
def fdO (ds : List Int) : Option (List Int) := if fdB ds = true then some (fmL ds) else none
theorem flO_len (xs : List Int) : ((flO xs).getD []).length ≤ 60 := by
  unfold flO
  split
  · rename_i h; simp only [Option.getD_some, fmL_len, bkL_len]; exact (plL_open h).2.1
  · simp
theorem fdO_len (xs : List Int) : ((fdO xs).getD []).length ≤ 60 := by
  unfold fdO
  split
  · rename_i h; unfold fdB at h; rw [Bool.and_eq_true] at h; simp only [Option.getD_some, fmL_len]; exact (plL_open h.1).2.1
  · simp
theorem okD_bkL (xs : List Int) : okD (sq (bkL xs)) (bkL xs).length := by rw [bkL_len]; exact okD_bk xs
theorem bkL_pl {xs : List Int} (h : plL xs = true) : plL (bkL xs) = true := by
  obtain ⟨h1, h60, _⟩ := plL_open h
  unfold plL
  rw [Bool.and_eq_true, decide_eq_true_eq, bkL_len, List.all_eq_true]
  refine ⟨⟨h1, h60⟩, fun x hx => ?_⟩
  obtain ⟨i, hi, rfl⟩ := List.mem_iff_getElem.1 hx
  rw [bkL_len] at hi
  rw [bkL_at hi]
  have := bk_le (sq xs) i
  simp [inB]; omega

set_option maxHeartbeats 2000000 in
theorem specFormOfList_any (w : World) (B : Nat) (v : Value) (xs : List Int) (ha : IntsA w B v xs) :
    Calls Try.prog 11 #[v] w fun e w' => IntsAOk (flO xs) w w' e := by
  have hL := plGood_any w B v xs ha
  cases ht : plL xs with
  | false =>
    rw [ht] at hL
    rw [show flO xs = none by unfold flO; rw [ht]; rfl]
    obtain ⟨a, cap, rfl, _, _⟩ := intsA_slice ha
    have HL := Lib.hid hL; clear hL ha ht
    go_enter Try.func11, Try.ntmps11
    go_wp2_with fail
    refine HL.out.mono ?_
    rintro e w1 ⟨rfl, rfl⟩
    go_wp2_with fail
    go_ret2
    exact ⟨_, rfl, intsA_nil _ _, Below.refl _ _, fun _ => rfl⟩
  | true =>
    rw [ht] at hL
    rw [show flO xs = some (fmL (bkL xs)) by unfold flO; rw [ht]; rfl]
    obtain ⟨h1, h60, _⟩ := plL_open ht
    have hB := plBacks_any w B v xs ha h1 (by omega)
    have hF := fun (W : World) (u : Value) (h : Ints W w.heap.size u (bkL xs)) => plForm_any W w.heap.size u (bkL xs) (intsA_of h) (by rw [bkL_len]; exact h1) (by rw [bkL_len]; omega) (okD_bkL xs)
    obtain ⟨a, cap, rfl, _, _⟩ := intsA_slice ha
    have HL := Lib.hid hL; have HB := Lib.hid hB; have HF := Lib.hid hF; clear hL ha ht hB hF
    go_enter Try.func11, Try.ntmps11
    go_wp2_with fail
    refine HL.out.mono ?_
    rintro e w1 ⟨rfl, rfl⟩
    go_wp2_with fail
    refine HB.out.mono ?_
    rintro e w1 ⟨u, rfl, ho, hb⟩
    have HO := Lib.hid ho; have HB1 := Lib.hid hb; clear ho hb
    go_wp2_with fail
    refine (HF.out w1 u HO.out).mono ?_
    rintro e w2 ⟨u2, rfl, ho, hb⟩
    have HO2 := Lib.hid ho; have HB2 := Lib.hid hb; clear ho hb
    go_wp2_with fail
    go_ret2
    exact ⟨_, rfl, intsA_mono (intsA_of HO2.out) HB1.out.size, below_trans HB1.out HB2.out, fun h => by cases h⟩

set_option maxHeartbeats 2000000 in
theorem plIs_any (w : World) (B : Nat) (v : Value) (xs : List Int) (ha : IntsA w B v xs) (ht : plL xs = true) :
    Calls Try.prog 65 #[v] w fun e w' => e = .returned (.bool (isF xs)) ∧ Below w.heap.size w w' := by
  obtain ⟨h1, h60, _⟩ := plL_open ht
  have hB := plBacks_any w B v xs ha h1 (by omega)
  have hF := fun (W : World) (u : Value) (h : Ints W w.heap.size u (bkL xs)) => plForm_any W w.heap.size u (bkL xs) (intsA_of h) (by rw [bkL_len]; exact h1) (by rw [bkL_len]; omega) (okD_bkL xs)
  have hS := fun (W : World) (u : Value) (B' : Nat) (hb : Below w.heap.size w W) (h : Ints W B' u (fmL (bkL xs))) => l1SameL_any W u v (fmL (bkL xs)) xs (argL_of_ints h) (argL_of_intsA (intsA_below ha hb)) (by rw [fmL_len, bkL_len]; omega) (by omega)
  rw [show decide (fmL (bkL xs) = xs) = isF xs by unfold isF; rw [ht]; rfl] at hS
  obtain ⟨b, hbb⟩ : ∃ b, b = isF xs := ⟨_, rfl⟩
  rw [← hbb] at hS ⊢
  obtain ⟨a, cap, rfl, _, _⟩ := intsA_slice ha
  have HB := Lib.hid hB; have HF := Lib.hid hF; have HS := Lib.hid hS; clear ha ht hB hF hS hbb
  go_enter Try.func65, Try.ntmps65
  go_wp2_with fail
  refine HB.out.mono ?_
  rintro e w1 ⟨u, rfl, ho, hb⟩
  have HO := Lib.hid ho; have HB1 := Lib.hid hb; clear ho hb
  go_wp2_with fail
  refine (HF.out w1 u HO.out).mono ?_
  rintro e w2 ⟨u2, rfl, ho, hb⟩
  have HO2 := Lib.hid ho; have HB2 := Lib.hid (below_trans HB1.out hb); clear ho hb
  go_wp2_with fail
  refine (HS.out w2 u2 _ HB2.out HO2.out).mono ?_
  rintro e w3 ⟨rfl, hb⟩
  have HB3 := Lib.hid (below_trans HB2.out hb); clear hb
  go_wp2_with fail
  go_ret
  exact ⟨rfl, HB3.out⟩

set_option maxHeartbeats 2000000 in
theorem specIsForm_any (w : World) (B : Nat) (v : Value) (xs : List Int) (ha : IntsA w B v xs) :
    Calls Try.prog 23 #[v] w fun e w' => e = .returned (.tuple #[.bool (isF xs), .bool (plL xs)]) ∧ Below w.heap.size w w' := by
  have hL := plGood_any w B v xs ha
  cases ht : plL xs with
  | false =>
    rw [ht] at hL
    rw [show isF xs = false by unfold isF; rw [ht]; rfl]
    obtain ⟨a, cap, rfl, _, _⟩ := intsA_slice ha
    have HL := Lib.hid hL; clear hL ha ht
    go_enter Try.func23, Try.ntmps23
    go_wp2_with fail
    refine HL.out.mono ?_
    rintro e w1 ⟨rfl, rfl⟩
    go_wp2_with fail
    go_ret2
    exact ⟨rfl, Below.refl _ _⟩
  | true =>
    rw [ht] at hL
    have hI := plIs_any w B v xs ha ht
    obtain ⟨b, hbb⟩ : ∃ b, b = isF xs := ⟨_, rfl⟩
    rw [← hbb] at hI ⊢
    obtain ⟨a, cap, rfl, _, _⟩ := intsA_slice ha
    have HL := Lib.hid hL; have HI := Lib.hid hI; clear hL ha ht hI hbb
    go_enter Try.func23, Try.ntmps23
    go_wp2_with fail
    refine HL.out.mono ?_
    rintro e w1 ⟨rfl, rfl⟩
    go_wp2_with fail
    refine HI.out.mono ?_
    rintro e w1 ⟨rfl, hb⟩
    have HB := Lib.hid hb; clear hb
    go_wp2_with fail
    go_ret2
    exact ⟨rfl, HB.out⟩

set_option maxHeartbeats 2000000 in
theorem plAre_any (w : World) (B : Nat) (v : Value) (xs : List Int) (ha : IntsA w B v xs) (ht : plL xs = true) :
    Calls Try.prog 66 #[v] w fun e w' => e = .returned (.bool (areB xs)) ∧ Below w.heap.size w w' := by
  obtain ⟨h1, h60, _⟩ := plL_open ht
  have hF := fun (W : World) (hb : Below w.heap.size w W) (hk : okB xs = true) => plForm_any W B v xs (intsA_below ha hb) h1 (by omega) (okB_true hk ht)
  have hB := fun (W : World) (u : Value) (B' : Nat) (h : Ints W B' u (fmL xs)) => plBacks_any W B' u (fmL xs) (intsA_of h) (by rw [fmL_len]; exact h1) (by rw [fmL_len]; omega)
  have hS := fun (W : World) (u : Value) (B' : Nat) (hb : Below w.heap.size w W) (h : Ints W B' u (bkL (fmL xs))) => l1SameL_any W u v (bkL (fmL xs)) xs (argL_of_ints h) (argL_of_intsA (intsA_below ha hb)) (by rw [bkL_len, fmL_len]; omega) (by omega)
  obtain ⟨g, cap, rfl, hc1, hc2, _, hg, hce⟩ := intsA_at ha h1
  obtain ⟨b, hbb⟩ : ∃ b, b = areB xs := ⟨_, rfl⟩
  have hbad : okB xs = false → b = false := fun h => by rw [hbb]; unfold areB; rw [h]; rfl
  have hgood : okB xs = true → decide (bkL (fmL xs) = xs) = b := fun h => by rw [hbb]; unfold areB; rw [h]; rfl
  rw [← hbb]
  have HC := Lib.hid hce; have HBAD := Lib.hid hbad; have HGOOD := Lib.hid hgood
  obtain ⟨N, hN⟩ : ∃ N, N = xs.length := ⟨_, rfl⟩
  have HN := Lib.hid hN
  rw [← hN] at hc1 h1 h60 hF hS ⊢
  have HB := Lib.hid hB; have HF := Lib.hid hF; have HS := Lib.hid hS; clear ha ht hB hF hS hbb hce hbad hgood hN
  go_enter Try.func66, Try.ntmps66
  go_wp2_with fail
  go_loop [7] (fun iv => ∃ k : Nat, k ≤ N ∧ iv = .int .i64 k ∧ Hid (∀ i (hi : i < xs.length), i < k → xs[i] ≤ (i : Int))) (fun iv => N - (intOf iv).toNat)
  case atStart => exact ⟨0, Nat.zero_le _, rfl, Lib.hid (fun i _ h => by omega)⟩
  case round =>
    obtain ⟨k, hk, rfl, HX⟩ := hrel
    by_cases hlt : k < N
    · have hk' : k < xs.length := by rw [← HN.out]; exact hlt
      have h2 := HC.out k hk'
      have hnew : xs[k] ≤ (k : Int) → ∀ i (hi : i < xs.length), i < k + 1 → xs[i] ≤ (i : Int) := fun h i hi hik => by
        by_cases e : i = k
        · subst e; exact h
        · exact HX.out i hi (by omega)
      have hb2 : xs[k] > (k : Int) → okB xs = false := fun h => okB_bad hk' h
      obtain ⟨x, hx⟩ : ∃ x, x = xs[k] := ⟨_, rfl⟩
      rw [← hx] at h2 hnew hb2
      have HNEW := Lib.hid hnew; have HB2 := Lib.hid hb2
      clear hx hnew hb2
      by_cases hbig : x > (k : Int)
      · obtain rfl := HBAD.out (HB2.out hbig)
        go_wp2_with fail
        go_ret
        exact ⟨rfl, Below.refl _ _⟩
      · go_wp2_with fail
        go_round
        case rel => exact ⟨k + 1, by omega, by go_num, Lib.hid (HNEW.out (by omega))⟩
        case measure => simp [intOf] <;> omega
    · obtain rfl : k = N := by omega
      have hok : okB xs = true := okB_all (fun i hi => HX.out i hi (by rw [HN.out]; exact hi))
      have hS := HS.out
      rw [HGOOD.out hok] at hS
      have HF2 := Lib.hid (HF.out w (Below.refl _ _) hok); have HS2 := Lib.hid hS
      clear hok hS
      go_wp2_with fail
      refine HF2.out.mono ?_
      rintro e w1 ⟨u, rfl, ho, hb⟩
      have HO := Lib.hid ho; have HB1 := Lib.hid hb; clear ho hb
      go_wp2_with fail
      refine (HB.out w1 u _ HO.out).mono ?_
      rintro e w2 ⟨u2, rfl, ho, hb⟩
      have HO2 := Lib.hid ho; have HB2 := Lib.hid (below_trans HB1.out hb); clear ho hb
      go_wp2_with fail
      refine (HS2.out w2 u2 _ HB2.out HO2.out).mono ?_
      rintro e w3 ⟨rfl, hb⟩
      have HB3 := Lib.hid (below_trans HB2.out hb); clear hb
      go_wp2_with fail
      go_ret
      exact ⟨rfl, HB3.out⟩

set_option maxHeartbeats 2000000 in
theorem specFormOfDistances_any (w : World) (B : Nat) (v : Value) (xs : List Int) (ha : IntsA w B v xs) :
    Calls Try.prog 24 #[v] w fun e w' => IntsAOk (fdO xs) w w' e := by
  have hL := plGood_any w B v xs ha
  cases ht : plL xs with
  | false =>
    rw [ht] at hL
    rw [show fdO xs = none by unfold fdO fdB; rw [ht]; rfl]
    obtain ⟨a, cap, rfl, _, _⟩ := intsA_slice ha
    have HL := Lib.hid hL; clear hL ha ht
    go_enter Try.func24, Try.ntmps24
    go_wp2_with fail
    refine HL.out.mono ?_
    rintro e w1 ⟨rfl, rfl⟩
    go_wp2_with fail
    go_ret2
    exact ⟨_, rfl, intsA_nil _ _, Below.refl _ _, fun _ => rfl⟩
  | true =>
    rw [ht] at hL
    obtain ⟨h1, h60, _⟩ := plL_open ht
    have hA := plAre_any w B v xs ha ht
    cases hr : areB xs with
    | false =>
      rw [hr] at hA
      rw [show fdO xs = none by unfold fdO fdB; rw [ht, hr]; rfl]
      obtain ⟨a, cap, rfl, _, _⟩ := intsA_slice ha
      have HL := Lib.hid hL; have HA := Lib.hid hA; clear hL ha ht hA hr
      go_enter Try.func24, Try.ntmps24
      go_wp2_with fail
      refine HL.out.mono ?_
      rintro e w1 ⟨rfl, rfl⟩
      go_wp2_with fail
      refine HA.out.mono ?_
      rintro e w1 ⟨rfl, hb⟩
      have HB := Lib.hid hb; clear hb
      go_wp2_with fail
      go_ret2
      exact ⟨_, rfl, intsA_nil _ _, HB.out, fun _ => rfl⟩
    | true =>
      rw [hr] at hA
      rw [show fdO xs = some (fmL xs) by unfold fdO fdB; rw [ht, hr]; rfl]
      have hok : okB xs = true := by unfold areB at hr; rw [Bool.and_eq_true] at hr; exact hr.1
      have hF := fun (W : World) (hb : Below w.heap.size w W) => plForm_any W B v xs (intsA_below ha hb) h1 (by omega) (okB_true hok ht)
      obtain ⟨a, cap, rfl, _, _⟩ := intsA_slice ha
      have HL := Lib.hid hL; have HA := Lib.hid hA; have HF := Lib.hid hF; clear hL ha ht hA hr hF hok
      go_enter Try.func24, Try.ntmps24
      go_wp2_with fail
      refine HL.out.mono ?_
      rintro e w1 ⟨rfl, rfl⟩
      go_wp2_with fail
      refine HA.out.mono ?_
      rintro e w1 ⟨rfl, hb⟩
      have HB := Lib.hid hb; clear hb
      go_wp2_with fail
      refine (HF.out w1 HB.out).mono ?_
      rintro e w2 ⟨u, rfl, ho, hb⟩
      have HO := Lib.hid ho; have HB1 := Lib.hid hb; clear ho hb
      go_wp2_with fail
      go_ret2
      exact ⟨_, rfl, intsA_mono (intsA_of HO.out) HB.out.size, below_trans HB.out HB1.out, fun h => by cases h⟩

set_option maxHeartbeats 2000000 in
theorem specAreDistances_any (w : World) (B : Nat) (v : Value) (xs : List Int) (ha : IntsA w B v xs) :
    Calls Try.prog 25 #[v] w fun e w' => e = .returned (.tuple #[.bool (fdB xs), .bool (plL xs)]) ∧ Below w.heap.size w w' := by
  have hL := plGood_any w B v xs ha
  cases ht : plL xs with
  | false =>
    rw [ht] at hL
    rw [show fdB xs = false by unfold fdB; rw [ht]; rfl]
    obtain ⟨a, cap, rfl, _, _⟩ := intsA_slice ha
    have HL := Lib.hid hL; clear hL ha ht
    go_enter Try.func25, Try.ntmps25
    go_wp2_with fail
    refine HL.out.mono ?_
    rintro e w1 ⟨rfl, rfl⟩
    go_wp2_with fail
    go_ret2
    exact ⟨rfl, Below.refl _ _⟩
  | true =>
    rw [ht] at hL
    have hI := plAre_any w B v xs ha ht
    rw [show areB xs = fdB xs by unfold fdB; rw [ht]; rfl] at hI
    obtain ⟨b, hbb⟩ : ∃ b, b = fdB xs := ⟨_, rfl⟩
    rw [← hbb] at hI ⊢
    obtain ⟨a, cap, rfl, _, _⟩ := intsA_slice ha
    have HL := Lib.hid hL; have HI := Lib.hid hI; clear hL ha ht hI hbb
    go_enter Try.func25, Try.ntmps25
    go_wp2_with fail
    refine HL.out.mono ?_
    rintro e w1 ⟨rfl, rfl⟩
    go_wp2_with fail
    refine HI.out.mono ?_
    rintro e w1 ⟨rfl, hb⟩
    have HB := Lib.hid hb; clear hb
    go_wp2_with fail
    go_ret2
    exact ⟨rfl, HB.out⟩
end Go.Proofs.Ytpglkgpaaflikaa
