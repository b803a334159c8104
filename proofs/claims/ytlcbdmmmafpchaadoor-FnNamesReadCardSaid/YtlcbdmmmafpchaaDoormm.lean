/- Chapter 8: sums of letters, the first number with a letter, numbers with so many letters: both sides and their laws. -/
import Derived.Test.YtlcbdmmmafpchaaDoorml
import Derived.Test.YtlcbdmmmafpchaaDoorMA
namespace Go.Proofs.YtlcbdmmmafpchaaDoor
open Go.RowKit Go.BigFrame
set_option linter.unusedSimpArgs false
set_option linter.unusedVariables false
set_option maxRecDepth 4000

def mlB (n : Int) : Bool := decide (0 ≤ n ∧ n ≤ 2000)
theorem mlB_parts {n : Int} (h : mlB n = true) : ∃ k : Nat, n = (k : Int) ∧ k ≤ 2000 := by
  have : 0 ≤ n ∧ n ≤ 2000 := of_decide_eq_true h
  exact ⟨n.toNat, by omega, by omega⟩
def smF : Nat → Nat
  | 0 => 0
  | k + 1 => smF k + (ltN (k + 1)).length
theorem smF_le : ∀ k, k ≤ 2000 → smF k ≤ 64 * k
  | 0, _ => Nat.le_refl _
  | k + 1, h => by
    have := smF_le k (by omega)
    have := ltN_len (k + 1) (by omega)
    rw [smF]; omega
def sumO (n : Int) : Int := if mlB n = true then (smF n.toNat : Int) else 0
/-- The first number from n on, of the next f, with a letter. -/
def fwK (c : UInt8) : Nat → Nat → Option Nat
  | 0, _ => none
  | f + 1, n => if 0 < (ltN n).count c then some n else fwK c f (n + 1)
def fwR (s : List UInt8) : Option Nat := if letB s = true then fwK (s.getD 0 0) 1001 0 else none
def fwO (s : List UInt8) : Int := match fwR s with
  | some n => (n : Int)
  | none => 0
/-- The first k numbers with so many letters. -/
def wlK (L : Int) : Nat → List Int
  | 0 => []
  | k + 1 => wlK L k ++ if ((ltN k).length : Int) = L then [(k : Int)] else []
theorem wlK_len (L : Int) : ∀ k, (wlK L k).length ≤ k
  | 0 => Nat.le_refl _
  | k + 1 => by
    have := wlK_len L k
    rw [wlK, List.length_append]
    split <;> simp <;> omega
def wlB (L m : Int) : Bool := decide (0 ≤ L) && mlB m
def wlO (L m : Int) : List Int := if wlB L m = true then wlK L (m.toNat + 1) else []

theorem naMost_is (n : Int) (w : World) : Calls Tryd.prog 81 #[.int .i64 n] w fun e w' => e = .returned (.bool (mlB n)) ∧ w = w' := by
  obtain ⟨b, hb⟩ : ∃ b, b = mlB n := ⟨_, rfl⟩
  rw [← hb]
  have H := Lib.hid (l1In_is b n 0 2000 w hb.symm)
  clear hb
  go_enter Tryd.func81, Tryd.ntmps81
  go_wp2_with fail
  refine H.out.mono ?_
  rintro e w1 ⟨rfl, rfl⟩
  go_wp2_with fail
  go_ret
  exact ⟨rfl, rfl⟩

theorem canLook_is (n : Int) (w : World) : Calls Tryd.prog 76 #[.int .i64 n] w fun e w' => e = .returned (.bool (mlB n)) ∧ w = w' := by
  obtain ⟨b, hb⟩ : ∃ b, b = mlB n := ⟨_, rfl⟩
  rw [← hb]
  have H := Lib.hid (isWithin_is b n 0 2000 w hb.symm)
  clear hb
  go_enter Tryd.func76, Tryd.ntmps76
  go_wp2_with fail
  refine H.out.mono ?_
  rintro e w1 ⟨rfl, rfl⟩
  go_wp2_with fail
  go_ret
  exact ⟨rfl, rfl⟩

/-- The number of letters, as the program counts it. -/
theorem lettersOf_two (k : Nat) (w : World) (h : k < 1000000) : ∀ W, Calls Tryd.prog 55 #[aggT (cntA (ltN k))] W fun e w' => e = .returned (.int .i64 ((ltN k).length : Int)) ∧ Below W.heap.size W w' := fun W => by
  have := letters_any (cntA (ltN k)) W (cntA_len _) (by rw [cntA_sum _ (ltN_all k)]; have := ltN_len k h; omega)
  rw [cntA_sum _ (ltN_all k)] at this
  exact this

set_option maxHeartbeats 1000000 in
theorem specSumOfLetters_any (n : Int) (w : World) :
    Calls Tryd.prog 49 #[.int .i64 n] w fun e w' => e = .returned (.tuple #[.int .i64 (sumO n), .bool (mlB n)]) ∧ Below w.heap.size w w' := by
  have HG := Lib.hid (fun W => naMost_is n W)
  cases hb : mlB n with
  | false =>
    have e : sumO n = 0 := by unfold sumO; rw [hb]; rfl
    rw [e]; rw [hb] at HG
    clear e hb
    go_enter Tryd.func49, Tryd.ntmps49
    go_wp2_with fail
    refine (HG.out _).mono ?_
    rintro e w1 ⟨rfl, rfl⟩
    go_wp2_with fail
    go_ret2
    exact ⟨rfl, below_refl _⟩
  | true =>
    obtain ⟨N, rfl, hN⟩ := mlB_parts hb
    have e : sumO (N : Int) = (smF N : Int) := by unfold sumO; rw [hb]; rfl
    rw [e]; rw [hb] at HG
    obtain ⟨R, hR⟩ : ∃ R, R = smF N := ⟨_, rfl⟩
    rw [← hR]
    have HR := Lib.hid hR
    clear e hb hR
    go_enter Tryd.func49, Tryd.ntmps49
    go_wp2_with fail
    refine (HG.out _).mono ?_
    rintro e w1 ⟨rfl, rfl⟩
    go_wp2_with fail
    go_loopw [4, 5] (fun sv iv wr => ∃ (k m k1 : Nat), k1 = k + 1 ∧ k ≤ N ∧ iv = .int .i64 (k1 : Int) ∧ sv = .int .i64 (m : Int) ∧ m ≤ 64 * k ∧ Hid (m = smF k ∧ Below w.heap.size w wr)) (fun _ iv _ => N + 1 - (intOf iv).toNat)
    case atStart => exact ⟨0, 0, 1, rfl, Nat.zero_le _, rfl, rfl, Nat.le_refl _, rfl, below_refl _⟩
    case round =>
      obtain ⟨k, m, k1, hk1, hk, rfl, rfl, hm, HX⟩ := hrel
      by_cases hlt : k < N
      · have hlen := ltN_len (k + 1) (by omega)
        obtain ⟨M, hM⟩ : ∃ M, M = (ltN (k + 1)).length := ⟨_, rfl⟩
        have hsm : m + M = smF (k + 1) := by rw [smF, HX.out.1, hM]
        rw [← hM] at hlen
        have HSM := Lib.hid hsm
        have HL := Lib.hid (fun (W : World) => naLetters_any (k + 1) W (by omega))
        have hle : (k1 : Int) ≤ (N : Int) := by omega
        rw [← hk1] at HL hM
        have hk1' : k1 ≤ 2000 := by omega
        have HK := Lib.hid hk1
        clear hsm hk1
        obtain ⟨t, ht⟩ : ∃ t, t = bs (ltN k1) := ⟨_, rfl⟩
        have hsz : t.size = M := by rw [ht, bs_size, hM]
        rw [← ht] at HL
        clear ht hM
        go_wp2_with fail
        refine (HL.out _).mono ?_
        rintro e w1 ⟨rfl, hb⟩
        have HB := Lib.hid (below_trans HX.out.2 hb); clear hb
        go_wp2_with fail
        go_roundw
        case rel => exact ⟨k + 1, m + M, k1 + 1, by have := HK.out; omega, by omega, by go_num, by go_num, by omega, HSM.out, HB.out⟩
        case measure => simp [intOf] <;> omega
      · obtain rfl : k = N := by omega
        have hm2 : m = R := by rw [HX.out.1, HR.out]
        subst hm2
        have hle : ¬ (k1 : Int) ≤ (k : Int) := by omega
        have HK := Lib.hid hk1
        clear hk1
        go_wp2_with fail
        go_ret2
        exact ⟨rfl, HX.out.2⟩

set_option maxHeartbeats 1000000 in
theorem implSumOfLetters_any (n : Int) (w : World) (NA : NamesAt w) :
    Calls Tryd.prog 48 #[.int .i64 n] w fun e w' => e = .returned (.tuple #[.int .i64 (sumO n), .bool (mlB n)]) ∧ Below w.heap.size w w' := by
  have HG := Lib.hid (fun W => canLook_is n W)
  cases hb : mlB n with
  | false =>
    have e : sumO n = 0 := by unfold sumO; rw [hb]; rfl
    rw [e]; rw [hb] at HG
    clear e hb NA
    go_enter Tryd.func48, Tryd.ntmps48
    go_wp2_with fail
    refine (HG.out _).mono ?_
    rintro e w1 ⟨rfl, rfl⟩
    go_wp2_with fail
    go_ret2
    exact ⟨rfl, below_refl _⟩
  | true =>
    obtain ⟨N, rfl, hN⟩ := mlB_parts hb
    have e : sumO (N : Int) = (smF N : Int) := by unfold sumO; rw [hb]; rfl
    rw [e]; rw [hb] at HG
    obtain ⟨R, hR⟩ : ∃ R, R = smF N := ⟨_, rfl⟩
    rw [← hR]
    have HR := Lib.hid hR
    have NAH := Lib.hid NA
    clear e hb hR NA
    go_enter Tryd.func48, Tryd.ntmps48
    go_wp2_with fail
    refine (HG.out _).mono ?_
    rintro e w1 ⟨rfl, rfl⟩
    go_wp2_with fail
    go_loopw [4, 5] (fun sv iv wr => ∃ (k m k1 : Nat), k1 = k + 1 ∧ k ≤ N ∧ iv = .int .i64 (k1 : Int) ∧ sv = .int .i64 (m : Int) ∧ m ≤ 64 * k ∧ Hid (m = smF k ∧ Below w.heap.size w wr)) (fun _ iv _ => N + 1 - (intOf iv).toNat)
    case atStart => exact ⟨0, 0, 1, rfl, Nat.zero_le _, rfl, rfl, Nat.le_refl _, rfl, below_refl _⟩
    case round =>
      obtain ⟨k, m, k1, hk1, hk, rfl, rfl, hm, HX⟩ := hrel
      by_cases hlt : k < N
      · have hlen := ltN_len (k + 1) (by omega)
        obtain ⟨M, hM⟩ : ∃ M, M = (ltN (k + 1)).length := ⟨_, rfl⟩
        have hsm : m + M = smF (k + 1) := by rw [smF, HX.out.1, hM]
        rw [← hM] at hlen
        have HSM := Lib.hid hsm
        have HL := Lib.hid (spellingOf_any (k + 1) wr (by omega) (NAH.out.below HX.out.2))
        have HT := Lib.hid (lettersOf_two (k + 1) wr (by omega))
        have hle : (k1 : Int) ≤ (N : Int) := by omega
        rw [← hk1] at HL HT hM
        have hk1' : k1 ≤ 2000 := by omega
        have HK := Lib.hid hk1
        clear hsm hk1
        rw [← hM] at HT
        generalize aggT (cntA (ltN k1)) = A at *
        clear hM
        go_wp2_with fail
        refine HL.out.mono ?_
        rintro e w1 ⟨rfl, hb⟩
        have HB1 := Lib.hid (below_trans HX.out.2 hb); clear hb
        go_wp2_with fail
        refine (HT.out _).mono ?_
        rintro e w2 ⟨rfl, hb⟩
        have HB := Lib.hid (below_trans HB1.out hb); clear hb
        go_wp2_with fail
        go_roundw
        case rel => exact ⟨k + 1, m + M, k1 + 1, by have := HK.out; omega, by omega, by go_num, by go_num, by omega, HSM.out, HB.out⟩
        case measure => simp [intOf] <;> omega
      · obtain rfl : k = N := by omega
        have hm2 : m = R := by rw [HX.out.1, HR.out]
        subst hm2
        have hle : ¬ (k1 : Int) ≤ (k : Int) := by omega
        have HK := Lib.hid hk1
        clear hk1
        go_wp2_with fail
        go_ret2
        exact ⟨rfl, HX.out.2⟩

end Go.Proofs.YtlcbdmmmafpchaaDoor
