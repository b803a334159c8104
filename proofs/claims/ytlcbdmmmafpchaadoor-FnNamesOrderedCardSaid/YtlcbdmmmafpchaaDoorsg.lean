/- Chapter 8: the model's RankInAlphabet. -/
import Derived.Test.YtlcbdmmmafpchaaDoorsf
namespace Go.Proofs.YtlcbdmmmafpchaaDoor
open Go.RowKit Go.BigFrame
set_option linter.unusedSimpArgs false
set_option linter.unusedVariables false
set_option maxRecDepth 4000

/-- How many of the first k numbers have letters that come before s. -/
def rnkF (s : List UInt8) : Nat → Nat
  | 0 => 0
  | k + 1 => rnkF s k + if blB (ltN k) s = true then 1 else 0
theorem rnkF_le (s : List UInt8) : ∀ k, rnkF s k ≤ k
  | 0 => Nat.le_refl _
  | k + 1 => by
    have := rnkF_le s k
    rw [rnkF]; split <;> omega
def rkB (n m : Int) : Bool := mlB m && decide (0 ≤ n ∧ n ≤ m)
def rkO (n m : Int) : Int := if rkB n m = true then (rnkF (ltN n.toNat) (m.toNat + 1) : Int) else 0

set_option maxHeartbeats 2000000 in
theorem specRankInAlphabet_any (n m : Int) (w : World) :
    Calls Tryd.prog 36 #[.int .i64 n, .int .i64 m] w fun e w' => e = .returned (.tuple #[.int .i64 (rkO n m), .bool (rkB n m)]) ∧ Below w.heap.size w w' := by
  have HG := Lib.hid (fun W => naMost_is m W)
  have HI := Lib.hid (fun (W : World) => l1In_is (decide (0 ≤ n ∧ n ≤ m)) n 0 m W rfl)
  obtain ⟨v, hv⟩ : ∃ v, v = decide (0 ≤ n ∧ n ≤ m) := ⟨_, rfl⟩
  rw [← hv] at HI
  cases hb : mlB m with
  | false =>
    have e1 : rkB n m = false := by unfold rkB; rw [hb]; rfl
    have e2 : rkO n m = 0 := by unfold rkO; rw [e1]; rfl
    rw [e1, e2]; rw [hb] at HG
    clear e1 e2 hb hv
    go_enter Tryd.func36, Tryd.ntmps36
    go_wp2_with fail
    refine (HG.out _).mono ?_
    rintro e w1 ⟨rfl, rfl⟩
    go_wp2_with fail
    go_ret2
    exact ⟨rfl, below_refl _⟩
  | true =>
    rw [hb] at HG
    cases v with
    | false =>
      have e1 : rkB n m = false := by unfold rkB; rw [hb, ← hv]; rfl
      have e2 : rkO n m = 0 := by unfold rkO; rw [e1]; rfl
      rw [e1, e2]
      clear e1 e2 hb hv
      go_enter Tryd.func36, Tryd.ntmps36
      go_wp2_with fail
      refine (HG.out _).mono ?_
      rintro e w1 ⟨rfl, rfl⟩
      go_wp2_with fail
      refine (HI.out _).mono ?_
      rintro e w1 ⟨rfl, rfl⟩
      go_wp2_with fail
      go_ret2
      exact ⟨rfl, below_refl _⟩
    | true =>
      obtain ⟨N, rfl, hN⟩ := mlB_parts hb
      have hnm : 0 ≤ n ∧ n ≤ (N : Int) := of_decide_eq_true hv.symm
      obtain ⟨a, rfl⟩ := Int.eq_ofNat_of_zero_le hnm.1
      have e1 : rkB (a : Int) (N : Int) = true := by unfold rkB; rw [hb, ← hv]; rfl
      have e2 : rkO (a : Int) (N : Int) = (rnkF (ltN a) (N + 1) : Int) := by unfold rkO; rw [e1]; rfl
      rw [e1, e2]
      have HL0 := Lib.hid (fun (W : World) => naLetters_any a W (by omega))
      obtain ⟨s, hs⟩ : ∃ s, s = ltN a := ⟨_, rfl⟩
      rw [← hs] at HL0 ⊢
      obtain ⟨R, hR⟩ : ∃ R, R = rnkF s (N + 1) := ⟨_, rfl⟩
      rw [← hR]
      have HR := Lib.hid hR
      have HLE := Lib.hid (fun k => rnkF_le s k)
      obtain ⟨t0, ht0⟩ : ∃ t0, t0 = bs s := ⟨_, rfl⟩
      rw [← ht0] at HL0
      have HT0 := Lib.hid ht0
      clear e1 e2 hb hv hs hR ht0 hnm
      go_enter Tryd.func36, Tryd.ntmps36
      go_wp2_with fail
      refine (HG.out _).mono ?_
      rintro e w1 ⟨rfl, rfl⟩
      go_wp2_with fail
      refine (HI.out _).mono ?_
      rintro e w1 ⟨rfl, rfl⟩
      go_wp2_with fail
      refine (HL0.out _).mono ?_
      rintro e w1 ⟨rfl, hb⟩
      have HB1 := Lib.hid hb; clear hb
      go_wp2_with fail
      go_loopw [6, 8] (fun cv kv wr => ∃ (k c : Nat), kv = .int .i64 (k : Int) ∧ cv = .int .i64 (c : Int) ∧ k ≤ N + 1 ∧ c ≤ k ∧ Hid (c = rnkF s k ∧ Below w.heap.size w wr)) (fun _ kv _ => N + 1 - (intOf kv).toNat)
      case atStart => exact ⟨0, 0, rfl, rfl, by omega, by omega, rfl, HB1.out⟩
      case round =>
        obtain ⟨k, c, rfl, rfl, hk, hc, HX⟩ := hrel
        by_cases hlt : k ≤ N
        · have hk2 : k ≤ 2000 := by omega
          have HL := Lib.hid (fun (W : World) => naLetters_any k W (by omega))
          obtain ⟨u, hu⟩ : ∃ u, u = bs (ltN k) := ⟨_, rfl⟩
          rw [← hu] at HL
          have hq : Op.bytesLess u.toList t0.toList = blB (ltN k) s := by rw [hu, HT0.out]; rfl
          have HN : Hid (rnkF s (k + 1) = c + if blB (ltN k) s = true then 1 else 0) := by rw [HX.out.1]; rfl
          have HBW := Lib.hid HX.out.2
          clear hu HX
          generalize blB (ltN k) s = v at *
          cases v with
          | true =>
            go_wp2_with fail
            refine (HL.out _).mono ?_
            rintro e w2 ⟨rfl, hb⟩
            have HB := Lib.hid (below_trans HBW.out hb); clear hb
            go_wp2_with fail
            go_roundw
            case rel => exact ⟨k + 1, c + 1, by go_num, by go_num, by omega, by omega, HN.out.symm, HB.out⟩
            case measure => simp [intOf] <;> omega
          | false =>
            go_wp2_with fail
            refine (HL.out _).mono ?_
            rintro e w2 ⟨rfl, hb⟩
            have HB := Lib.hid (below_trans HBW.out hb); clear hb
            go_wp2_with fail
            go_roundw
            case rel => exact ⟨k + 1, c, by go_num, by go_num, by omega, by omega, HN.out.symm, HB.out⟩
            case measure => simp [intOf] <;> omega
        · obtain rfl : k = N + 1 := by omega
          have HE : Hid (c = R) := by rw [HX.out.1, HR.out]; exact rfl
          have HBW := Lib.hid HX.out.2
          have hle : ¬ (N : Int) + 1 ≤ (N : Int) := by omega
          clear HX
          go_wp2_with fail
          go_ret2
          exact ⟨by rw [HE.out]; rfl, HBW.out⟩
end Go.Proofs.YtlcbdmmmafpchaaDoor
