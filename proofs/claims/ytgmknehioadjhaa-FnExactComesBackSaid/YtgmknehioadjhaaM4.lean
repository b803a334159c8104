/- The model's CountsLater. -/
import Derived.Test.YtgmknehioadjhaaM3
import Derived.Test.YtgmknehioadjhaaN8
namespace Go.Proofs.Ytgmknehioadjhaa
open Go.RowKit Go.BigFrame
set_option linter.unusedSimpArgs false
set_option linter.unusedVariables false
set_option maxRecDepth 4000

theorem tabQ_parts {l : List UInt8} {r : List (List UInt8)} (h : tabQ l = some r) : partsL l ≠ [] ∧ (partsL l).length ≤ 61 := by
  unfold tabQ at h
  split at h
  · rename_i hb
    obtain ⟨_, h1, h2⟩ := elB_parts hb
    have := parts_len h1
    refine ⟨fun e => ?_, by omega⟩
    have := congrArg List.length e
    rw [partsL_len] at this; simp at this
  · cases h
def inT (n : Int) : Bool := decide (0 ≤ n ∧ n ≤ 80)
def ltQ (l : List UInt8) (n : Int) : Option (List (List UInt8)) := if inT n = true then tabQ l else none
def ltB (l : List UInt8) (n : Int) : Bool := (ltQ l n).isSome
def ltC (l : List UInt8) (n : Int) : List Int := cntsL (partsL l) ((ltQ l n).getD []) n.toNat
theorem ltC_some {l : List UInt8} {n : Int} {ns : List (List UInt8)} (h : tabQ l = some ns) (hn : inT n = true) : ltB l n = true ∧ ltC l n = cntsL (partsL l) ns n.toNat := by
  unfold ltB ltC ltQ
  rw [if_pos hn, h]; exact ⟨rfl, rfl⟩
theorem ltB_none {l : List UInt8} {n : Int} (h : tabQ l = none) : ltB l n = false := by
  unfold ltB ltQ
  split <;> simp [h]
theorem ltB_out {l : List UInt8} {n : Int} (h : inT n = false) : ltB l n = false := by
  unfold ltB ltQ
  rw [h]; rfl
theorem elTimes_is (b : Bool) (n : Int) (w : World) (h : inT n = b) : Calls Try.prog 39 #[.int .i64 n] w fun e w' => e = .returned (.bool b) ∧ w = w' := by
  have HL := Lib.hid (fun W => l1In_is b n 0 80 W h)
  clear h
  go_enter Try.func39, Try.ntmps39
  go_wp2_with fail
  refine (HL.out _).mono ?_
  rintro e w1 ⟨rfl, rfl⟩
  go_wp2_with fail
  go_ret
  exact ⟨rfl, rfl⟩

set_option maxHeartbeats 2000000 in
theorem specCountsLater_any (s : ByteArray) (n : Int) (w : World) (hs : s.size ≤ maxLen) :
    Calls Try.prog 19 #[.string s, .int .i64 n] w fun e w' => IntsOk (ltB s.data.toList n) (ltC s.data.toList n) w w' e := by
  have HA := Lib.hid (fun (W : World) => elAsked_any s W hs)
  obtain ⟨l, hl⟩ : ∃ l, l = s.data.toList := ⟨_, rfl⟩
  rw [← hl] at HA ⊢
  clear hl
  cases hR : tabQ l with
  | none =>
    rw [hR] at HA
    have HB : Hid (ltB l n = false) := Lib.hid (ltB_none hR)
    clear hR
    go_enter Try.func19, Try.ntmps19
    go_wp2_with fail
    refine (HA.out w).mono ?_
    rintro e w1 hpost
    have hB1 := hpost.2.2
    obtain rfl := hpost.1 rfl
    have HB1 := Lib.hid hB1
    clear hpost hB1 HA
    go_wp2_with fail
    go_ret2
    exact ⟨_, by rw [HB.out]; rfl, by rw [HB.out]; exact World.ownsRow_nil _ _ _ _, HB1.out⟩
  | some ns =>
    rw [hR] at HA
    have h0 := tabQ_ok hR
    have h1 := tabQ_le hR
    have h2 := tabQ_parts hR
    cases hT : inT n with
    | false =>
      have HE := Lib.hid (fun W => elTimes_is false n W hT)
      have HB : Hid (ltB l n = false) := Lib.hid (ltB_out hT)
      clear hR h0 h1 h2 hT
      go_enter Try.func19, Try.ntmps19
      go_wp2_with fail
      refine (HA.out w).mono ?_
      rintro e w1 hpost
      have hB1 := hpost.2.2
      obtain ⟨tp, nd, xb, v0, v1, v2, rfl, _, _⟩ := hpost.2.1 ns rfl
      have HB1 := Lib.hid hB1
      clear hpost hB1 HA
      go_wp2_with fail
      refine (HE.out _).mono ?_
      rintro e w2 ⟨rfl, rfl⟩
      go_wp2_with fail
      go_ret2
      exact ⟨_, by rw [HB.out]; rfl, by rw [HB.out]; exact World.ownsRow_nil _ _ _ _, HB1.out⟩
    | true =>
      have HE := Lib.hid (fun W => elTimes_is true n W hT)
      obtain ⟨hb, hc⟩ := ltC_some hR hT
      obtain ⟨t, rfl⟩ : ∃ t : Nat, n = t := ⟨n.toNat, by unfold inT at hT; simp at hT; omega⟩
      have ht9 : t ≤ 80 := by unfold inT at hT; simp at hT; omega
      rw [Int.toNat_natCast] at hc
      have HBB := Lib.hid hb; have HCC := Lib.hid hc; have H0 := Lib.hid h0; have H1 := Lib.hid h1; have H2 := Lib.hid h2
      clear hR h0 h1 h2 hT hb hc
      go_enter Try.func19, Try.ntmps19
      go_wp2_with fail
      refine (HA.out w).mono ?_
      rintro e w1 hpost
      have hB1 := hpost.2.2
      obtain ⟨tp, nd, xb, v0, v1, v2, rfl, hT1, hR1⟩ := hpost.2.1 ns rfl
      have HL := Lib.hid (later_any w1 w.heap.size tp nd xb v0 v1 v2 (partsL l) ns t ht9 hT1 hR1 H1.out H0.out.2 H2.out.1 (by have := H2.out.2; omega) H0.out.1)
      have HB1 := Lib.hid hB1
      clear hpost hB1 HA hT1 hR1
      go_wp2_with fail
      refine (HE.out _).mono ?_
      rintro e w2 ⟨rfl, rfl⟩
      go_wp2_with fail
      refine HL.out.mono ?_
      rintro e w3 ⟨v, rfl, hv, hb3⟩
      have HV := Lib.hid hv; have HB3 := Lib.hid hb3
      clear hv hb3 HL
      go_wp2_with fail
      go_ret2
      exact ⟨_, by rw [HBB.out]; rfl, by rw [HBB.out, if_pos rfl, HCC.out]; exact own_mono HV.out HB1.out.size, HB1.out.trans (HB3.out.mono HB1.out.size)⟩
end Go.Proofs.Ytgmknehioadjhaa
