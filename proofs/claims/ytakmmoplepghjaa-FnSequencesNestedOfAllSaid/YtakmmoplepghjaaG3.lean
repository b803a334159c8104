/- The other three rules: each tells the next number from those that the map holds. -/
import Derived.Test.YtakmmoplepghjaaG2
namespace Go.Proofs.Ytakmmoplepghjaa
open Go.RowKit Go.BigFrame Go.Maps
set_option linter.unusedSimpArgs false
set_option linter.unusedVariables false
set_option maxRecDepth 4000

set_option maxHeartbeats 1000000 in
theorem back_any (w : World) (b n k : Nat) (D : DataW Unit) (hown : OwnI w b n D) (hD : SeqD D 1 k bac) (hk : k + 1 ≤ 3000) :
    Calls Try.prog 62 #[.map (some b), .int .i64 ((k : Int) + 1)] w fun e w' => e = .returned (.int .i64 (bac (k + 1) : Nat)) ∧ w = w' := by
  have HO := Lib.hid hown; have HD := Lib.hid hD
  by_cases h0 : k ≤ 1
  · have e : bac (k + 1) = 1 := by
      have : k = 0 ∨ k = 1 := by omega
      rcases this with rfl | rfl
      · exact bac_two.2.1
      · exact bac_two.2.2
    have HE := Lib.hid e; clear e
    go_enter Try.func62, Try.ntmps62
    go_wp2
    go_ret
    exact ⟨by rw [HE.out]; rfl, rfl⟩
  · have h1 := (bac_in k (by omega))
    have h1l := h1.2.2
    have h1p := h1.2.1 (by omega)
    have hr := bac_rec (k + 1) (by omega) (by omega)
    rw [Nat.add_sub_cancel] at hr
    have h2 := bac_in (bac k) (by omega)
    have h3 := bac_in (k + 1 - bac k) (by omega)
    obtain ⟨x, hx⟩ : ∃ x, x = bac k := ⟨_, rfl⟩
    rw [← hx] at h1l h1p hr h2 h3
    obtain ⟨y, hy⟩ : ∃ y, y = bac x := ⟨_, rfl⟩
    obtain ⟨z, hz⟩ : ∃ z, z = bac (k + 1 - x) := ⟨_, rfl⟩
    rw [← hy] at h2 hr
    rw [← hz] at h3 hr
    have h2l := h2.2.2; have h3l := h3.2.2
    have HX := Lib.hid hx; have HY := Lib.hid hy; have HZ := Lib.hid hz; have HR := Lib.hid hr
    clear hx hy hz hr hown hD h1 h2 h3
    go_enter Try.func62, Try.ntmps62
    go_wp2_with (at_lookup; refine wpList_lookup_own_int _ rfl _ _ 43 rfl 3 3 .i64 lawI Try.underlying43 Try.underlying3 (zeroI _) b n _ rfl HO.out _ _ rfl (keyOf_int_mk Try.underlying3 (wfI (by omega) (by omega))) ?_; intro c hat hwc; (first
      | (have hq : c = (x : Nat) := by
          rw [HX.out]; exact HD.out.at_eq hat k (by omega) (by omega) (by omega)
         obtain rfl := hq; clear hat hwc)
      | (have hq : c = (y : Nat) := by
          rw [HY.out]; exact HD.out.at_eq hat x (by omega) (by omega) (by omega)
         obtain rfl := hq; clear hat hwc)
      | (have hq : c = (z : Nat) := by
          rw [HZ.out]; exact HD.out.at_eq hat (k + 1 - x) (by omega) (by omega) (by omega)
         obtain rfl := hq; clear hat hwc)))
    go_ret
    exact ⟨by rw [HR.out]; simp, rfl⟩

set_option maxHeartbeats 1000000 in
theorem wild_any (w : World) (b n k : Nat) (D : DataW Unit) (hown : OwnI w b n D) (hD : SeqD D 1 k wil) (hk : k + 1 ≤ 3000) :
    Calls Try.prog 71 #[.map (some b), .int .i64 ((k : Int) + 1)] w fun e w' => e = .returned (.int .i64 (wil (k + 1) : Nat)) ∧ w = w' := by
  have HO := Lib.hid hown; have HD := Lib.hid hD
  by_cases h0 : k ≤ 1
  · have e : wil (k + 1) = 1 := by
      have : k = 0 ∨ k = 1 := by omega
      rcases this with rfl | rfl
      · exact wil_two.2.1
      · exact wil_two.2.2
    have HE := Lib.hid e; clear e
    go_enter Try.func71, Try.ntmps71
    go_wp2
    go_ret
    exact ⟨by rw [HE.out]; rfl, rfl⟩
  · have h1 := (wil_in k (by omega))
    have h1l := h1.2.2
    have h1p := h1.2.1 (by omega)
    have h4 := (wil_in (k - 1) (by omega))
    have h4l := h4.2.2
    have h4p := h4.2.1 (by omega)
    have hr := wil_rec (k + 1) (by omega) (by omega)
    rw [Nat.add_sub_cancel, show k + 1 - 2 = k - 1 by omega] at hr
    have h2 := wil_in (k + 1 - wil k) (by omega)
    have h3 := wil_in (k + 1 - wil (k - 1)) (by omega)
    obtain ⟨x, hx⟩ : ∃ x, x = wil k := ⟨_, rfl⟩
    obtain ⟨u, hu⟩ : ∃ u, u = wil (k - 1) := ⟨_, rfl⟩
    rw [← hx] at h1l h1p hr h2
    rw [← hu] at h4l h4p hr h3
    obtain ⟨y, hy⟩ : ∃ y, y = wil (k + 1 - x) := ⟨_, rfl⟩
    obtain ⟨z, hz⟩ : ∃ z, z = wil (k + 1 - u) := ⟨_, rfl⟩
    rw [← hy] at h2 hr
    rw [← hz] at h3 hr
    have h2l := h2.2.2; have h3l := h3.2.2
    have HX := Lib.hid hx; have HU := Lib.hid hu; have HY := Lib.hid hy; have HZ := Lib.hid hz; have HR := Lib.hid hr
    clear hx hu hy hz hr hown hD h1 h2 h3 h4
    go_enter Try.func71, Try.ntmps71
    go_wp2_with (at_lookup; refine wpList_lookup_own_int _ rfl _ _ 43 rfl 3 3 .i64 lawI Try.underlying43 Try.underlying3 (zeroI _) b n _ rfl HO.out _ _ rfl (keyOf_int_mk Try.underlying3 (wfI (by omega) (by omega))) ?_; intro c hat hwc; (first
      | (have hq : c = (x : Nat) := by
          rw [HX.out]; exact HD.out.at_eq hat k (by omega) (by omega) (by omega)
         obtain rfl := hq; clear hat hwc)
      | (have hq : c = (u : Nat) := by
          rw [HU.out]; exact HD.out.at_eq hat (k - 1) (by omega) (by omega) (by omega)
         obtain rfl := hq; clear hat hwc)
      | (have hq : c = (y : Nat) := by
          rw [HY.out]; exact HD.out.at_eq hat (k + 1 - x) (by omega) (by omega) (by omega)
         obtain rfl := hq; clear hat hwc)
      | (have hq : c = (z : Nat) := by
          rw [HZ.out]; exact HD.out.at_eq hat (k + 1 - u) (by omega) (by omega) (by omega)
         obtain rfl := hq; clear hat hwc)))
    go_ret
    exact ⟨by rw [HR.out]; simp, rfl⟩

set_option maxHeartbeats 1000000 in
theorem nested_any (w : World) (b n k : Nat) (D : DataW Unit) (hown : OwnI w b n D) (hD : SeqD D 0 k nes) (hk : k ≤ 3009) :
    Calls Try.prog 68 #[.map (some b), .int .i64 (k : Int)] w fun e w' => e = .returned (.int .i64 (nes k : Nat)) ∧ w = w' := by
  have HO := Lib.hid hown; have HD := Lib.hid hD
  by_cases h0 : k = 0
  · subst h0
    go_enter Try.func68, Try.ntmps68
    go_wp2
    go_ret
    exact ⟨by rw [nes_one.1]; rfl, rfl⟩
  · have h1 := nes_in (k - 1) (by omega)
    have h1l := h1.1
    have hr := nes_rec k (by omega) (by omega)
    have h2 := nes_in (nes (k - 1)) (by omega)
    have h2l := h2.1
    obtain ⟨x, hx⟩ : ∃ x, x = nes (k - 1) := ⟨_, rfl⟩
    rw [← hx] at h1l hr h2l
    obtain ⟨y, hy⟩ : ∃ y, y = nes x := ⟨_, rfl⟩
    rw [← hy] at h2l hr
    have hxk : x ≤ k - 1 := h1l
    have HX := Lib.hid hx; have HY := Lib.hid hy; have HR := Lib.hid hr
    have e0 : ((k : Int) == 0) = false := by simp; omega
    clear hx hy hr hown hD h1 h2
    go_enter Try.func68, Try.ntmps68
    go_wp2_with (at_lookup; refine wpList_lookup_own_int _ rfl _ _ 43 rfl 3 3 .i64 lawI Try.underlying43 Try.underlying3 (zeroI _) b n _ rfl HO.out _ _ rfl (keyOf_int_mk Try.underlying3 (wfI (by omega) (by omega))) ?_; intro c hat hwc; (first
      | (have hq : c = (x : Nat) := by
          rw [HX.out]; exact HD.out.at_eq hat (k - 1) (by omega) (by omega) (by omega)
         obtain rfl := hq; clear hat hwc)
      | (have hq : c = (y : Nat) := by
          rw [HY.out]; exact HD.out.at_eq hat x (by omega) (by omega) (by omega)
         obtain rfl := hq; clear hat hwc)))
    go_ret
    exact ⟨by rw [HR.out, show ((k - y : Nat) : Int) = (k : Int) - (y : Int) by omega]; rfl, rfl⟩
end Go.Proofs.Ytakmmoplepghjaa
