/- Chapter 6: the program's AllForms, and the law. -/
import Derived.Test.YtpglkgpaaflikaaZ9
namespace Go.Proofs.Ytpglkgpaaflikaa
open Go.RowKit Go.BigFrame Go.Maps
set_option linter.unusedSimpArgs false
set_option linter.unusedVariables false
set_option maxRecDepth 4000

theorem rr_first (w : World) : IntsRR (w.alloc (.cells #[.slice none 0 0] 22)) w.heap.size (.slice (some ⟨w.heap.size, 0, none⟩) 1 1) [.slice none 0 0] (allF 0) := by
  refine ⟨own_lit w w.heap.size 22 [.slice none 0 0] (Nat.le_refl _) (by simp [maxLen]), rfl, ?_, ?_, ?_⟩
  · intro i u xs h1 h2
    cases i with
    | zero => simp [allF] at h1 h2; subst h1; subst h2; exact World.ownsRow_nil _ _ _ _
    | succ i => simp at h1
  · intro i j u u' hij h1 h2
    cases i with
    | zero =>
      cases j with
      | zero => exact absurd rfl hij
      | succ j => simp at h2
    | succ i => simp at h1
  · intro i u h1
    cases i with
    | zero => simp at h1; subst h1; intro g h2 _; cases h2
    | succ i => simp at h1
theorem allF_pos : ∀ k, 1 ≤ (allF k).length
  | 0 => by simp [allF]
  | k + 1 => by
    have h := allF_pos k
    obtain ⟨b, r, hb⟩ : ∃ b r, allF k = b :: r := by
      cases e : allF k with
      | nil => rw [e] at h; simp at h
      | cons b r => exact ⟨b, r, rfl⟩
    show 1 ≤ ((allF k).flatMap exts).length
    rw [hb, List.flatMap_cons, List.length_append, exts_len]
    omega

set_option maxHeartbeats 2000000 in
theorem implAllForms_any (n : Int) (w : World) :
    Calls Try.prog 29 #[.int .i64 n] w fun e w' => RROk (afO n) w w' e := by
  cases hd : afB n with
  | false =>
    rw [show afO n = none by unfold afO; rw [hd]; rfl]
    have HD := Lib.hid hd; clear hd
    go_enter Try.func29, Try.ntmps29
    go_wp2_with fail
    refine (isWithin_is false _ _ _ _ HD.out).mono ?_
    rintro e w1 ⟨rfl, rfl⟩
    go_wp2_with fail
    go_ret2
    exact ⟨_, _, rfl, rr_nil0 _ _, Below.refl _ _⟩
  | true =>
    rw [show afO n = some (allF n.toNat) by unfold afO; rw [hd]; rfl]
    have hn := of_decide_eq_true hd
    obtain ⟨K, rfl⟩ := Int.eq_ofNat_of_zero_le (show 0 ≤ n by omega)
    rw [Int.toNat_natCast]
    have hK7 : K ≤ 7 := by omega
    have hstep := fun (k : Nat) (hk : k < K) (W : World) (v : Value) (vs : List Value) (h : IntsRR W w.heap.size v vs (allF k)) => longerForms_any W w.heap.size v vs (allF k) k h (fun b hb => allF_mx k b hb) (by omega) (allF_pos k) (allF_len k (by omega)) (allF_len (k + 1) (by omega))
    have HD := Lib.hid hd; have HS := Lib.hid hstep; clear hd hstep hn
    go_enter Try.func29, Try.ntmps29
    go_wp2_with fail
    refine (isWithin_is true _ _ _ _ HD.out).mono ?_
    rintro e w1 ⟨rfl, rfl⟩
    go_wp2_with fail
    go_loopw [4, 10] (fun fv iv wr => ∃ (k : Nat) (vs : List Value), k ≤ K ∧ iv = .int .i64 k ∧ Hid (IntsRR wr w.heap.size fv vs (allF k) ∧ Below w.heap.size w wr)) (fun _ iv _ => K - (intOf iv).toNat)
    case atStart => exact ⟨0, _, Nat.zero_le _, rfl, rr_first w, below_alloc _ _⟩
    case round =>
      obtain ⟨k, vs, hk, rfl, HX⟩ := hrel
      by_cases hlt : k < K
      · have hcall := HS.out k hlt wr _ vs HX.out.1
        have HC := Lib.hid hcall; clear hcall
        go_wp2_with fail
        refine HC.out.mono ?_
        rintro e w2 ⟨v2, vs2, rfl, ho, hb⟩
        have HO := Lib.hid (ownsRR_mono ho HX.out.2.size); have HB := Lib.hid (below_trans HX.out.2 hb); clear ho hb
        go_wp2_with fail
        go_roundw
        case rel => exact ⟨k + 1, vs2, by omega, by go_num, HO.out, HB.out⟩
        case measure => simp [intOf] <;> omega
      · obtain rfl : k = K := by omega
        go_wp2_with fail
        go_ret2
        exact ⟨_, vs, rfl, HX.out.1, HX.out.2⟩

end Go.Proofs.Ytpglkgpaaflikaa
