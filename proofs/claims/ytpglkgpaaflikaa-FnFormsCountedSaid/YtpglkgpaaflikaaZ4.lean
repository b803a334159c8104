/- Chapter 6: EckFirst on both sides (the program jumps back to a label), and the law. -/
import Derived.Test.YtpglkgpaaflikaaZ3
import Derived.ScopeJumps
import Derived.WalkMore
namespace Go.Proofs.Ytpglkgpaaflikaa
open Go.RowKit Go.BigFrame Go.Maps
set_option linter.unusedSimpArgs false
set_option linter.unusedVariables false
set_option maxRecDepth 4000

theorem wp_scope_again {P : Program} {a : Act} {w : World} {Q : Exit → Act → World → Prop} {c rest : Code} (l : Nat) (J : Act → World → Prop) (μ : Act → World → Nat) (hf : findLabel c l = some (Code.seq Code.skip rest))
    (pass : ∀ a w, J a w → rest.wp P (Exit.jump l (fun a' w' => J a' w' ∧ μ a' w' < μ a w) Q) a w)
    (first : (∀ a w, J a w → rest.wp P (Exit.jump l J Q) a w) → c.wp P (Exit.jump l J Q) a w) : (Code.scope c).wp P Q a w :=
  wp_scope_jumps l J μ hf (first fun a w h => Code.wp_mono (fun e a' w' h' => by
    cases e
    case goto l' => exact ⟨h'.1, h'.2.1⟩
    all_goals exact h') (pass a w h)) (fun a w h => wp_seq (wp_skip (pass a w h)))

/-- The least index from i on, among d, at which a number stands. -/
def fstE (s : Nat → Int) (y : Int) : Nat → Nat → Option Nat
  | _, 0 => none
  | i, d + 1 => if s i = y then some i else fstE s y (i + 1) d
def efO (ns : List Int) (y : Int) : Option Nat := if (plL ns && decide (0 ≤ y)) = true then fstE (eckS ns) y 0 5000 else none
theorem upL_get {s : Nat → Int} {M : Nat} {L : List Int} (h : L = upL s M) (i : Nat) (hi : i < L.length) : L[i] = s i := by
  subst h
  exact upL_at (by rw [upL_len] at hi; exact hi)
theorem efO_ok {ns : List Int} {y : Int} (h : plL ns = true) (hy : ¬ y < 0) : efO ns y = fstE (eckS ns) y 0 5000 := by
  unfold efO
  exact if_pos (by rw [h, decide_eq_true (by omega)]; rfl)
def efV (o : Option Nat) : Int := match o with
  | some i => (i : Int) + 1
  | none => 0

set_option maxHeartbeats 2000000 in
theorem specEckFirst_any (w : World) (B : Nat) (v : Value) (xs : List Int) (n : Int) (ha : IntsA w B v xs) :
    Calls Try.prog 49 #[v, .int .i64 n] w fun e w' => e = .returned (.tuple #[.int .i64 (efV (efO xs n)), .bool (efO xs n).isSome]) ∧ Below w.heap.size w w' := by
  have hL := plGood_any w B v xs ha
  cases ht : plL xs with
  | false =>
    rw [ht] at hL
    rw [show efO xs n = none by unfold efO; rw [ht]; rfl]
    obtain ⟨a, cap, rfl, _, _⟩ := intsA_slice ha
    have HL := Lib.hid hL; clear hL ha ht
    go_enter Try.func49, Try.ntmps49
    go_wp2_with fail
    refine HL.out.mono ?_
    rintro e w1 ⟨rfl, rfl⟩
    go_wp2_with fail
    go_ret2
    exact ⟨rfl, Below.refl _ _⟩
  | true =>
    rw [ht] at hL
    by_cases hn : n < 0
    · rw [show efO xs n = none by unfold efO; rw [ht, decide_eq_false (by omega)]; rfl]
      obtain ⟨a, cap, rfl, _, _⟩ := intsA_slice ha
      have HL := Lib.hid hL; clear hL ha ht
      go_enter Try.func49, Try.ntmps49
      go_wp2_with fail
      refine HL.out.mono ?_
      rintro e w1 ⟨rfl, rfl⟩
      go_wp2_with fail
      go_ret2
      exact ⟨rfl, Below.refl _ _⟩
    · rw [efO_ok ht hn]
      have hE := plEck_any w B v xs 5000 ha ht (by omega)
      have e5 : ((5000 : Nat) : Int) = 5000 := by simp
      rw [e5] at hE
      clear e5
      obtain ⟨O, hO⟩ : ∃ O, O = fstE (eckS xs) n 0 5000 := ⟨_, rfl⟩
      rw [← hO]
      obtain ⟨L, hL2⟩ : ∃ L, L = upL (eckS xs) 5000 := ⟨_, rfl⟩
      rw [← hL2] at hE
      have hat : ∀ i (h : i < L.length), L[i] = eckS xs i := fun i h => upL_get hL2 i h
      have hlen : L.length = 5000 := by rw [hL2, upL_len]
      rw [← hlen] at hO
      obtain ⟨a, cap, rfl, _, _⟩ := intsA_slice ha
      have HL := Lib.hid hL; have HE := Lib.hid hE; have HO := Lib.hid hO; have HAT := Lib.hid hat; have HLEN := Lib.hid hlen
      clear hL ha ht hE hO hL2 hat hlen
      go_enter Try.func49, Try.ntmps49
      go_wp2_with fail
      refine HL.out.mono ?_
      rintro e w1 ⟨rfl, rfl⟩
      go_wp2_with fail
      refine HE.out.mono ?_
      rintro e w2 ⟨u, rfl, hu, hb⟩
      obtain ⟨K, hK⟩ : ∃ K, K = L.length := ⟨_, rfl⟩
      rcases ints_open hu with ⟨_, h0⟩ | ⟨g, c, rfl, h1, h2, h3, h4, h5, _⟩
      · have := congrArg List.length h0; rw [HLEN.out] at this; simp at this
      · have hc : ∀ i, i < K → w2.cell? ⟨g, i, none⟩ = some (.int .i64 (eckS xs i)) := fun i hi => by
          rw [h5 i (by rw [← hK]; exact hi), HAT.out]
        have HB := Lib.hid hb; have HC := Lib.hid hc; have HO2 : Hid (O = fstE (eckS xs) n 0 K) := Lib.hid (by rw [hK]; exact HO.out)
        rw [← hK] at h3 ⊢
        clear hu h5 hb hc hK
        go_wp2_with fail
        go_loop [18] (fun iv => ∃ k : Nat, k ≤ K ∧ iv = .int .i64 k ∧ Hid (O = fstE (eckS xs) n k (K - k))) (fun iv => K - (intOf iv).toNat)
        case atStart => exact ⟨0, Nat.zero_le _, rfl, HO2⟩
        case round =>
          obtain ⟨k, hk, rfl, HX⟩ := hrel
          by_cases hlt : k < K
          · have h2' := HC.out k hlt
            have hstep : O = if eckS xs k = n then some k else fstE (eckS xs) n (k + 1) (K - (k + 1)) := by
              rw [HX.out, show K - k = (K - (k + 1)) + 1 by omega]; rfl
            obtain ⟨x, hx⟩ : ∃ x, x = eckS xs k := ⟨_, rfl⟩
            rw [← hx] at h2' hstep
            clear hx
            by_cases he : x = n
            · rw [if_pos he] at hstep
              have hbe : (x == n) = true := by simpa using he
              have HS := Lib.hid hstep
              clear he hstep
              go_wp2_with fail
              go_ret2
              exact ⟨by rw [HS.out]; rfl, HB.out⟩
            · rw [if_neg he] at hstep
              have hbe : (x == n) = false := by simpa using he
              have HS := Lib.hid hstep
              clear he hstep
              go_wp2_with fail
              go_round
              case rel => exact ⟨k + 1, by omega, by go_num, HS⟩
              case measure => simp [intOf] <;> omega
          · obtain rfl : k = K := by omega
            have hstep : O = none := by rw [HX.out, Nat.sub_self]; rfl
            have HS := Lib.hid hstep
            clear hstep
            go_wp2_with fail
            go_ret2
            exact ⟨by rw [HS.out]; rfl, HB.out⟩

/-- What holds at the label. -/
def LabelE (w : World) (a : Option Addr) (N cap : Nat) (ns : List Int) (y : Int) (O : Option Nat) (a' : Act) (wr : World) : Prop :=
  ∃ (k : Nat) (u2 u3 u4 u5 u8 u9 u10 u11 u12 u13 u14 u15 u16 u17 u18 u19 u20 u21 u22 u23 u24 u25 : Value), k ≤ 5000 ∧ a' = { tmps := #[.slice a N cap, .int .i64 y, u2, u3, u4, u5, eckV w.heap.size, .int .i64 k, u8, u9, u10, u11, u12, u13, u14, u15, u16, u17, u18, u19, u20, u21, u22, u23, u24, u25], defers := [] } ∧ Hid (EckAt wr w.heap.size k ns (.slice a N cap) ∧ Below w.heap.size w wr ∧ O = fstE (eckS ns) y k (5000 - k))
def labelE (a' : Act) (_ : World) : Nat := 5001 - (intOf (a'.tmps.getD 7 undef)).toNat

set_option maxHeartbeats 4000000 in
theorem implEckFirst_any (w : World) (B : Nat) (v : Value) (xs : List Int) (n : Int) (ha : IntsA w B v xs) :
    Calls Try.prog 48 #[v, .int .i64 n] w fun e w' => e = .returned (.tuple #[.int .i64 (efV (efO xs n)), .bool (efO xs n).isSome]) ∧ Below w.heap.size w w' := by
  have hL := isPlaceList_any w B v xs ha
  cases ht : plL xs with
  | false =>
    rw [ht] at hL
    rw [show efO xs n = none by unfold efO; rw [ht]; rfl]
    obtain ⟨a, cap, rfl, _, _⟩ := intsA_slice ha
    have HL := Lib.hid hL; clear hL ha ht
    go_enter Try.func48, Try.ntmps48
    go_wp2_with fail
    refine wp_scope_again 0 (fun _ _ => False) (fun _ _ => 0) rfl (fun _ _ h => h.elim) (fun _ => ?_)
    go_wp2_with fail
    refine HL.out.mono ?_
    rintro e w1 ⟨rfl, rfl⟩
    go_wp2_with fail
    simp only [Exit.jump]
    go_ret2
    exact ⟨rfl, Below.refl _ _⟩
  | true =>
    rw [ht] at hL
    by_cases hn : n < 0
    · rw [show efO xs n = none by unfold efO; rw [ht, decide_eq_false (by omega)]; rfl]
      obtain ⟨a, cap, rfl, _, _⟩ := intsA_slice ha
      have HL := Lib.hid hL; clear hL ha ht
      go_enter Try.func48, Try.ntmps48
      go_wp2_with fail
      refine wp_scope_again 0 (fun _ _ => False) (fun _ _ => 0) rfl (fun _ _ h => h.elim) (fun _ => ?_)
      go_wp2_with fail
      refine HL.out.mono ?_
      rintro e w1 ⟨rfl, rfl⟩
      go_wp2_with fail
      simp only [Exit.jump]
      go_ret2
      exact ⟨rfl, Below.refl _ _⟩
    · rw [efO_ok ht hn]
      obtain ⟨O, hO⟩ : ∃ O, O = fstE (eckS xs) n 0 5000 := ⟨_, rfl⟩
      rw [← hO]
      have harg := fun (W : World) (hb : Below w.heap.size w W) => argL_of_intsA (intsA_below ha hb)
      obtain ⟨a, cap, hv, _, _⟩ := intsA_slice ha
      obtain ⟨N, hN⟩ : ∃ N, N = xs.length := ⟨_, rfl⟩
      rw [← hN] at hv
      subst hv
      have HL := Lib.hid hL; have HO := Lib.hid hO; have HP := Lib.hid ht; have HA := Lib.hid harg
      clear hL ha ht hO harg hN
      go_enter Try.func48, Try.ntmps48
      go_wp2_with fail
      refine wp_scope_again 0 (LabelE w a N cap xs n O) labelE rfl ?_ ?_
      · rintro a' wr ⟨k, u2, u3, u4, u5, u8, u9, u10, u11, u12, u13, u14, u15, u16, u17, u18, u19, u20, u21, u22, u23, u24, u25, hk, rfl, HX⟩
        by_cases hlt : k < 5000
        · have hcall := eck1_any wr w.heap.size k xs _ HX.out.1 (HA.out wr HX.out.2.1) HP.out (by omega)
          have hstep : O = if eckS xs k = n then some k else fstE (eckS xs) n (k + 1) (5000 - (k + 1)) := by
            rw [HX.out.2.2, show 5000 - k = (5000 - (k + 1)) + 1 by omega]; rfl
          obtain ⟨x, hx⟩ : ∃ x, x = eckS xs k := ⟨_, rfl⟩
          rw [← hx] at hcall hstep
          have HCALL := Lib.hid hcall
          have hk5 : ((k : Int) == 5000) = false := by simp; omega
          clear hx hcall
          unfold eckV
          by_cases he : x = n
          · rw [if_pos he] at hstep
            have hbe : (x != n) = false := by simpa using he
            have HS := Lib.hid hstep
            clear he hstep
            go_wp2_with fail
            refine HCALL.out.mono ?_
            rintro e w3 ⟨rfl, hl3, hb3⟩
            have HB3 := Lib.hid (HX.out.2.1.trans hb3); clear hl3 hb3
            go_wp2_with fail
            simp only [Exit.jump]
            go_ret2
            exact ⟨by rw [HS.out]; rfl, HB3.out⟩
          · rw [if_neg he] at hstep
            have hbe : (x != n) = true := by simpa using he
            have HS := Lib.hid hstep
            clear he hstep
            go_wp2_with fail
            refine HCALL.out.mono ?_
            rintro e w3 ⟨rfl, hl3, hb3⟩
            have HL3 := Lib.hid hl3; have HB3 := Lib.hid (HX.out.2.1.trans hb3); clear hl3 hb3
            go_wp2_with fail
            go_step3
            refine ⟨rfl, ⟨k + 1, _, _, _, _, _, _, _, _, _, _, _, _, _, _, _, _, _, _, _, _, _, _, by omega, rfl, Lib.hid ⟨HL3.out, HB3.out, HS.out⟩⟩, ?_⟩
            simp [labelE, intOf]; omega
        · obtain rfl : k = 5000 := by omega
          have hstep : O = none := by rw [HX.out.2.2, Nat.sub_self]; rfl
          have HS := Lib.hid hstep
          clear hstep
          go_wp2_with fail
          simp only [Exit.jump]
          go_ret2
          exact ⟨by rw [HS.out]; rfl, HX.out.2.1⟩
      · intro hp
        go_wp2_with fail
        refine HL.out.mono ?_
        rintro e w1 ⟨rfl, rfl⟩
        go_wp2_with fail
        refine (eckFrom_any w a N cap xs).mono ?_
        rintro e w2 ⟨rfl, hl, hb⟩
        have HL2 := Lib.hid hl; have HB2 := Lib.hid hb
        clear hl hb
        go_wp2_with fail
        refine wp_label ?_
        rename_i K1 hk
        exact hk _ _ (hp _ _ ⟨0, _, _, _, _, _, _, _, _, _, _, _, _, _, _, _, _, _, _, _, _, _, _, by omega, rfl, Lib.hid ⟨HL2.out, HB2.out, HO.out⟩⟩)

end Go.Proofs.Ytpglkgpaaflikaa
