/- The word of runs: the model's WordOfRuns. -/
import Derived.Test.YtmlghonidheidaaI12
namespace Go.Proofs.Ytmlghonidheidaa
open Go.RowKit Go.BigFrame
set_option linter.unusedSimpArgs false
set_option linter.unusedVariables false
set_option maxRecDepth 4000

theorem digB_dgw (d : Int) (h1 : 1 ≤ d) (h9 : d ≤ 9) : digB (dgw d) = true := by
  obtain ⟨n, rfl⟩ := Int.eq_ofNat_of_zero_le (show 0 ≤ d by omega)
  obtain ⟨m, rfl⟩ : ∃ m : Fin 10, n = m := ⟨⟨n, by omega⟩, rfl⟩
  revert m
  decide
theorem worStep_some {st : Option (List UInt8 × Int)} {row : List Int} {t : List UInt8} {b : Int} (h : worStep st row = some (t, b)) :
    ∃ t0 b0 n, st = some (t0, b0) ∧ row = [b, (n : Int)] ∧ 1 ≤ b ∧ b ≤ 9 ∧ (1 : Int) ≤ n ∧ b ≠ b0 ∧ n ≤ 400 - (t0.length : Int) ∧ t = t0 ++ List.replicate n.toNat (dgw b) := by
  match st, h with
  | some (t0, b0), h =>
    unfold worStep at h
    simp only at h
    split at h
    · rename_i hc
      obtain ⟨a, n, rfl, ha1, ha9, hn1⟩ := isRunB_two hc.1
      simp only [List.getD_cons_zero, List.getD_cons_succ] at h hc
      obtain ⟨rfl, rfl⟩ : _ ∧ _ := by simpa using h
      exact ⟨t0, b0, n, rfl, rfl, ha1, ha9, hn1, hc.2.1, hc.2.2, rfl⟩
    · cases h
theorem worL_inv (nss : List (List Int)) : ∀ k, k ≤ nss.length → ∀ t b, worL (nss.take k) = some (t, b) → k ≤ t.length ∧ t.length ≤ 400 ∧ t.all digB = true := by
  intro k
  induction k with
  | zero => intro _ t b h; cases h; simp
  | succ m ih =>
    intro hk t b h
    rw [worL_succ nss m hk] at h
    obtain ⟨t0, b0, n, h0, _, h1, h9, hn, _, hf, rfl⟩ := worStep_some h
    obtain ⟨i1, i2, i3⟩ := ih (Nat.le_of_lt hk) t0 b0 h0
    refine ⟨by rw [List.length_append, List.length_replicate]; omega, by rw [List.length_append, List.length_replicate]; omega, ?_⟩
    rw [List.all_append, i3, Bool.true_and]
    rw [List.all_eq_true]
    intro x hx
    rw [List.eq_of_mem_replicate hx]
    exact digB_dgw b h1 h9
theorem wordO_some {nss : List (List Int)} {t : List UInt8} {b : Int} (h : worL nss = some (t, b)) (h1 : 1 ≤ nss.length) : wordO nss = some t := by
  obtain ⟨i1, i2, i3⟩ := worL_inv nss nss.length (Nat.le_refl _) t b (by rw [List.take_length]; exact h)
  unfold wordO; rw [h]
  have : goodL t = true := by unfold goodL; rw [i3]; simp; omega
  simp only [this, if_true]
theorem wordO_long {nss : List (List Int)} (h : 400 < nss.length) : wordO nss = none := by
  cases hw : worL nss with
  | none => unfold wordO; rw [hw]
  | some p =>
    obtain ⟨t, b⟩ := p
    obtain ⟨i1, i2, _⟩ := worL_inv nss nss.length (Nat.le_refl _) t b (by rw [List.take_length]; exact hw)
    omega
theorem wordO_stop (nss : List (List Int)) (k : Nat) (h : worL (nss.take k) = none) : wordO nss = none := by
  unfold wordO; rw [worL_none nss k h]

theorem l1In_q (b : Bool) (n lo hi : Int) (h : decide (lo ≤ n ∧ n ≤ hi) = b) (w : World) (q : Nat) :
    Calls Try.prog 57 #[.int .i64 n, .int .i64 lo, .int .i64 hi] (w.drewN q) fun e w'' => e = .returned (.bool b) ∧ ∃ m, w'' = w.drewN m :=
  Calls.quiet_of_same ((l1In_is b n lo hi (w.drewN q) h).mono (fun _ _ ⟨h1, h2⟩ => ⟨h1, h2.symm⟩))
theorem worL_bad (nss : List (List Int)) (k : Nat) (hk : k < nss.length) (t : List UInt8) (b : Int) (h : worL (nss.take k) = some (t, b))
    (hb : ¬ (isRunB nss[k] = true ∧ nss[k].getD 0 0 ≠ b ∧ nss[k].getD 1 0 ≤ 400 - (t.length : Int))) : wordO nss = none := by
  refine wordO_stop nss (k + 1) ?_
  rw [worL_succ nss k hk, h]
  unfold worStep
  exact if_neg hb
theorem worL_prev (nss : List (List Int)) (k : Nat) (hk : k < nss.length) (t : List UInt8) (b : Int) (h : worL (nss.take (k + 1)) = some (t, b)) : ∃ n : Int, nss[k] = [b, n] := by
  rw [worL_succ nss k hk] at h
  obtain ⟨_, _, n, _, hr, _⟩ := worStep_some h
  exact ⟨n, hr⟩

set_option maxRecDepth 4000 in
set_option maxHeartbeats 4000000 in
theorem specWordOfRuns_any (w : World) (B : Nat) (v : Value) (vs : List Value) (nss : List (List Int)) (ha : IntsRR w B v vs nss) :
    Calls Try.prog 32 #[v] w fun e w' => e = .returned (strOk (wordO nss)) ∧ Below w.heap.size w w' := by
  rcases intsRR_open ha with ⟨rfl, rfl⟩ | ⟨g, cap, rfl, hn, hcp, hg, _, hca⟩
  · clear ha
    go_enter Try.func32, Try.ntmps32
    go_wp2_with fail
    refine (l1In_is false _ _ _ _ (by decide)).mono ?_
    rintro e w1 ⟨rfl, rfl⟩
    go_wp2_with fail
    go_ret2
    exact ⟨rfl, Below.refl _ _⟩
  · have HA := Lib.hid hca
    obtain ⟨N, hN⟩ : ∃ N, N = nss.length := ⟨_, rfl⟩
    have HN := Lib.hid hN
    rw [← hN] at hn ⊢
    clear ha hca
    by_cases hin : 1 ≤ N ∧ N ≤ 400
    · clear hN
      obtain ⟨hN1, hN4⟩ := hin
      have hin : decide ((1 : Int) ≤ (N : Int) ∧ (N : Int) ≤ 400) = true := decide_eq_true ⟨by omega, by omega⟩
      have HIN := Lib.hid hin; clear hin
      go_enter Try.func32, Try.ntmps32
      go_wp2_with fail
      refine (l1In_is true _ _ _ _ HIN.out).mono ?_
      rintro e w1 ⟨rfl, rfl⟩
      go_wp2_with fail
      go_loopw [4, 13] (fun o i wr => ∃ (k : Nat) (t : List UInt8) (b : Int), k ≤ N ∧ i = .int .i64 (k : Int) ∧ o = .string (bs t) ∧ t.length ≤ 400 ∧ Hid (worL (nss.take k) = some (t, b) ∧ Below w.heap.size w wr)) (fun _ i _ => N - (intOf i).toNat)
      case atStart => exact ⟨0, [], 0, Nat.zero_le _, rfl, rfl, by simp, rfl, below_refl _⟩
      case round =>
        obtain ⟨k, t, b, hk, rfl, rfl, ht, HX⟩ := hrel
        by_cases hlt : k < N
        · have hlt' : k < nss.length := by rw [← HN.out]; exact hlt
          obtain ⟨u, _, hu, hcu⟩ := HA.out k hlt'
          have hcw : wr.cell? ⟨g, k, none⟩ = some u := (HX.out.2.cell (p := ⟨g, k, none⟩) hg).trans hcu
          by_cases h2 : nss[k].length = 2
          · obtain ⟨a, n, hrow⟩ : ∃ a n, nss[k] = [a, n] := by
              match hq : nss[k], h2 with
              | [a, n], _ => exact ⟨a, n, rfl⟩
            rw [hrow] at hu h2
            rcases ints_open hu with ⟨_, hx⟩ | ⟨gr, cr, rfl, _, hgr, _, hcr, hcc, _⟩
            · cases hx
            have c0 : wr.cell? ⟨gr, 0, none⟩ = some (.int .i64 a) := (HX.out.2.cell (p := ⟨gr, 0, none⟩) hgr).trans (hcc 0 (by simp))
            have c1 : wr.cell? ⟨gr, 1, none⟩ = some (.int .i64 n) := (HX.out.2.cell (p := ⟨gr, 1, none⟩) hgr).trans (hcc 1 (by simp))
            have hgr2 : gr < wr.heap.size := Nat.lt_of_lt_of_le hgr HX.out.2.size
            simp only [List.length_cons, List.length_nil, Nat.zero_add] at hcw hcr
            obtain ⟨z, hz⟩ : ∃ z, z = (bs t).size := ⟨_, rfl⟩
            have hz4 : z ≤ 400 := by rw [hz, bs_size]; exact ht
            have hbad := fun hb => worL_bad nss k hlt' t b HX.out.1 hb
            rw [hrow] at hbad
            simp only [List.getD_cons_zero, List.getD_cons_succ] at hbad
            have hrb : isRunB [a, n] = true ↔ (1 ≤ a ∧ a ≤ 9) ∧ 1 ≤ n := by
              unfold isRunB
              simp only [decide_eq_true_eq, List.length_cons, List.length_nil, List.getD_cons_zero, List.getD_cons_succ]
              constructor
              · rintro ⟨_, h3, h4, h5⟩; exact ⟨⟨h3, h4⟩, h5⟩
              · rintro ⟨⟨h3, h4⟩, h5⟩; exact ⟨trivial, h3, h4, h5⟩
            have htz : t.length = z := by rw [hz, bs_size]
            have w1 : IntKind.i64.wrap (400 - (z : Int)) = 400 - (z : Int) := IntWalk.i64_in _ (by omega)
            rw [htz] at hbad
            subst hz
            clear hu hcu hcc h2
            by_cases ha : 1 ≤ a ∧ a ≤ 9
            · by_cases hn1 : 1 ≤ n ∧ n ≤ 400 - ((bs t).size : Int)
              · have q1 := fun (W : World) (q : Nat) => l1In_q true a 1 9 (decide_eq_true ha) W q
                have q2 := fun (W : World) (q : Nat) => l1In_q true n 1 (400 - ((bs t).size : Int)) (decide_eq_true hn1) W q
                have Q1 := Lib.hid q1; have Q2 := Lib.hid q2; clear q1 q2
                obtain ⟨ha1, ha9⟩ := ha
                obtain ⟨hn1, hn4⟩ := hn1
                obtain ⟨m, rfl⟩ := Int.eq_ofNat_of_zero_le (show 0 ≤ n by omega)
                have hm4 : m ≤ 400 := by omega
                have hok : a ≠ b → worL (nss.take (k + 1)) = some (t ++ List.replicate m (dgw a), a) := by
                  intro hab
                  rw [worL_succ nss k hlt', HX.out.1, hrow]
                  unfold worStep
                  simp only [List.getD_cons_zero, List.getD_cons_succ, Int.toNat_natCast]
                  exact if_pos ⟨hrb.2 ⟨⟨ha1, ha9⟩, hn1⟩, hab, by rw [htz]; exact hn4⟩
                have htm := fun (W : World) => woTimes_any a m W ha1 ha9 hm4
                have HTM := Lib.hid htm; clear htm
                have hsz : (bs (List.replicate m (dgw a))).size ≤ 400 := by rw [bs_size, List.length_replicate]; exact hm4
                have hlen : (t ++ List.replicate m (dgw a)).length ≤ 400 := by rw [List.length_append, List.length_replicate]; omega
                have HLEN := Lib.hid hlen; clear hlen
                rcases Nat.eq_zero_or_pos k with hk0 | hk0
                · have hab : a ≠ b := by
                    have := HX.out.1
                    rw [hk0] at this
                    have e : b = 0 := by cases this; rfl
                    omega
                  have HOK := Lib.hid (hok hab)
                  have hp2 : ¬ 0 < k := by omega
                  have hp3 : decide (0 < k) = false := decide_eq_false hp2
                  have HK0 := Lib.hid hk0
                  clear hok hbad hrb hrow hab hk0 htz
                  go_wp2_with fail
                  go_quiet (first | (go_at_call 57; first | with_reducible exact Q1.out _ _ | with_reducible exact Q2.out _ _))
                  go_wp2_with fail
                  go_region_with (go_at_call 58; (refine (HTM.out _).mono ?_); rintro e w2 ⟨rfl, hb2⟩)
                  all_goals
                    have HB2 := Lib.hid hb2; clear hb2
                    go_wp2_with fail
                    go_roundw
                    case rel => exact ⟨k + 1, _, a, by omega, by go_num, by rw [bs_append], HLEN.out, HOK.out, below_trans HX.out.2 (below_trans (belowN _ _ _) HB2.out)⟩
                    case measure => simp [intOf] <;> omega
                · obtain ⟨p, rfl⟩ : ∃ p, k = p + 1 := ⟨k - 1, by omega⟩
                  have hpl : p < nss.length := Nat.lt_of_succ_lt hlt'
                  obtain ⟨n', hprow⟩ := worL_prev nss p hpl t b HX.out.1
                  obtain ⟨up, _, hup, hcup⟩ := HA.out p hpl
                  rw [hprow] at hup
                  rcases ints_open hup with ⟨_, hx⟩ | ⟨gp, cp, rfl, _, hgp, _, hcp, hpc, _⟩
                  · cases hx
                  have cwp : wr.cell? ⟨g, p, none⟩ = some (.slice (some ⟨gp, 0, none⟩) [b, n'].length cp) := (HX.out.2.cell (p := ⟨g, p, none⟩) hg).trans hcup
                  have cp0 : wr.cell? ⟨gp, 0, none⟩ = some (.int .i64 b) := (HX.out.2.cell (p := ⟨gp, 0, none⟩) hgp).trans (hpc 0 (by simp))
                  have hgp2 : gp < wr.heap.size := Nat.lt_of_lt_of_le hgp HX.out.2.size
                  simp only [List.length_cons, List.length_nil, Nat.zero_add] at cwp hcp
                  have f0 : (0 : Int) ≤ (p : Int) + 1 := by omega
                  have f1 : (0 : Int) < (p : Int) + 1 := by omega
                  have f2 : (p : Int) + 1 - 1 = (p : Int) := by omega
                  have f3 : (p : Int) < (N : Int) := by omega
                  have f4 : (p : Int) + 1 < (N : Int) := by omega
                  have f5 : p < N := by omega
                  clear hup hcup hpc hprow hk0
                  by_cases hab : b = a
                  · have HWN := Lib.hid (hbad (fun h => h.2.1 hab.symm))
                    have hbb : (b == a) = true := by simpa using hab
                    have HAB := Lib.hid hab
                    clear hok hbad hrb hrow htz
                    go_wp2_with fail
                    go_quiet (first | (go_at_call 57; first | with_reducible exact Q1.out _ _ | with_reducible exact Q2.out _ _))
                    go_wp2_with fail
                    go_ret2
                    exact ⟨by rw [HWN.out]; rfl, below_trans HX.out.2 (belowN _ _ _)⟩
                  · have HOK := Lib.hid (hok (fun h => hab h.symm))
                    have hbb : (b == a) = false := by simpa using hab
                    clear hok hbad hrb hrow htz
                    go_wp2_with fail
                    go_quiet (first | (go_at_call 57; first | with_reducible exact Q1.out _ _ | with_reducible exact Q2.out _ _))
                    go_wp2_with fail
                    go_region_with (go_at_call 58; (refine (HTM.out _).mono ?_); rintro e w2 ⟨rfl, hb2⟩)
                    all_goals
                      have HB2 := Lib.hid hb2; clear hb2
                      go_wp2_with fail
                      go_roundw
                      case rel => exact ⟨p + 1 + 1, _, a, by omega, by go_num, by rw [bs_append], HLEN.out, HOK.out, below_trans HX.out.2 (below_trans (belowN _ _ _) HB2.out)⟩
                      case measure => simp [intOf] <;> omega
              · have q1 := fun (W : World) (q : Nat) => l1In_q true a 1 9 (decide_eq_true ha) W q
                have q2 := fun (W : World) (q : Nat) => l1In_q false n 1 (400 - ((bs t).size : Int)) (decide_eq_false hn1) W q
                have HWN := Lib.hid (hbad (fun h => hn1 ⟨(hrb.1 h.1).2, h.2.2⟩))
                have Q1 := Lib.hid q1; have Q2 := Lib.hid q2
                clear q1 q2 hbad hrb ha hn1 hrow
                go_wp2_with fail
                go_quiet (first | (go_at_call 57; first | with_reducible exact Q1.out _ _ | with_reducible exact Q2.out _ _))
                go_wp2_with fail
                go_ret2
                exact ⟨by rw [HWN.out]; rfl, below_trans HX.out.2 (belowN _ _ _)⟩
            · have q1 := fun (W : World) (q : Nat) => l1In_q false a 1 9 (decide_eq_false ha) W q
              have HWN := Lib.hid (hbad (fun h => ha (hrb.1 h.1).1))
              have Q1 := Lib.hid q1
              clear q1 hbad hrb ha hrow
              go_wp2_with fail
              go_quiet (first | (go_at_call 57; exact Q1.out _ _))
              go_wp2_with fail
              go_ret2
              exact ⟨by rw [HWN.out]; rfl, below_trans HX.out.2 (belowN _ _ _)⟩
          · have hwn : wordO nss = none := worL_bad nss k hlt' t b HX.out.1 (fun h => h2 (by have := h.1; unfold isRunB at this; simp only [decide_eq_true_eq] at this; exact this.1))
            have HWN := Lib.hid hwn; clear hwn
            rcases ints_open hu with ⟨rfl, _⟩ | ⟨gr, cr, rfl, _, hgr, _, hcr, hcc, _⟩
            · clear hu hcu h2
              go_wp2_with fail
              go_quiet (fail)
              go_wp2_with fail
              go_ret2
              exact ⟨by rw [HWN.out]; rfl, below_trans HX.out.2 (belowN _ _ _)⟩
            · obtain ⟨L, hL⟩ : ∃ L, L = nss[k].length := ⟨_, rfl⟩
              rw [← hL] at h2 hcw
              have hne : ((L : Int) == 2) = false := by simp; omega
              have hne2 : ¬ (L : Int) = 2 := by omega
              have hne3 : ((L : Int) != 2) = true := by simp; omega
              clear hu hcu hcc hL
              go_wp2_with fail
              go_quiet (fail)
              go_wp2_with fail
              go_ret2
              exact ⟨by rw [HWN.out]; rfl, below_trans HX.out.2 (belowN _ _ _)⟩
        · obtain rfl : k = N := by omega
          have hw := HX.out.1
          rw [List.take_of_length_le (by rw [← HN.out]; exact Nat.le_refl _)] at hw
          have hwo := wordO_some hw (by rw [← HN.out]; exact hN1)
          have HWO := Lib.hid hwo; clear hw hwo
          go_wp2_with fail
          go_ret2
          exact ⟨by rw [HWO.out]; rfl, HX.out.2⟩
    · have hwn : wordO nss = none := by
        by_cases h0 : nss.length = 0
        · have : nss = [] := List.eq_nil_of_length_eq_zero h0
          subst this; rfl
        · exact wordO_long (by omega)
      have hin2 : decide ((1 : Int) ≤ (N : Int) ∧ (N : Int) ≤ 400) = false := decide_eq_false (by omega)
      have HIN := Lib.hid hin2; have HWN := Lib.hid hwn; clear hin2 hwn hin hN
      go_enter Try.func32, Try.ntmps32
      go_wp2_with fail
      refine (l1In_is false _ _ _ _ HIN.out).mono ?_
      rintro e w1 ⟨rfl, rfl⟩
      go_wp2_with fail
      go_ret2
      exact ⟨by rw [HWN.out]; rfl, Below.refl _ _⟩
end Go.Proofs.Ytmlghonidheidaa
