/- Chapter 9: HarderPuzzle, the model's; its law. -/
import Derived.Test.YtplcdofpikdigaaDoorop
import Derived.Test.YtplcdofpikdigaaDoorq9
namespace Go.Proofs.YtplcdofpikdigaaDoor
open Go.RowKit Go.BigFrame
set_option linter.unusedSimpArgs false
set_option linter.unusedVariables false
set_option maxRecDepth 4000

theorem oneB_ask (W S : List UInt8) (D : Int) : oneB W S D = (askB W S D && decide ((askL W S D).length = 1)) := by
  unfold oneB askB askL
  by_cases h : pzB W S D = true
  · simp only [h, Bool.true_and, if_true, List.length_take]
    by_cases h2 : (solsL W S D.toNat).length ≤ 200
    · rw [decide_eq_true h2, Bool.true_and, Nat.min_eq_right (by omega)]
    · rw [decide_eq_false h2, Bool.false_and, decide_eq_false (by omega)]
  · simp [h]
theorem allOne_any (W S : List UInt8) (D : Int) (w : World) (h : pzB W S D = true) :
    Calls Tryd.prog 43 #[pzV W S D] w fun e w' => ∃ a n c b, e = .returned (.tuple #[.slice a n c, .bool b]) ∧ (b && decide (n = 1)) = oneB W S D ∧ Below w.heap.size w w' := by
  have hp := pzS_parts (pzB_parts h).1
  obtain ⟨Dn, hDn⟩ : ∃ Dn : Nat, D = (Dn : Int) := ⟨D.toNat, by omega⟩
  subst hDn
  have h1 := pzAll_any Dn W S w (by omega) (by omega) (by omega) (by omega) (by omega) (pzB_parts h).2.1
  refine h1.mono ?_
  rintro e w' ⟨a, c, rfl, hk⟩
  refine ⟨a, _, c, _, rfl, ?_, hk.2⟩
  have hT : ((Dn : Int)).toNat = Dn := by omega
  unfold oneB
  rw [h, hT, Bool.true_and, List.length_take]
  by_cases h2 : (solsL W S Dn).length ≤ 200
  · rw [decide_eq_true h2, Bool.true_and, Nat.min_eq_right (by omega)]
  · rw [decide_eq_false h2, Bool.false_and, decide_eq_false (by omega)]
theorem twoP_self {w wr : World} {a b c : Value} (h : TwoP w a b c wr) (x y z : Value) : TwoP w x y z (((wr.setCell ⟨w.heap.size, 0, none⟩ x).setCell ⟨w.heap.size, 1, none⟩ y).setCell ⟨w.heap.size, 2, none⟩ z) := by
  have o : ∀ (W : World) (q i : Nat) (v a' b' c' : Value), q ≠ w.heap.size → ThreeAt W q a' b' c' 28 → ThreeAt (W.setCell ⟨w.heap.size, i, none⟩ v) q a' b' c' 28 := fun W q i v a' b' c' hq h => (Below.heap_setCell _ _ _ _ hq).trans h
  exact ⟨threeAt_put h.arg _ _ _, o _ _ _ _ _ _ _ (by omega) (o _ _ _ _ _ _ _ (by omega) (o _ _ _ _ _ _ _ (by omega) h.res)), three_below h.below (Nat.le_refl _) _ _ _⟩
def cwL (W S : List UInt8) (D : Int) (k : Nat) : List UInt8 := hdW W S D (min k W.length)
def csL (W S : List UInt8) (D : Int) (k : Nat) : List UInt8 := hdS (hdW W S D W.length) S D (k - W.length)
theorem cwL_len (W S : List UInt8) (D : Int) (k : Nat) : (cwL W S D k).length = W.length := hdW_len _ _ _ _
theorem csL_len (W S : List UInt8) (D : Int) (k : Nat) : (csL W S D k).length = S.length := hdS_len _ _ _ _
theorem cw_lt {W S : List UInt8} {D : Int} {k : Nat} (h : k < W.length) : csL W S D k = S ∧ csL W S D (k + 1) = S ∧ cwL W S D (k + 1) = stW (cwL W S D k) S D k := by
  unfold csL cwL
  rw [show k - W.length = 0 by omega, show k + 1 - W.length = 0 by omega, show min (k + 1) W.length = k + 1 by omega, show min k W.length = k by omega]
  exact ⟨rfl, rfl, rfl⟩
theorem cw_ge {W S : List UInt8} {D : Int} {k : Nat} (h : ¬ k < W.length) : cwL W S D (k + 1) = cwL W S D k ∧ csL W S D (k + 1) = stS (cwL W S D k) (csL W S D k) D (k - W.length) := by
  unfold csL cwL
  rw [show k + 1 - W.length = (k - W.length) + 1 by omega, show min (k + 1) W.length = W.length by omega, show min k W.length = W.length by omega]
  exact ⟨rfl, rfl⟩

set_option maxHeartbeats 4000000 in
theorem specHarderPuzzle_any (W S : List UInt8) (D : Int) (w : World) (hW : W.length ≤ 1048576) (hS : S.length ≤ 1048576) :
    Calls Tryd.prog 28 #[pzV W S D] w fun e w' => e = .returned (.tuple #[pzV (rWHarderPuzzle W S D) (rSHarderPuzzle W S D) (rDHarderPuzzle W S D), .bool (rBHarderPuzzle W S D)]) ∧ Below w.heap.size w w' := by
  have hA := fun (W0 : World) => pzAsked_any W S D W0 (by unfold maxLen; omega) (by unfold maxLen; omega)
  unfold AskPost at hA
  unfold rWHarderPuzzle rSHarderPuzzle rDHarderPuzzle rBHarderPuzzle
  have hone := oneB_ask W S D
  have hal : (askL W S D).length ≤ 201 := by unfold askL; split <;> simp <;> omega
  obtain ⟨R, hR⟩ : ∃ R, R = oneB W S D := ⟨_, rfl⟩
  rw [← hR] at hone ⊢
  clear hR
  obtain ⟨n, hn⟩ : ∃ n, n = (askL W S D).length := ⟨_, rfl⟩
  obtain ⟨b, hb⟩ : ∃ b, b = askB W S D := ⟨_, rfl⟩
  simp only [← hn, ← hb] at hA
  rw [← hn, ← hb] at hone
  rw [← hn] at hal
  have HA := Lib.hid hA
  clear hA hn hb
  cases R with
  | false =>
    simp only [Bool.false_eq_true, if_false]
    unfold pzV at HA ⊢
    generalize bs W = t at *
    generalize bs S = u at *
    have HT := Lib.hid (twoP_new w (.string t) (.string u) (.int .i64 D))
    obtain ⟨c0, c1, c2, _, _, _⟩ := HT.out.arg.cells
    cases b with
    | false =>
      clear hone
      go_enter Tryd.func28, Tryd.ntmps28
      go_wp2_with fail
      refine (HA.out _).mono ?_
      rintro e w1 ⟨a, c, rfl, _, hb⟩
      have ht := HT.out.later hb
      clear c0 c1 c2
      obtain ⟨c0, c1, c2, f0, f1, f2⟩ := ht.res.cells
      have HB := Lib.hid ht.below
      clear hb ht
      go_wp2_with fail
      refine bodyPost_ret (v := .tuple #[.agg #[.string ⟨#[]⟩, .string ⟨#[]⟩, .int .i64 0], .bool false]) ?_ rfl ⟨rfl, three_below HB.out (by omega) _ _ _⟩
      simp [results, Tryd.results28, go_sem, c0, c1, c2]
    | true =>
      have hn1 : n ≠ 1 := fun e => by subst e; simp at hone
      have hne : ((n : Int) != 1) = true := by simp; omega
      clear hone
      go_enter Tryd.func28, Tryd.ntmps28
      go_wp2_with fail
      refine (HA.out _).mono ?_
      rintro e w1 ⟨a, c, rfl, _, hb⟩
      have ht := HT.out.later hb
      clear c0 c1 c2
      obtain ⟨c0, c1, c2, f0, f1, f2⟩ := ht.res.cells
      have HB := Lib.hid ht.below
      clear hb ht
      go_wp2_with fail
      refine bodyPost_ret (v := .tuple #[.agg #[.string ⟨#[]⟩, .string ⟨#[]⟩, .int .i64 0], .bool false]) ?_ rfl ⟨rfl, three_below HB.out (by omega) _ _ _⟩
      simp [results, Tryd.results28, go_sem, c0, c1, c2]
  | true =>
    simp only [if_true]
    have hb1 : b = true := by cases b with | false => simp at hone | true => rfl
    subst hb1
    have hn1 : n = 1 := by simp at hone; exact hone
    subst hn1
    clear hone hal
    obtain ⟨N, hN⟩ : ∃ N, N = W.length := ⟨_, rfl⟩
    obtain ⟨M, hM⟩ : ∃ M, M = S.length := ⟨_, rfl⟩
    have hcw0 : cwL W S D 0 = W := by unfold cwL; rw [show min 0 W.length = 0 by omega]; rfl
    have hcs0 : csL W S D 0 = S := by unfold csL; rw [show 0 - W.length = 0 by omega]; rfl
    have hcwE : cwL W S D (N + M) = hdW W S D W.length := by unfold cwL; rw [show min (N + M) W.length = W.length by omega]
    have hcsE : csL W S D (N + M) = hdS (hdW W S D W.length) S D S.length := by unfold csL; rw [show N + M - W.length = S.length by omega]
    rw [← hcsE, ← hcwE]
    have HST : Hid (∀ k, k < W.length → _) := Lib.hid (fun k (h : k < W.length) => cw_lt (S := S) (D := D) h)
    have HSG : Hid (∀ k, ¬ k < W.length → _) := Lib.hid (fun k (h : ¬ k < W.length) => cw_ge (S := S) (D := D) h)
    have HC0 := Lib.hid hcw0; have HS0 := Lib.hid hcs0
    have HCL := Lib.hid (fun k => cwL_len W S D k); have HSL := Lib.hid (fun k => csL_len W S D k)
    clear hcw0 hcs0 hcwE hcsE
    rw [← hN] at hW
    rw [← hM] at hS
    have HN := Lib.hid hN; have HM := Lib.hid hM
    clear hN hM
    obtain ⟨t, ht⟩ : ∃ t, t = bs W := ⟨_, rfl⟩
    obtain ⟨u, hu⟩ : ∃ u, u = bs S := ⟨_, rfl⟩
    unfold pzV at HA ⊢
    rw [← ht, ← hu]
    rw [← ht, ← hu] at HA
    have HTT := Lib.hid ht; have HUU := Lib.hid hu
    clear ht hu
    have HT := Lib.hid (twoP_new w (.string t) (.string u) (.int .i64 D))
    obtain ⟨c0, c1, c2, _, _, _⟩ := HT.out.arg.cells
    generalize cwL W S D = cw at *
    generalize csL W S D = cs at *
    go_enter Tryd.func28, Tryd.ntmps28
    go_wp2_with fail
    refine (HA.out _).mono ?_
    rintro e w1 ⟨a, c, rfl, _, hb⟩
    have HT1 := Lib.hid (HT.out.later hb)
    clear c0 c1 c2 hb
    go_wp2_with fail
    go_loopw [6] (fun iv wr => ∃ k : Nat, k ≤ N + M ∧ iv = .int .i64 (k : Int) ∧ Hid (TwoP w (.string (bs (cw k))) (.string (bs (cs k))) (.int .i64 D) wr)) (fun iv _ => N + M - (intOf iv).toNat)
    case atStart => exact ⟨0, Nat.zero_le _, rfl, by rw [HC0.out, HS0.out, ← HTT.out, ← HUU.out]; exact HT1.out⟩
    case round =>
      obtain ⟨k, hk, rfl, HX⟩ := hrel
      have hl1 := HCL.out k
      have hl2 := HSL.out k
      have hWN := HN.out; have hSM := HM.out
      obtain ⟨c0, c1, c2, _, _, _⟩ := HX.out.arg.cells
      obtain ⟨W1, hW1⟩ : ∃ W1, W1 = cw k := ⟨_, rfl⟩
      obtain ⟨S1, hS1⟩ : ∃ S1, S1 = cs k := ⟨_, rfl⟩
      rw [← hW1] at hl1 c0
      rw [← hS1] at hl2 c1
      have HX1 : Hid (TwoP w (.string (bs W1)) (.string (bs S1)) (.int .i64 D) wr) := Lib.hid (by rw [hW1, hS1]; exact HX.out)
      obtain ⟨t1, ht1⟩ : ∃ t1, t1 = bs W1 := ⟨_, rfl⟩
      obtain ⟨u1, hu1⟩ : ∃ u1, u1 = bs S1 := ⟨_, rfl⟩
      have hz1 : t1.size = N := by rw [ht1, bs_size, hl1, hWN]
      have hz2 : u1.size = M := by rw [hu1, bs_size, hl2, hSM]
      rw [← ht1] at c0 HX1
      rw [← hu1] at c1 HX1
      by_cases hke : k < N + M
      · have hOP := fun W0 : World => specOpenPlace_any W1 S1 D k W0 (by omega) (by omega)
        obtain ⟨x, y, z, hxyz⟩ : ∃ x y z, pzV (rWOpenPlace W1 S1 D k) (rSOpenPlace W1 S1 D k) (rDOpenPlace W1 S1 D k) = .agg #[.string x, .string y, .int .i64 z] := ⟨_, _, _, rfl⟩
        have hxyzT : rBOpenPlace W1 S1 D k = true → x = bs (W1.set k 46) ∧ y = u1 ∧ z = D := fun h => by
          unfold rWOpenPlace rSOpenPlace rDOpenPlace at hxyz
          rw [if_pos h, if_pos h, if_pos h, Int.toNat_natCast] at hxyz
          unfold pzV at hxyz
          rw [← hu1] at hxyz
          simp at hxyz
          exact ⟨hxyz.1.symm, hxyz.2.1.symm, hxyz.2.2.symm⟩
        simp only [hxyz] at hOP
        obtain ⟨b, hb⟩ : ∃ b, b = rBOpenPlace W1 S1 D k := ⟨_, rfl⟩
        rw [← hb] at hxyzT
        simp only [← hb] at hOP
        unfold pzV at hOP
        rw [← ht1, ← hu1] at hOP
        have HOP := Lib.hid hOP
        by_cases hkN : k < N
        · obtain ⟨e1, e2, e3⟩ := HST.out k (by omega)
          rw [← hS1] at e1
          cases b with
          | false =>
            have hnx : cw (k + 1) = W1 := by
              rw [e3, ← hW1]; unfold stW
              rw [← e1, ← hb]; simp
            have HNX : Hid (TwoP w (.string t1) (.string u1) (.int .i64 D) = TwoP w (.string (bs (cw (k + 1)))) (.string (bs (cs (k + 1)))) (.int .i64 D)) := Lib.hid (by rw [hnx, e2, ← e1, ht1, hu1])
            clear hOP hxyz hxyzT hb ht1 hu1 hl1 hl2 hWN hSM hW1 hS1 e1 e2 e3 hnx
            go_wp2_with fail
            refine (HOP.out _).mono ?_
            rintro e w2 ⟨rfl, hb⟩
            have HT2 := Lib.hid ((HX1.out.later hb).later (below_alloc w2 (.cells #[.string x, .string y, .int .i64 z] 28)))
            clear c0 c1 c2 hb
            obtain ⟨c0, c1, c2, _, _, _⟩ := HT2.out.arg.cells
            go_wp2_with fail
            exact ⟨⟨k + 1, by omega, by go_num, by have h := HT2.out; rw [HNX.out] at h; exact Lib.hid h⟩, by simp [intOf]; omega⟩
          | true =>
            obtain ⟨hx, hy, hz⟩ := hxyzT rfl
            have hpz : pzB W1 S1 D = true := by have h2 := hb.symm; unfold rBOpenPlace at h2; simp only [Bool.and_eq_true] at h2; exact h2.2
            have hALL := fun W0 : World => allOne_any (W1.set k 46) S1 D W0 (pzB_setW hpz k)
            unfold pzV at hALL
            rw [← hx, ← hu1, ← hy] at hALL
            obtain ⟨Q, hQ⟩ : ∃ Q, Q = oneB (W1.set k 46) S1 D := ⟨_, rfl⟩
            rw [← hQ] at hALL
            have HNF : Hid (Q = false → TwoP w (.string t1) (.string u1) (.int .i64 D) = TwoP w (.string (bs (cw (k + 1)))) (.string (bs (cs (k + 1)))) (.int .i64 D)) := Lib.hid (fun h => by
              have hnx : cw (k + 1) = W1 := by
                rw [e3, ← hW1]; unfold stW
                rw [← e1, ← hb, ← hQ, h]; simp
              rw [hnx, e2, ← e1, ht1, hu1])
            have HNT : Hid (Q = true → TwoP w (.string x) (.string y) (.int .i64 z) = TwoP w (.string (bs (cw (k + 1)))) (.string (bs (cs (k + 1)))) (.int .i64 D)) := Lib.hid (fun h => by
              have hnx : cw (k + 1) = W1.set k 46 := by
                rw [e3, ← hW1]; unfold stW
                rw [← e1, ← hb, ← hQ, h]; simp
              rw [hnx, e2, ← e1, hx, hy, hz, hu1])
            rw [← hz] at hALL
            have HALL := Lib.hid hALL
            clear hOP hxyz hxyzT hb ht1 hu1 hl1 hl2 hWN hSM hW1 hS1 e1 e2 e3 hALL hx hy hz hQ hpz
            go_wp2_with fail
            refine (HOP.out _).mono ?_
            rintro e w2 ⟨rfl, hb⟩
            have HT2 := Lib.hid ((HX1.out.later hb).later (below_alloc w2 (.cells #[.string x, .string y, .int .i64 z] 28)))
            have HN2 := Lib.hid (threeAt_new w2 (.string x) (.string y) (.int .i64 z) 28)
            clear c0 c1 c2 hb
            obtain ⟨c0, c1, c2, _, _, _⟩ := HT2.out.arg.cells
            obtain ⟨n0, n1, n2, _, _, _⟩ := HN2.out.cells
            go_wp2_with fail
            refine (HALL.out _).mono ?_
            rintro e w4 ⟨a4, n4, c4, b4, rfl, hq, hb⟩
            have HT4 := Lib.hid (HT2.out.later hb)
            have HN4 := Lib.hid (HN2.out.below hb)
            clear hb n0 n1 n2 c0 c1 c2
            obtain ⟨c0, c1, c2, q0, q1, q2⟩ := HT4.out.arg.cells
            obtain ⟨n0, n1, n2, _, _, _⟩ := HN4.out.cells
            have HQ := Lib.hid hq
            clear hq
            cases b4 with
            | false =>
              have HNX : Hid _ := Lib.hid (HNF.out (by rw [← HQ.out]; rfl))
              go_wp2_with fail
              exact ⟨⟨k + 1, by omega, by go_num, by have h := HT4.out; rw [HNX.out] at h; exact Lib.hid h⟩, by simp [intOf]; omega⟩
            | true =>
              by_cases hn4 : n4 = 1
              · have HNX : Hid _ := Lib.hid (HNT.out (by rw [← HQ.out, hn4]; rfl))
                have hnn : ((n4 : Int) == 1) = true := by rw [hn4]; rfl
                clear hn4
                go_wp2_with fail
                exact ⟨⟨k + 1, by omega, by go_num, by have h := twoP_self HT4.out (.string x) (.string y) (.int .i64 z); rw [HNX.out] at h; exact Lib.hid h⟩, by simp [intOf]; omega⟩
              · have HNX : Hid _ := Lib.hid (HNF.out (by rw [← HQ.out]; simp [hn4]))
                have hnn : ((n4 : Int) == 1) = false := by simp; omega
                clear hn4
                go_wp2_with fail
                exact ⟨⟨k + 1, by omega, by go_num, by have h := HT4.out; rw [HNX.out] at h; exact Lib.hid h⟩, by simp [intOf]; omega⟩
        · obtain ⟨e1, e2⟩ := HSG.out k (by omega)
          have hOS := fun W0 : World => specOpenSaid_any W1 S1 D (((k - N : Nat)) : Int) W0 (by omega) (by omega)
          have hj : (k : Int) - (N : Int) = ((k - N : Nat) : Int) := by omega
          have hjW : k - W.length = k - N := by omega
          rw [hjW] at e2
          rw [← hW1, ← hS1] at e2
          rw [← hW1] at e1
          obtain ⟨x2, y2, z2, hxyz2⟩ : ∃ x2 y2 z2, pzV (rWOpenSaid W1 S1 D ((k - N : Nat) : Int)) (rSOpenSaid W1 S1 D ((k - N : Nat) : Int)) (rDOpenSaid W1 S1 D ((k - N : Nat) : Int)) = .agg #[.string x2, .string y2, .int .i64 z2] := ⟨_, _, _, rfl⟩
          have hxyzT2 : rBOpenSaid W1 S1 D ((k - N : Nat) : Int) = true → x2 = t1 ∧ y2 = bs (S1.set (k - N) 46) ∧ z2 = D := fun h => by
            unfold rWOpenSaid rSOpenSaid rDOpenSaid at hxyz2
            rw [if_pos h, if_pos h, if_pos h, Int.toNat_natCast] at hxyz2
            unfold pzV at hxyz2
            rw [← ht1] at hxyz2
            simp at hxyz2
            exact ⟨hxyz2.1.symm, hxyz2.2.1.symm, hxyz2.2.2.symm⟩
          simp only [hxyz2] at hOS
          obtain ⟨b2, hb2⟩ : ∃ b2, b2 = rBOpenSaid W1 S1 D ((k - N : Nat) : Int) := ⟨_, rfl⟩
          rw [← hb2] at hxyzT2
          simp only [← hb2] at hOS
          unfold pzV at hOS
          rw [← ht1, ← hu1, ← hj] at hOS
          have HOS := Lib.hid hOS
          have hst : stS W1 S1 D (k - N) = if (b2 && oneB W1 (S1.set (k - N) 46) D) = true then S1.set (k - N) 46 else S1 := by unfold stS; rw [← hb2]
          have hgeN : (N : Int) ≤ (k : Int) := by omega
          have hsub0 : (0 : Int) ≤ (k : Int) - (N : Int) := by omega
          have hPZ : b2 = true → pzB W1 S1 D = true := fun h => by rw [hb2] at h; unfold rBOpenSaid at h; simp only [Bool.and_eq_true] at h; exact h.2
          clear hOS hOP hxyz hxyzT hb hb2 hxyz2 hj hjW
          cases b2 with
          | false =>
            have HNX : Hid (TwoP w (.string t1) (.string u1) (.int .i64 D) = TwoP w (.string (bs (cw (k + 1)))) (.string (bs (cs (k + 1)))) (.int .i64 D)) := Lib.hid (by
              rw [e1, e2, hst, ht1, hu1]; simp)
            clear ht1 hu1 hl1 hl2 hWN hSM hW1 hS1 e1 e2 hst hPZ hxyzT2
            go_wp2_with fail
            refine (HOP.out _).mono ?_
            rintro e w2 ⟨rfl, hb⟩
            have HT2 := Lib.hid ((HX1.out.later hb).later (below_alloc w2 (.cells #[.string x, .string y, .int .i64 z] 28)))
            have HN2 := Lib.hid (threeAt_new w2 (.string x) (.string y) (.int .i64 z) 28)
            have hg2 : w.heap.size + 1 < w2.heap.size := (HX1.out.later hb).res.lt
            clear c0 c1 c2 hb
            obtain ⟨c0, c1, c2, _, _, _⟩ := HT2.out.arg.cells
            go_wp2_with fail
            refine (HOS.out _).mono ?_
            rintro e w3 ⟨rfl, hb⟩
            have HT3 := Lib.hid (HT2.out.later hb)
            have HN3 := Lib.hid (HN2.out.below hb)
            clear c0 c1 c2 hb
            obtain ⟨n0, n1, n2, y0, y1, y3⟩ := HN3.out.cells
            go_wp2_with fail
            exact ⟨⟨k + 1, by omega, by go_num, by have h := twoP_put HT3.out hg2 (.string x2) (.string y2) (.int .i64 z2); rw [HNX.out] at h; exact Lib.hid h⟩, by simp [intOf]; omega⟩
          | true =>
            obtain ⟨hx, hy, hz⟩ := hxyzT2 rfl
            have hALL := fun W0 : World => allOne_any W1 (S1.set (k - N) 46) D W0 (pzB_setS (hPZ rfl) (k - N))
            unfold pzV at hALL
            rw [← ht1, ← hx, ← hy] at hALL
            obtain ⟨Q, hQ⟩ : ∃ Q, Q = oneB W1 (S1.set (k - N) 46) D := ⟨_, rfl⟩
            rw [← hQ] at hALL hst
            have HNF : Hid (Q = false → TwoP w (.string t1) (.string u1) (.int .i64 D) = TwoP w (.string (bs (cw (k + 1)))) (.string (bs (cs (k + 1)))) (.int .i64 D)) := Lib.hid (fun h => by
              rw [e1, e2, hst, h, ht1, hu1]; simp)
            have HNT : Hid (Q = true → TwoP w (.string x2) (.string y2) (.int .i64 z2) = TwoP w (.string (bs (cw (k + 1)))) (.string (bs (cs (k + 1)))) (.int .i64 D)) := Lib.hid (fun h => by
              rw [e1, e2, hst, h, hx, hy, hz, ht1]; simp)
            rw [← hz] at hALL
            have HALL := Lib.hid hALL
            clear ht1 hu1 hl1 hl2 hWN hSM hW1 hS1 e1 e2 hst hPZ hxyzT2 hALL hx hy hz hQ
            go_wp2_with fail
            refine (HOP.out _).mono ?_
            rintro e w2 ⟨rfl, hb⟩
            have HT2 := Lib.hid ((HX1.out.later hb).later (below_alloc w2 (.cells #[.string x, .string y, .int .i64 z] 28)))
            have HN2 := Lib.hid (threeAt_new w2 (.string x) (.string y) (.int .i64 z) 28)
            have hg2 : w.heap.size + 1 < w2.heap.size := (HX1.out.later hb).res.lt
            clear c0 c1 c2 hb
            obtain ⟨c0, c1, c2, _, _, _⟩ := HT2.out.arg.cells
            go_wp2_with fail
            refine (HOS.out _).mono ?_
            rintro e w3 ⟨rfl, hb⟩
            have HT3 := Lib.hid (twoP_put (HT2.out.later hb) hg2 (.string x2) (.string y2) (.int .i64 z2))
            have HN3 := HN2.out.below hb
            have HN7 := Lib.hid (threeAt_put HN3 (.string x2) (.string y2) (.int .i64 z2))
            clear c0 c1 c2 hb
            obtain ⟨m0, m1, m2, y0, y1, y3⟩ := HN3.cells
            obtain ⟨c0, c1, c2, _, _, _⟩ := HT3.out.arg.cells
            clear HN3
            obtain ⟨n0, n1, n2, _, _, _⟩ := HN7.out.cells
            go_wp2_with fail
            refine (HALL.out _).mono ?_
            rintro e w4 ⟨a4, n4, c4, b4, rfl, hq, hb⟩
            have HT4 := Lib.hid (HT3.out.later hb)
            have HN4 := Lib.hid (HN7.out.below hb)
            clear hb n0 n1 n2 c0 c1 c2
            obtain ⟨c0, c1, c2, q0, q1, q2⟩ := HT4.out.arg.cells
            obtain ⟨n0, n1, n2, _, _, _⟩ := HN4.out.cells
            have HQ := Lib.hid hq
            clear hq
            cases b4 with
            | false =>
              have HNX : Hid _ := Lib.hid (HNF.out (by rw [← HQ.out]; rfl))
              go_wp2_with fail
              exact ⟨⟨k + 1, by omega, by go_num, by have h := HT4.out; rw [HNX.out] at h; exact Lib.hid h⟩, by simp [intOf]; omega⟩
            | true =>
              by_cases hn4 : n4 = 1
              · have HNX : Hid _ := Lib.hid (HNT.out (by rw [← HQ.out, hn4]; rfl))
                have hnn : ((n4 : Int) == 1) = true := by rw [hn4]; rfl
                clear hn4
                go_wp2_with fail
                exact ⟨⟨k + 1, by omega, by go_num, by have h := twoP_self HT4.out (.string x2) (.string y2) (.int .i64 z2); rw [HNX.out] at h; exact Lib.hid h⟩, by simp [intOf]; omega⟩
              · have HNX : Hid _ := Lib.hid (HNF.out (by rw [← HQ.out]; simp [hn4]))
                have hnn : ((n4 : Int) == 1) = false := by simp; omega
                clear hn4
                go_wp2_with fail
                exact ⟨⟨k + 1, by omega, by go_num, by have h := HT4.out; rw [HNX.out] at h; exact Lib.hid h⟩, by simp [intOf]; omega⟩
      · have hkE : k = N + M := by omega
        subst hkE
        obtain ⟨r0, r1, r2, f0, f1, f2⟩ := HX1.out.res.cells
        have HB := Lib.hid HX1.out.below
        have hfin : bs (cw (N + M)) = t1 ∧ bs (cs (N + M)) = u1 := ⟨by rw [ht1, hW1], by rw [hu1, hS1]⟩
        have HFI := Lib.hid hfin
        clear hfin ht1 hu1 hl1 hl2 hWN hSM hW1 hS1
        go_wp2_with fail
        refine bodyPost_ret (v := .tuple #[.agg #[.string t1, .string u1, .int .i64 D], .bool true]) ?_ rfl ⟨by rw [HFI.out.1, HFI.out.2], three_below HB.out (by omega) _ _ _⟩
        simp [results, Tryd.results28, go_sem, r0, r1, r2]
set_option maxHeartbeats 4000000 in
theorem law_HarderPuzzle (W S : List UInt8) (D : Int) (w : World) (hW : W.length ≤ maxLen) (hS : S.length ≤ maxLen) :
    Calls Tryd.prog 9 #[pzV W S D] w fun e w' => e = .returned (.bool true) ∧ Below w.heap.size w w' := by
  have hsz := fun (W0 : World) => szPuzzle_any W0 W S D hW hS
  obtain ⟨t, ht⟩ : ∃ t, t = bs W := ⟨_, rfl⟩
  obtain ⟨u, hu⟩ : ∃ u, u = bs S := ⟨_, rfl⟩
  by_cases hn : W.length + S.length ≤ 1048576
  · obtain ⟨m, hm⟩ : ∃ m : Nat, m = 1048576 - (W.length + S.length) := ⟨_, rfl⟩
    simp only [if_pos hn, ← hm] at hsz
    have hT := fun (W0 : World) => toPuzzle_any W0 W S D
    have hSP := fun (W0 : World) => specHarderPuzzle_any W S D W0 (by first | omega | (unfold maxLen; omega)) (by first | omega | (unfold maxLen; omega))
    have hIM := fun (W0 : World) => implHarderPuzzle_any W S D W0 (by first | omega | (unfold maxLen; omega)) (by first | omega | (unfold maxLen; omega))
    have hEQ := fun (W0 : World) => eqPuzzle_same W0 (rWHarderPuzzle W S D) (rSHarderPuzzle W S D) (rDHarderPuzzle W S D)
    obtain ⟨x, hx⟩ : ∃ x, x = bs (rWHarderPuzzle W S D) := ⟨_, rfl⟩
    obtain ⟨y, hy⟩ : ∃ y, y = bs (rSHarderPuzzle W S D) := ⟨_, rfl⟩
    obtain ⟨z, hz⟩ : ∃ z, z = rDHarderPuzzle W S D := ⟨_, rfl⟩
    obtain ⟨r1, hr1⟩ : ∃ r, r = rBHarderPuzzle W S D := ⟨_, rfl⟩
    simp only [pzV, ← ht, ← hu, ← hx, ← hy, ← hz, ← hr1] at hsz hT hSP hIM hEQ ⊢
    have HSZ := Lib.hid hsz; have HT := Lib.hid hT; have HSP := Lib.hid hSP; have HIM := Lib.hid hIM; have HEQ := Lib.hid hEQ
    have e1 : (r1 != r1) = false := by simp
    clear hsz hT hSP hIM hm hn ht hu hW hS hEQ hx hy hz hr1
    go_enter Tryd.func9, Tryd.ntmps9
    go_wp2_with fail
    refine (HSZ.out _).mono ?_
    rintro e w1 ⟨rfl, hb⟩
    have hx1 := (threeAt_new w (.string t) (.string u) (.int .i64 D) 23).below hb
    have HB1 := Lib.hid (below_trans (below_alloc _ _) hb)
    obtain ⟨c0, c1, c2, _, _, _⟩ := hx1.cells
    have HX1 := Lib.hid hx1; clear hb hx1
    go_wp2_with fail
    refine (HT.out _).mono ?_
    rintro e w2 ⟨rfl, hb⟩
    have hx2 := HX1.out.below hb
    have HB2 := Lib.hid (below_trans HB1.out hb)
    obtain ⟨d0, d1, d2, _, _, _⟩ := hx2.cells
    have HX2 := Lib.hid hx2; clear hb hx2 c0 c1 c2
    go_wp2_with fail
    refine (HSP.out _).mono ?_
    rintro e w3 ⟨rfl, hb⟩
    have hx3 := HX2.out.below hb
    have HB3 := Lib.hid (below_trans HB2.out hb)
    have HA3 := Lib.hid (threeAt_new w3 (.string x) (.string y) (.int .i64 z) 28)
    obtain ⟨c0, c1, c2, _, _, _⟩ := hx3.cells
    have hlt3 := hx3.lt
    clear hb hx3 d0 d1 d2
    go_wp2_with fail
    refine (HT.out _).mono ?_
    rintro e w5 ⟨rfl, hb⟩
    have HB5 := Lib.hid (below_trans HB3.out (below_trans (below_alloc _ _) hb))
    have HS5 := Lib.hid (HA3.out.below hb)
    clear hb c0 c1 c2 hlt3
    go_wp2_with fail
    refine (HIM.out _).mono ?_
    rintro e w6 ⟨rfl, hb⟩
    have hs6 := HS5.out.below hb
    obtain ⟨d0, d1, d2, _, _, _⟩ := hs6.cells
    have hlt6 := hs6.lt
    have HB6 := Lib.hid (below_trans HB5.out hb)
    clear hb hs6
    go_wp2_with fail
    refine (HEQ.out _).mono ?_
    rintro e w8 ⟨rfl, hb⟩
    have HB8 := Lib.hid (below_trans HB6.out (below_trans (below_alloc _ _) hb))
    clear hb
    go_wp2_with fail
    go_ret
    exact ⟨rfl, HB8.out⟩
  · simp only [if_neg hn] at hsz
    simp only [pzV, ← ht, ← hu] at hsz ⊢
    have HSZ := Lib.hid hsz
    clear hsz ht hu
    go_enter Tryd.func9, Tryd.ntmps9
    go_wp2_with fail
    refine (HSZ.out _).mono ?_
    rintro e w1 ⟨rfl, hb⟩
    have HB := Lib.hid hb; clear hb
    go_wp2_with fail
    go_ret
    exact ⟨rfl, below_trans (below_alloc _ _) HB.out⟩
end Go.Proofs.YtplcdofpikdigaaDoor
