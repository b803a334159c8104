/- Chapter 8: numbers with so many letters: both sides and the law. -/
import Derived.Test.YtlcbdmmmafpchaaDoormn
namespace Go.Proofs.YtlcbdmmmafpchaaDoor
open Go.RowKit Go.BigFrame
set_option linter.unusedSimpArgs false
set_option linter.unusedVariables false
set_option maxRecDepth 4000

/-- Numbers of the call's own and whether there are any. -/
def NumsOk2 (B : Nat) (xs : List Int) (ok : Bool) (w : World) (e : Ending) (w' : World) : Prop := ∃ v, e = .returned (.tuple #[v, .bool ok]) ∧ Ints w' B v xs ∧ Below B w w'
theorem cell_newI (w : World) (n : Int) : ∀ (j : Nat) (y : Value), ([.int .i64 n] : List Value)[j]? = some y → (w.alloc (.cells #[.int .i64 n] 3)).cell? ((⟨w.heap.size, 0, none⟩ : Addr).add j) = some y := by
  intro j y hj
  match j, hj with
  | 0, hj => simp at hj; subst hj; rw [add_plainL]; exact cell_new _ _ _
  | j + 1, hj => simp at hj
/-- append(out, n), out a row of the call's own. -/
theorem wp_appI {ops : Array Oper} {rest : List Oper} {o : Oper} {a : Act} {Q : Exit → Act → World → Prop} (W : World) (hgd : o.guard = none) (s x : Operand)
    (ho : o.op = .call { callee := .builtin .append, args := #[s, x], argTypes := #[29, 29] })
    (n0 : World) {v : Value} {xs : List Int} {p : Nat} (y : Int) (h : Ints W n0.heap.size v xs) (hp : p = xs.length) (hs : a.eval s = v) (hx : a.eval x = .slice (some ⟨W.heap.size, 0, none⟩) 1 1) (hb : Below n0.heap.size n0 W) (hl : p ≤ 1000000)
    (hK : ∀ q d w', Ints w' n0.heap.size (.slice q (p + 1) d) (xs ++ [y]) → Below n0.heap.size n0 w' → wpList Tryd.prog ops Q rest (a.put o.dst (.slice q (p + 1) d)) w') :
    wpList Tryd.prog ops Q (o :: rest) a (W.alloc (.cells #[.int .i64 y] 3)) := by
  obtain ⟨i0, hi, hz0, hz1, hz2⟩ := info_parts info_iN
  subst hp
  have hsz := hb.size
  refine wpList_app _ hgd s x 29 ho n0.heap.size 3 i0 (.int .i64 0) 8 Tryd.underlying29 hi hz0 hz1 hz2 rfl v xs.length _ hs (World.ownsRow.alloc h _) ⟨W.heap.size, 0, none⟩ 1 1 [.int .i64 y] hx rfl (cell_newI _ _) (by simp [Value.oneCell']) (by unfold maxLen; omega) (by omega) (by simp; omega) ?_
  intro v' w' ho' hgr _
  obtain ⟨q, d, rfl⟩ := own_slice ho'
  refine hK q d w' ?_ ((hb.alloc hb.size _).grown hgr (by simp; omega) (fun g hg => (h.lt g hg).1))
  unfold Ints; simpa using ho'

set_option maxHeartbeats 2000000 in
set_option maxRecDepth 100000 in
theorem specWithLetters_any (L m : Int) (w : World) :
    Calls Tryd.prog 43 #[.int .i64 L, .int .i64 m] w (NumsOk2 w.heap.size (wlO L m) (wlB L m) w) := by
  have HG := Lib.hid (fun W => naMost_is m W)
  by_cases hL : 0 ≤ L
  · cases hb : mlB m with
    | false =>
      have e1 : wlB L m = false := by unfold wlB; rw [hb, Bool.and_false]
      have e : wlO L m = [] := by unfold wlO; rw [e1]; rfl
      rw [e, e1]; rw [hb] at HG
      have hLz : ¬ L < 0 := by omega
      clear e e1 hb
      go_enter Tryd.func43, Tryd.ntmps43
      go_wp2_with fail
      refine (HG.out _).mono ?_
      rintro e w1 ⟨rfl, rfl⟩
      go_wp2_with fail
      go_ret2
      exact ⟨_, rfl, World.ownsRow_nil _ _ _ _, below_refl _⟩
    | true =>
      obtain ⟨N, rfl, hN⟩ := mlB_parts hb
      have e1 : wlB L (N : Int) = true := by unfold wlB; rw [hb, decide_eq_true hL]; rfl
      obtain ⟨R, hR⟩ : ∃ R, R = wlK L (N + 1) := ⟨_, rfl⟩
      have e : wlO L (N : Int) = R := by unfold wlO; rw [e1, hR]; rfl
      rw [e, e1]; rw [hb] at HG
      have HR := Lib.hid hR
      have hLz : ¬ L < 0 := by omega
      obtain ⟨N1, hN1⟩ : ∃ N1, N1 = N + 1 := ⟨_, rfl⟩
      have hNz : (N : Int) + 1 = (N1 : Int) := by omega
      have HN1 := Lib.hid hN1
      have hN1b : N1 ≤ 2001 := by omega
      clear e e1 hb hR hN1
      go_enter Tryd.func43, Tryd.ntmps43
      go_wp2_with fail
      refine (HG.out _).mono ?_
      rintro e w1 ⟨rfl, rfl⟩
      go_wp2_with fail
      go_loopw [6, 7] (fun v iv wr => ∃ (k p d : Nat) (q : Option Addr) (X : List Int), k ≤ N + 1 ∧ p ≤ k ∧ iv = .int .i64 (k : Int) ∧ v = .slice q p d ∧ Hid (p = X.length ∧ X = wlK L k ∧ Ints wr w.heap.size (.slice q p d) X ∧ Below w.heap.size w wr)) (fun _ iv _ => N + 1 - (intOf iv).toNat)
      case atStart => exact ⟨0, 0, 0, none, [], Nat.zero_le _, Nat.le_refl _, rfl, rfl, rfl, rfl, World.ownsRow_nil _ _ _ _, below_refl _⟩
      case round =>
        obtain ⟨k, p, d, q, X, hk, hpk, rfl, rfl, HX⟩ := hrel
        by_cases hlt : k < N + 1
        · obtain ⟨M, hM⟩ : ∃ M, M = (ltN k).length := ⟨_, rfl⟩
          have hst : wlK L (k + 1) = X ++ if (M : Int) = L then [(k : Int)] else [] := by rw [wlK, ← HX.out.2.1, hM]
          have hMb : M ≤ 64 := by rw [hM]; exact ltN_len k (by omega)
          have hc : (k : Int) ≤ (N : Int) := by have := HN1.out; omega
          have HL := Lib.hid (fun (W : World) => naLetters_any k W (by omega))
          obtain ⟨t, ht⟩ : ∃ t, t = bs (ltN k) := ⟨_, rfl⟩
          have hsz : t.size = M := by rw [ht, bs_size, hM]
          rw [← ht] at HL
          have hp9 : p ≤ 1000000 := by omega
          have HP9 := Lib.hid hp9
          by_cases hq : (M : Int) = L
          · rw [if_pos hq] at hst
            have hz : ((M : Int) == L) = true := by simpa using hq
            have HST := Lib.hid hst; have HQ := Lib.hid hq
            clear hst hq hp9 ht hM
            go_wp2_with fail
            refine (HL.out _).mono ?_
            rintro e w1 ⟨rfl, hb⟩
            have HB := Lib.hid (below_trans HX.out.2.2.2 hb); have HI := Lib.hid (own_below HX.out.2.2.1 hb); clear hb
            go_wp2_with (at_builtin; refine wp_appI w1 rfl _ _ rfl w (k : Int) HI.out HX.out.1 rfl rfl HB.out HP9.out ?_; intro q3 d3 w3 hi3 hb3; have HI3 := Lib.hid hi3; have HB3 := Lib.hid hb3; clear hi3 hb3)
            go_roundw
            case rel => exact ⟨k + 1, p + 1, d3, q3, X ++ [(k : Int)], by omega, by omega, by go_num, rfl, by rw [List.length_append, ← HX.out.1]; rfl, HST.out.symm, HI3.out, HB3.out⟩
            case measure => simp [intOf] <;> omega
          · rw [if_neg hq, List.append_nil] at hst
            have hz : ((M : Int) == L) = false := by simpa using hq
            have HST := Lib.hid hst
            clear hst hq hp9 ht hM
            go_wp2_with fail
            refine (HL.out _).mono ?_
            rintro e w1 ⟨rfl, hb⟩
            have HB := Lib.hid (below_trans HX.out.2.2.2 hb); have HI := Lib.hid (own_below HX.out.2.2.1 hb); clear hb
            go_wp2_with fail
            go_roundw
            case rel => exact ⟨k + 1, p, d, q, X, by omega, by omega, by go_num, rfl, HX.out.1, HST.out.symm, HI.out, HB.out⟩
            case measure => simp [intOf] <;> omega
        · obtain rfl : k = N + 1 := by omega
          have hXR : X = R := by rw [HX.out.2.1, HR.out]
          subst hXR
          have hc : ¬ ((N + 1 : Nat) : Int) ≤ (N : Int) := by have := HN1.out; omega
          go_wp2_with fail
          go_ret2
          exact ⟨_, rfl, HX.out.2.2.1, HX.out.2.2.2⟩
  · have e1 : wlB L m = false := by unfold wlB; rw [decide_eq_false hL]; rfl
    have e : wlO L m = [] := by unfold wlO; rw [e1]; rfl
    rw [e, e1]
    have hLz : L < 0 := by omega
    clear e e1
    go_enter Tryd.func43, Tryd.ntmps43
    go_wp2_with fail
    go_ret2
    exact ⟨_, rfl, World.ownsRow_nil _ _ _ _, below_refl _⟩

set_option maxHeartbeats 2000000 in
set_option maxRecDepth 100000 in
theorem implWithLetters_any (L m : Int) (w : World) (NA : NamesAt w) :
    Calls Tryd.prog 42 #[.int .i64 L, .int .i64 m] w (NumsOk2 w.heap.size (wlO L m) (wlB L m) w) := by
  have HG := Lib.hid (fun W => canLook_is m W)
  by_cases hL : 0 ≤ L
  · cases hb : mlB m with
    | false =>
      have e1 : wlB L m = false := by unfold wlB; rw [hb, Bool.and_false]
      have e : wlO L m = [] := by unfold wlO; rw [e1]; rfl
      rw [e, e1]; rw [hb] at HG
      have hLz : ¬ L < 0 := by omega
      clear e e1 hb NA
      go_enter Tryd.func42, Tryd.ntmps42
      go_wp2_with fail
      refine (HG.out _).mono ?_
      rintro e w1 ⟨rfl, rfl⟩
      go_wp2_with fail
      go_ret2
      exact ⟨_, rfl, World.ownsRow_nil _ _ _ _, below_refl _⟩
    | true =>
      obtain ⟨N, rfl, hN⟩ := mlB_parts hb
      have e1 : wlB L (N : Int) = true := by unfold wlB; rw [hb, decide_eq_true hL]; rfl
      obtain ⟨R, hR⟩ : ∃ R, R = wlK L (N + 1) := ⟨_, rfl⟩
      have e : wlO L (N : Int) = R := by unfold wlO; rw [e1, hR]; rfl
      rw [e, e1]; rw [hb] at HG
      have HR := Lib.hid hR
      have hLz : ¬ L < 0 := by omega
      obtain ⟨N1, hN1⟩ : ∃ N1, N1 = N + 1 := ⟨_, rfl⟩
      have hNz : (N : Int) + 1 = (N1 : Int) := by omega
      have HN1 := Lib.hid hN1
      have hN1b : N1 ≤ 2001 := by omega
      have NAH := Lib.hid NA
      clear e e1 hb hR hN1 NA
      go_enter Tryd.func42, Tryd.ntmps42
      go_wp2_with fail
      refine (HG.out _).mono ?_
      rintro e w1 ⟨rfl, rfl⟩
      go_wp2_with fail
      go_loopw [6, 7, 18] (fun v cv iv wr => ∃ (k p d : Nat) (q : Option Addr) (X : List Int), k ≤ N + 1 ∧ p ≤ k ∧ iv = .int .i64 (k : Int) ∧ v = .slice q p d ∧ Hid (p = X.length ∧ X = wlK L k ∧ Ints wr w.heap.size (.slice q p d) X ∧ Below w.heap.size w wr)) (fun _ _ iv _ => N + 1 - (intOf iv).toNat)
      case atStart => exact ⟨0, 0, 0, (some ⟨w.heap.size, 0, none⟩), [], Nat.zero_le _, Nat.le_refl _, rfl, rfl, rfl, rfl, own_lit w w.heap.size 3 [] (Nat.le_refl _) (by simp [maxLen]), below_alloc _ _⟩
      case round =>
        obtain ⟨k, p, d, q, X, hk, hpk, rfl, rfl, HX⟩ := hrel
        by_cases hlt : k < N + 1
        · obtain ⟨M, hM⟩ : ∃ M, M = (ltN k).length := ⟨_, rfl⟩
          have hst : wlK L (k + 1) = X ++ if (M : Int) = L then [(k : Int)] else [] := by rw [wlK, ← HX.out.2.1, hM]
          have hMb : M ≤ 64 := by rw [hM]; exact ltN_len k (by omega)
          have hc : (k : Int) < (N1 : Int) := by have := HN1.out; omega
          have HL := Lib.hid (spellingOf_any k wr (by omega) (NAH.out.below HX.out.2.2.2))
          have HT := Lib.hid (lettersOf_two k wr (by omega))
          rw [← hM] at HT
          generalize aggT (cntA (ltN k)) = A at *
          have hp9 : p ≤ 1000000 := by omega
          have HP9 := Lib.hid hp9
          by_cases hq : (M : Int) = L
          · rw [if_pos hq] at hst
            have hz : ((M : Int) == L) = true := by simpa using hq
            have HST := Lib.hid hst; have HQ := Lib.hid hq
            clear hst hq hp9 hM
            go_wp2_with fail
            refine HL.out.mono ?_
            rintro e w1 ⟨rfl, hb⟩
            have HB1 := Lib.hid (below_trans HX.out.2.2.2 hb); have HI1 := Lib.hid (own_below HX.out.2.2.1 hb); clear hb
            go_wp2_with fail
            refine (HT.out _).mono ?_
            rintro e w2 ⟨rfl, hb⟩
            have HB := Lib.hid (below_trans HB1.out hb); have HI := Lib.hid (own_below HI1.out hb); clear hb
            go_wp2_with (at_builtin; refine wp_appI w2 rfl _ _ rfl w (k : Int) HI.out HX.out.1 rfl rfl HB.out HP9.out ?_; intro q3 d3 w3 hi3 hb3; have HI3 := Lib.hid hi3; have HB3 := Lib.hid hb3; clear hi3 hb3)
            go_roundw
            case rel => exact ⟨k + 1, p + 1, d3, q3, X ++ [(k : Int)], by omega, by omega, by go_num, rfl, by rw [List.length_append, ← HX.out.1]; rfl, HST.out.symm, HI3.out, HB3.out⟩
            case measure => simp [intOf] <;> omega
          · rw [if_neg hq, List.append_nil] at hst
            have hz : ((M : Int) == L) = false := by simpa using hq
            have HST := Lib.hid hst
            clear hst hq hp9 hM
            go_wp2_with fail
            refine HL.out.mono ?_
            rintro e w1 ⟨rfl, hb⟩
            have HB1 := Lib.hid (below_trans HX.out.2.2.2 hb); have HI1 := Lib.hid (own_below HX.out.2.2.1 hb); clear hb
            go_wp2_with fail
            refine (HT.out _).mono ?_
            rintro e w2 ⟨rfl, hb⟩
            have HB := Lib.hid (below_trans HB1.out hb); have HI := Lib.hid (own_below HI1.out hb); clear hb
            go_wp2_with fail
            go_roundw
            case rel => exact ⟨k + 1, p, d, q, X, by omega, by omega, by go_num, rfl, HX.out.1, HST.out.symm, HI.out, HB.out⟩
            case measure => simp [intOf] <;> omega
        · obtain rfl : k = N + 1 := by omega
          have hXR : X = R := by rw [HX.out.2.1, HR.out]
          subst hXR
          have hc : ¬ ((N + 1 : Nat) : Int) < (N1 : Int) := by have := HN1.out; omega
          go_wp2_with fail
          go_ret2
          exact ⟨_, rfl, HX.out.2.2.1, HX.out.2.2.2⟩
  · have e1 : wlB L m = false := by unfold wlB; rw [decide_eq_false hL]; rfl
    have e : wlO L m = [] := by unfold wlO; rw [e1]; rfl
    rw [e, e1]
    have hLz : L < 0 := by omega
    clear e e1 NA
    go_enter Tryd.func42, Tryd.ntmps42
    go_wp2_with fail
    go_ret2
    exact ⟨_, rfl, World.ownsRow_nil _ _ _ _, below_refl _⟩

end Go.Proofs.YtlcbdmmmafpchaaDoor
