/- CountWords: the program's. -/
import Derived.Test.YtdlhahigiooddaaJ4
namespace Go.Proofs.Ytdlhahigiooddaa
open Go.RowKit Go.BigFrame
set_option linter.unusedSimpArgs false
set_option linter.unusedVariables false
set_option maxRecDepth 4000

theorem innerI_len (d n : Nat) (c : List Nat) : ∀ k, (innerI d n c k).length = c.length
  | 0 => rfl
  | k + 1 => by
    show (if k + 1 = n then _ else _ : List Nat).length = _
    split <;> simp [innerI_len d n c k]
theorem outerI_len (d L len : Nat) : ∀ m, (outerI d L len m).length = len + 1
  | 0 => by simp [outerI]
  | m + 1 => by simp [outerI, innerI_len, outerI_len d L len m]
theorem innerI_other (d n : Nat) (c : List Nat) (j : Nat) (hj : j ≠ n) : ∀ k, (innerI d n c k).getD j 0 = c.getD j 0
  | 0 => rfl
  | k + 1 => by
    show (if k + 1 = n then _ else _ : List Nat).getD j 0 = _
    split
    · rw [getD_set_ne _ _ _ _ (fun e => hj e.symm)]; exact innerI_other d n c j hj k
    · rw [getD_set_ne _ _ _ _ (fun e => hj e.symm)]; exact innerI_other d n c j hj k
theorem innerI_bound (d n : Nat) (c : List Nat) (hd : 1 ≤ d) (hn : n < c.length) (hc : ∀ j, j < n → c.getD j 0 ≤ d ^ j) (h0 : c.getD n 0 = 0) : ∀ k, k ≤ n →
    (k < n → (innerI d n c k).getD n 0 + d ^ (n - k) ≤ d ^ n) ∧ (k = n → (innerI d n c k).getD n 0 ≤ d ^ n)
  | 0, _ => ⟨fun _ => by show c.getD n 0 + _ ≤ _; rw [h0]; simp, fun _ => by show c.getD n 0 ≤ _; rw [h0]; exact Nat.zero_le _⟩
  | k + 1, hk => by
    obtain ⟨i1, _⟩ := innerI_bound d n c hd hn hc h0 k (by omega)
    have i1 := i1 (by omega)
    have hl : n < (innerI d n c k).length := by rw [innerI_len]; exact hn
    refine ⟨fun hlt => ?_, fun he => ?_⟩
    · have e1 : (innerI d n c (k + 1)).getD n 0 = (innerI d n c k).getD n 0 + c.getD (n - (k + 1)) 0 * (d - 1) := by
        show (if k + 1 = n then _ else _ : List Nat).getD n 0 = _
        rw [if_neg (by omega), getD_set_eq _ _ _ hl, innerI_other d n c (n - (k + 1)) (by omega) k]
      have h2 := hc (n - (k + 1)) (by omega)
      have h3 : d ^ (n - k) = d ^ (n - (k + 1)) * (d - 1) + d ^ (n - (k + 1)) := by
        rw [show n - k = n - (k + 1) + 1 by omega, Nat.pow_succ]
        conv => lhs; rw [show d = (d - 1) + 1 by omega, Nat.mul_add, Nat.mul_one, show (d - 1) + 1 = d by omega]
      have h4 := Nat.mul_le_mul_right (d - 1) h2
      rw [e1]; omega
    · have e1 : (innerI d n c (k + 1)).getD n 0 = (innerI d n c k).getD n 0 + d := by
        show (if k + 1 = n then _ else _ : List Nat).getD n 0 = _
        rw [if_pos he, getD_set_eq _ _ _ hl]
      have h3 : d ^ (n - k) = d := by rw [show n - k = 1 by omega, Nat.pow_one]
      rw [e1]; omega
theorem outerI_bound (d L len : Nat) (hd : 1 ≤ d) : ∀ m, m ≤ len → (∀ j, j ≤ m → (outerI d L len m).getD j 0 ≤ d ^ j) ∧ (∀ j, m < j → (outerI d L len m).getD j 0 = 0)
  | 0, _ => by
    have hz : ∀ j, (outerI d L len 0).getD j 0 = 0 := fun j => by
      show ((List.replicate (len + 1) 0 : List Nat)[j]?).getD 0 = 0
      rw [List.getElem?_replicate]; split <;> rfl
    exact ⟨fun j _ => by rw [hz]; exact Nat.zero_le _, fun j _ => hz j⟩
  | m + 1, hm => by
    obtain ⟨i1, i2⟩ := outerI_bound d L len hd m (by omega)
    have hb := innerI_bound d (m + 1) (outerI d L len m) hd (by rw [outerI_len]; omega) (fun j hj => i1 j (by omega)) (i2 (m + 1) (by omega)) (min L (m + 1)) (by omega)
    refine ⟨fun j hj => ?_, fun j hj => ?_⟩
    · by_cases e : j = m + 1
      · subst e
        show (innerI d (m + 1) (outerI d L len m) (min L (m + 1))).getD (m + 1) 0 ≤ _
        by_cases hlt : min L (m + 1) < m + 1
        · have := hb.1 hlt; omega
        · exact hb.2 (by omega)
      · show (innerI d (m + 1) (outerI d L len m) (min L (m + 1))).getD j 0 ≤ _
        rw [innerI_other _ _ _ _ e]; exact i1 j (by omega)
    · show (innerI d (m + 1) (outerI d L len m) (min L (m + 1))).getD j 0 = 0
      rw [innerI_other _ _ _ _ (by omega)]; exact i2 j (by omega)
/-- One step of the program's inner loop stays small. -/
theorem innerI_small (d L len m k : Nat) (hd : 1 ≤ d) (hd9 : d ≤ 9) (hm : m + 1 ≤ len) (hlen : len ≤ 18) (hk : k < m + 1) :
    (innerI d (m + 1) (outerI d L len m) k).getD (m + 1) 0 ≤ 150094635296999121 ∧ ∀ j, j < m + 1 → (innerI d (m + 1) (outerI d L len m) k).getD j 0 ≤ 150094635296999121 := by
  obtain ⟨i1, i2⟩ := outerI_bound d L len hd m (by omega)
  have hp : ∀ j, j ≤ 18 → d ^ j ≤ 150094635296999121 := fun j hj => Nat.le_trans (Nat.pow_le_pow_left hd9 j) (Nat.le_trans (Nat.pow_le_pow_right (by omega) hj) (by decide))
  have hb := (innerI_bound d (m + 1) (outerI d L len m) hd (by rw [outerI_len]; omega) (fun j hj => i1 j (by omega)) (i2 (m + 1) (by omega)) k (by omega)).1 hk
  refine ⟨Nat.le_trans (Nat.le_trans (Nat.le_add_right _ _) hb) (hp _ (by omega)), fun j hj => ?_⟩
  rw [innerI_other _ _ _ _ (by omega)]
  exact Nat.le_trans (i1 j (by omega)) (hp _ (by omega))

theorem isDigitJ_is (b : Bool) (n : Int) (w : World) (h : decide (1 ≤ n ∧ n ≤ 9) = b) :
    Calls Try.prog 71 #[.int .i64 n] w fun e w' => e = .returned (.bool b) ∧ w = w' := by
  have H := Lib.hid h; clear h
  go_enter Try.func71, Try.ntmps71
  go_wp2_with fail
  refine (isWithin_is b _ _ _ _ H.out).mono ?_
  rintro e w1 ⟨rfl, rfl⟩
  go_wp2_with fail
  go_ret
  exact ⟨rfl, rfl⟩

set_option maxRecDepth 100000 in
set_option maxHeartbeats 4000000 in
theorem implCW_good (n c L : Nat) (w : World) (n1 : 1 ≤ n) (n2 : n ≤ 18) (d2 : c + 1 ≤ 9) (l1 : 1 ≤ L) (l2 : L ≤ 18) :
    Calls Try.prog 48 #[.int .i64 n, .int .i64 (c + 1 : Nat), .int .i64 L] w fun e w' => e = .returned (.tuple #[.int .i64 (implCW n (c + 1) L : Nat), .bool true]) ∧ Below w.heap.size w w' := by
  obtain ⟨i0, hi, hz0, hz1, hz2⟩ := info_parts info_int3
  have a1 : decide ((1 : Int) ≤ n ∧ (n : Int) ≤ 18) = true := by simp; omega
  have a2 : decide ((1 : Int) ≤ (c + 1 : Nat) ∧ ((c + 1 : Nat) : Int) ≤ 9) = true := by simp; omega
  have a3 : decide ((1 : Int) ≤ L ∧ (L : Int) ≤ 18) = true := by simp; omega
  have A1 := Lib.hid a1; have A2 := Lib.hid a2; have A3 := Lib.hid a3; clear a1 a2 a3
  have HLL := Lib.hid (show (n : Int) + 1 = ((n + 1 : Nat) : Int) by omega)
  obtain ⟨d, hd⟩ : ∃ d, d = c + 1 := ⟨_, rfl⟩
  have HD := Lib.hid hd
  rw [← hd] at A2 d2 ⊢
  have d1 : 1 ≤ d := by omega
  clear hd
  go_enter Try.func48, Try.ntmps48
  go_wp2_with fail
  refine (isWithin_is true _ _ _ _ A1.out).mono ?_
  rintro e w1 ⟨rfl, rfl⟩
  go_wp2_with fail
  refine (isDigitJ_is true _ _ A2.out).mono ?_
  rintro e w1 ⟨rfl, rfl⟩
  go_wp2_with fail
  refine (isWithin_is true _ _ _ _ A3.out).mono ?_
  rintro e w1 ⟨rfl, rfl⟩
  go_wp2_with (refine wpList_make_full _ rfl _ _ 37 rfl w.heap.size 3 i0 (.int .i64 0) 1 Try.underlying37 hi hz0 hz1 .i64 .i64 ((n : Int) + 1) ((n : Int) + 1) (n + 1) rfl rfl HLL.out HLL.out (by rw [hz2]; omega) (by unfold maxLen; omega) (Nat.le_refl _) ?_; intro w1 hown hgr; have HT := Lib.hid (tab_made hown); have HB := Lib.hid ((Below.refl w.heap.size w).grown hgr (Nat.le_refl _) (fun k h => by cases h)); clear hown hgr)
  obtain ⟨g, hg⟩ : ∃ g, g = w.heap.size := ⟨_, rfl⟩
  have HB := Lib.hid (show Below g w w1 by rw [hg]; exact HB.out)
  rw [← hg] at HT ⊢
  have hgw : w.heap.size ≤ g := by omega
  have HG := Lib.hid hg
  clear hg
  go_loopw [9] (fun nv wr => ∃ m : Nat, nv = .int .i64 (m + 1 : Nat) ∧ m ≤ n ∧ Hid (Tab wr g g (n + 1) (outerI d L n m) ∧ Below g w wr)) (fun nv _ => n + 1 - (intOf nv).toNat)
  case atStart => exact ⟨0, rfl, Nat.zero_le _, HT.out, HB.out⟩
  case round =>
    obtain ⟨m, rfl, hm, HX⟩ := hrel
    by_cases hlt : m < n
    · obtain ⟨e, he⟩ : ∃ e, e = outerI d L n m := ⟨_, rfl⟩
      have HEL : Hid (e.length = n + 1) := by rw [he]; exact outerI_len d L n m
      have HX2 : Hid (Tab wr g g (n + 1) e ∧ Below g w wr) := by rw [he]; exact HX
      have HEE := Lib.hid he
      clear he HX HT HB
      go_wp2_with fail
      rw [show decide ((m : Int) + 1 ≤ n) = true by simp; omega]
      go_loopw [10] (fun kv wr => ∃ k : Nat, kv = .int .i64 (k + 1 : Nat) ∧ k ≤ L ∧ k ≤ m + 1 ∧ Hid (Tab wr g g (n + 1) (innerI d (m + 1) e k) ∧ Below g w wr)) (fun kv _ => L + 1 - (intOf kv).toNat)
      case atStart => exact ⟨0, rfl, Nat.zero_le _, Nat.zero_le _, HX2.out.1, HX2.out.2⟩
      case round =>
        obtain ⟨k, rfl, hkL, hkm, HY⟩ := hrel
        by_cases hin : k < L ∧ k < m + 1
        · obtain ⟨hin1, hin2⟩ := hin
          have hsm := innerI_small d L n m k d1 d2 (by omega) n2 hin2
          rw [← HEE.out] at hsm
          obtain ⟨hs1, hs2⟩ := hsm
          obtain ⟨hi1, hif⟩ := tab_get HY.out.1 (m + 1) (by rw [innerI_len, HEL.out]; omega)
          obtain ⟨a, ha⟩ : ∃ a, a = (innerI d (m + 1) e k).getD (m + 1) 0 := ⟨_, rfl⟩
          rw [← ha] at hi1 hs1
          have HA := Lib.hid ha; clear ha
          by_cases hlast : k = m
          · subst hlast
            have hst : innerI d (k + 1) e (k + 1) = (innerI d (k + 1) e k).set (k + 1) (a + d) := by
              show (if k + 1 = k + 1 then _ else _) = _
              rw [if_pos rfl, HA.out]
            have HST := Lib.hid hst
            have hw : IntKind.i64.wrap ((a : Int) + (d : Int)) = ((a + d : Nat) : Int) := by rw [IntWalk.i64_in _ (by omega)]; omega
            clear hst hs2
            have fin : Tab (wr.setCell ⟨g, k + 1, none⟩ (.int .i64 ((a : Int) + (d : Int)))) g g (n + 1) (innerI d (k + 1) e (k + 1)) ∧ Below g w (wr.setCell ⟨g, k + 1, none⟩ (.int .i64 ((a : Int) + (d : Int)))) := by
              have := tab_set HY.out.1 (k + 1) (a + d)
              rw [Int.natCast_add] at this
              rw [HST.out]
              exact ⟨this, HY.out.2.setCell (p := ⟨g, k + 1, none⟩) (Nat.le_refl _) _⟩
            have FIN := Lib.hid fin
            clear fin
            by_cases hLm : (L : Int) ≤ (k + 1 : Nat)
            · go_wp2_with fail
              go_roundw
              case rel => exact ⟨k + 1, by go_num, by omega, by omega, FIN.out⟩
              case measure => simp [intOf] <;> omega
            · go_wp2_with fail
              go_roundw
              case rel => exact ⟨k + 1, by go_num, by omega, by omega, FIN.out⟩
              case measure => simp [intOf] <;> omega
          · have hkm2 : k < m := by omega
            obtain ⟨hi2, hif2⟩ := tab_get HY.out.1 (m - k) (by rw [innerI_len, HEL.out]; omega)
            have hs3 := hs2 (m - k) (by omega)
            obtain ⟨b, hb⟩ : ∃ b, b = (innerI d (m + 1) e k).getD (m - k) 0 := ⟨_, rfl⟩
            rw [← hb] at hi2 hs3
            have hbc : b * c ≤ 1200757082375992968 := Nat.le_trans (Nat.mul_le_mul hs3 (show c ≤ 8 by have := HD.out; omega)) (by decide)
            obtain ⟨x, hx⟩ : ∃ x, x = b * c := ⟨_, rfl⟩
            rw [← hx] at hbc
            have hst : innerI d (m + 1) e (k + 1) = (innerI d (m + 1) e k).set (m + 1) (a + x) := by
              show (if k + 1 = m + 1 then _ else _) = _
              rw [if_neg (by omega), HA.out, hx, hb, show m + 1 - (k + 1) = m - k by omega, show d - 1 = c by rw [HD.out]; omega]
            have HST := Lib.hid hst
            have hw0 : IntKind.i64.wrap (((m + 1 : Nat) : Int) - ((k + 1 : Nat) : Int)) = ((m - k : Nat) : Int) := by rw [IntWalk.i64_in _ (by omega)]; omega
            have hw1 : IntKind.i64.wrap ((d : Int) - 1) = (c : Int) := by rw [IntWalk.i64_in _ (by omega)]; have := HD.out; omega
            have hw2 : IntKind.i64.wrap ((b : Int) * (c : Int)) = (x : Int) := by rw [IntWalk.i64_in _ (by rw [← Int.natCast_mul, ← hx]; omega), ← Int.natCast_mul, ← hx]
            have hw3 : IntKind.i64.wrap ((a : Int) + (x : Int)) = ((a + x : Nat) : Int) := by rw [IntWalk.i64_in _ (by omega)]; omega
            have hlen : m - k < n + 1 := by omega
            have HBB := Lib.hid hb; have HXX := Lib.hid hx
            clear hst hs2 hb hx
            have fin : Tab (wr.setCell ⟨g, m + 1, none⟩ (.int .i64 ((a : Int) + (x : Int)))).drew g g (n + 1) (innerI d (m + 1) e (k + 1)) ∧ Below g w (wr.setCell ⟨g, m + 1, none⟩ (.int .i64 ((a : Int) + (x : Int)))).drew := by
              have := tab_set HY.out.1 (m + 1) (a + x)
              rw [Int.natCast_add] at this
              rw [HST.out]
              exact ⟨own_below this (below_drew _), (HY.out.2.setCell (p := ⟨g, m + 1, none⟩) (Nat.le_refl _) _).trans (belowN _ _ 1)⟩
            have FIN := Lib.hid fin
            clear fin
            obtain ⟨M, hM⟩ : ∃ M, M = m + 1 := ⟨_, rfl⟩
            have hMn : M < n + 1 := by omega
            have hkM : k + 1 < M := by omega
            have hkm3 : k ≤ M := by omega
            rw [← hM] at hi1 hif hw0 FIN ⊢
            have hmk : m - k = M - (k + 1) := by omega
            rw [hmk] at hi2 hw0 hlen
            clear hmk
            have HM := Lib.hid hM
            have hq1 : (((k + 1 : Nat) : Int) == (M : Int)) = false := by rw [beq_eq_false_iff_ne]; omega
            have hq2 : ((k : Int) + 1 == (M : Int)) = false := by rw [beq_eq_false_iff_ne]; omega
            clear hM hkm hin2 hlast hkm2 hs1
            by_cases hLm : (L : Int) ≤ M
            · go_wp2_with fail
              go_region
              go_wp2_with fail
              go_roundw
              case rel => exact ⟨k + 1, by go_num, by omega, by omega, FIN.out⟩
              case measure => simp [intOf] <;> omega
            · go_wp2_with fail
              go_region
              go_wp2_with fail
              go_roundw
              case rel => exact ⟨k + 1, by go_num, by omega, by omega, FIN.out⟩
              case measure => simp [intOf] <;> omega
        · have hkk : k = min L (m + 1) := by omega
          have hst : outerI d L n (m + 1) = innerI d (m + 1) e k := by
            show innerI d (m + 1) (outerI d L n m) (min L (m + 1)) = _
            rw [← HEE.out, ← hkk]
          have fin : Tab wr g g (n + 1) (outerI d L n (m + 1)) ∧ Below g w wr := by rw [hst]; exact HY.out
          have FIN := Lib.hid fin
          clear fin hst hkk
          by_cases hLm : (L : Int) ≤ (m + 1 : Nat)
          · go_wp2_with fail
            go_roundw
            case rel => exact ⟨m + 1, by go_num, by omega, FIN.out⟩
            case measure => simp [intOf] <;> omega
          · go_wp2_with fail
            go_roundw
            case rel => exact ⟨m + 1, by go_num, by omega, FIN.out⟩
            case measure => simp [intOf] <;> omega
    · obtain rfl : m = n := by omega
      obtain ⟨hi1, hif⟩ := tab_get HX.out.1 m (by rw [outerI_len]; omega)
      have HI : Hid (implCW m (c + 1) L = (outerI d L m m).getD m 0) := by rw [HD.out]; rfl
      obtain ⟨a, ha⟩ : ∃ a, a = (outerI d L m m).getD m 0 := ⟨_, rfl⟩
      rw [← ha] at hi1 HI
      clear ha
      go_wp2_with fail
      go_ret2
      exact ⟨by rw [HD.out, HI.out]; rfl, HG.out ▸ HX.out.2⟩
end Go.Proofs.Ytdlhahigiooddaa
