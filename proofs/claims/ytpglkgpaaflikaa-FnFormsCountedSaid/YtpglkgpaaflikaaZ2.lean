/- Chapter 6: the first numbers of an Eck sequence, on both sides. -/
import Derived.Test.YtpglkgpaaflikaaZ1
namespace Go.Proofs.Ytpglkgpaaflikaa
open Go.RowKit Go.BigFrame Go.Maps
set_option linter.unusedSimpArgs false
set_option linter.unusedVariables false
set_option maxRecDepth 4000

/-- The table of last places. -/
def lstL (s : Nat → Int) (k M : Nat) : List Int := (List.range M).map fun (x : Nat) => ((lst s (x : Int) k : Nat) : Int)
theorem lstL_len (s : Nat → Int) (k M : Nat) : (lstL s k M).length = M := by simp [lstL]
theorem lstL_zero (s : Nat → Int) (M : Nat) : lstL s 0 M = List.replicate M 0 := by
  refine List.ext_getElem (by simp [lstL]) fun i h1 h2 => ?_
  simp [lstL, lst]
theorem lstL_at (s : Nat → Int) (k M X : Nat) (h : X < M) : (lstL s k M)[X]? = some ((lst s (X : Int) k : Nat) : Int) := by simp [lstL, h]
theorem lstL_set (s : Nat → Int) (k M X : Nat) (hx : s k = (X : Int)) : (lstL s k M).set X ((k : Int) + 1) = lstL s (k + 1) M := by
  refine List.ext_getElem (by simp [lstL]) fun i h1 h2 => ?_
  rw [List.getElem_set]
  simp only [lstL, List.getElem_map, List.getElem_range]
  by_cases e : X = i
  · subst e
    rw [if_pos rfl]; unfold lst; rw [if_pos hx]; simp
  · rw [if_neg e]; congr 1
    show _ = if s k = (i : Int) then k + 1 else lst s (i : Int) k
    rw [if_neg (by rw [hx]; omega)]

def ebO (ns : List Int) (n most : Int) : Option (List Int) := if (plL ns && decide (1 ≤ n ∧ n ≤ most)) = true then some (upL (eckS ns) n.toNat) else none
set_option maxHeartbeats 4000000 in
theorem eckBeginning_any (w : World) (B : Nat) (v : Value) (ns : List Int) (n most : Int) (ha : IntsA w B v ns) (hm : most ≤ 10000) :
    Calls Try.prog 77 #[v, .int .i64 n, .int .i64 most] w fun e w' => IntsAOk (ebO ns n most) w w' e := by
  obtain ⟨i0, hi, hz0, hz1, hz2⟩ := info_parts info_intT
  have hL := isPlaceList_any w B v ns ha
  cases ht : plL ns with
  | false =>
    rw [ht] at hL
    rw [show ebO ns n most = none by unfold ebO; rw [ht]; rfl]
    obtain ⟨a, cap, rfl, _, _⟩ := intsA_slice ha
    have HL := Lib.hid hL; clear hL ha ht
    go_enter Try.func77, Try.ntmps77
    go_wp2_with fail
    refine HL.out.mono ?_
    rintro e w1 ⟨rfl, rfl⟩
    go_wp2_with fail
    go_ret2
    exact ⟨_, rfl, intsA_nil _ _, Below.refl _ _, fun _ => rfl⟩
  | true =>
    rw [ht] at hL
    cases hd : decide ((1 : Int) ≤ n ∧ n ≤ most) with
    | false =>
      rw [show ebO ns n most = none by unfold ebO; rw [ht, hd]; rfl]
      obtain ⟨a, cap, rfl, _, _⟩ := intsA_slice ha
      have HL := Lib.hid hL; have HD := Lib.hid hd; clear hL ha ht hd
      go_enter Try.func77, Try.ntmps77
      go_wp2_with fail
      refine HL.out.mono ?_
      rintro e w1 ⟨rfl, rfl⟩
      go_wp2_with fail
      refine (isWithin_is false _ _ _ _ HD.out).mono ?_
      rintro e w1 ⟨rfl, rfl⟩
      go_wp2_with fail
      go_ret2
      exact ⟨_, rfl, intsA_nil _ _, Below.refl _ _, fun _ => rfl⟩
    | true =>
      have hn := of_decide_eq_true hd
      rw [show ebO ns n most = some (upL (eckS ns) n.toNat) by unfold ebO; rw [ht, hd]; rfl]
      obtain ⟨K, rfl⟩ := Int.eq_ofNat_of_zero_le (show 0 ≤ n by omega)
      rw [Int.toNat_natCast]
      have hK9 : K ≤ 10000 := by omega
      have hK1 : 1 ≤ K := by omega
      have harg := fun (W : World) (hb : Below w.heap.size w W) => argL_of_intsA (intsA_below ha hb)
      obtain ⟨a, cap, hv, _, _⟩ := intsA_slice ha
      obtain ⟨N, hN⟩ : ∃ N, N = ns.length := ⟨_, rfl⟩
      rw [← hN] at hv
      subst hv
      have HL := Lib.hid hL; have HD := Lib.hid hd; have HP := Lib.hid ht; have HA := Lib.hid harg
      clear hL ha ht hd hn harg hN
      go_enter Try.func77, Try.ntmps77
      go_wp2_with fail
      refine HL.out.mono ?_
      rintro e w1 ⟨rfl, rfl⟩
      go_wp2_with fail
      refine (isWithin_is true _ _ _ _ HD.out).mono ?_
      rintro e w1 ⟨rfl, rfl⟩
      go_wp2_with (refine wpList_make_own _ rfl _ _ 22 rfl w.heap.size 3 i0 (.int .i64 0) 1 Try.underlying22 hi hz0 hz1 .i64 .i64 (K : Int) K rfl rfl rfl (by rw [hz2]; omega) (by unfold maxLen; omega) (Nat.le_refl _) ?_; intro w1 hown hgr; have HO := Lib.hid hown; have HB := Lib.hid ((Below.refl w.heap.size w).grown hgr (Nat.le_refl _) (fun k h => by cases h)); clear hown hgr)
      refine (eckFrom_any w1 a N cap ns).mono ?_
      rintro e w2 ⟨rfl, hl, hb⟩
      have hlt : w.heap.size < w1.heap.size := (HO.out.lt w.heap.size rfl).2
      have HO2 := Lib.hid (own_below HO.out hb); have HL2 := Lib.hid hl; have HB2 := Lib.hid (below_trans HB.out hb)
      clear hl hb
      unfold eckV
      go_wp2_with fail
      go_loopw [8, 24] (fun ov iv wr => ∃ k : Nat, k ≤ K ∧ ov = .slice (some ⟨w.heap.size, 0, none⟩) k K ∧ iv = .int .i64 k ∧ Hid (Ints wr w.heap.size (.slice (some ⟨w.heap.size, 0, none⟩) k K) (upL (eckS ns) k) ∧ EckAt wr w1.heap.size k ns (.slice a N cap) ∧ w1.heap.size ≤ wr.heap.size ∧ Below w.heap.size w wr)) (fun _ iv _ => K - (intOf iv).toNat)
      case atStart => exact ⟨0, Nat.zero_le _, rfl, rfl, HO2.out, HL2.out, by have := HL2.out.2.1; omega, HB2.out⟩
      case round =>
        obtain ⟨k, hk, rfl, rfl, HX⟩ := hrel
        by_cases hlt2 : k < K
        · have hcall := eck1_any wr w1.heap.size k ns _ HX.out.2.1 (HA.out wr HX.out.2.2.2) HP.out (by omega)
          have HCALL := Lib.hid hcall; clear hcall
          go_wp2_with fail
          refine HCALL.out.mono ?_
          rintro e w3 ⟨rfl, hl3, hb3⟩
          have hrow3 : Ints w3 w.heap.size (.slice (some ⟨w.heap.size, 0, none⟩) k K) (upL (eckS ns) k) := own_block HX.out.1 (fun j hj => by
            cases hj
            exact hb3.block w.heap.size hlt)
          have HL3 := Lib.hid hl3; have HR3 := Lib.hid hrow3; have HB3 := Lib.hid (HX.out.2.2.2.trans (hb3.mono (Nat.le_of_lt hlt))); have HS3 := Lib.hid (Nat.le_trans HX.out.2.2.1 hb3.size)
          clear hl3 hb3 hrow3
          go_wp2_with (at_builtin; refine wpI_fits w3 rfl _ _ rfl w (eckS ns k) HR3.out rfl rfl (upL_len _ _) HB3.out (by omega) ?_; intro w4 ho4 hb4 hk4 hs4; have HO4 := Lib.hid ho4; have HB4 := Lib.hid hb4; have HK4 := Lib.hid hk4; have HS4 := Lib.hid hs4; clear ho4 hb4 hk4 hs4)
          go_roundw
          case rel =>
            refine ⟨k + 1, by omega, rfl, by go_num, by rw [upL_succ]; exact HO4.out, HL3.out.keep HS4.out (fun j h1 h2 => HK4.out j h2 (by omega)), Nat.le_trans HS3.out HS4.out, HB4.out⟩
          case measure => simp [intOf] <;> omega
        · obtain rfl : k = K := by omega
          go_wp2_with fail
          go_ret2
          exact ⟨_, rfl, intsA_of HX.out.1, HX.out.2.2.2, fun h => by cases h⟩

theorem ints_cell {w : World} {B g n c : Nat} {xs : List Int} (h : Ints w B (.slice (some ⟨g, 0, none⟩) n c) xs) (i : Nat) (hi : i < xs.length) : w.cell? ⟨g, i, none⟩ = some (.int .i64 xs[i]) := by
  rcases ints_open h with ⟨e, _⟩ | ⟨g', c', e, _, _, _, _, hc, _⟩
  · cases e
  · cases e; exact hc i hi
theorem ints_frozenZ {w : World} {B g n c : Nat} {xs : List Int} (h : Ints w B (.slice (some ⟨g, 0, none⟩) n c) xs) (hn : xs.length = n) (i : Nat) : w.frozen? ⟨g, i, none⟩ = false := by subst hn; exact World.ownsRow.frozenAt h i
theorem ints_storeZ {w : World} {B g n c : Nat} {xs : List Int} (h : Ints w B (.slice (some ⟨g, 0, none⟩) n c) xs) (hn : xs.length = n) (i : Nat) (y : Int) : Ints (w.setCell ⟨g, i, none⟩ (.int .i64 y)) B (.slice (some ⟨g, 0, none⟩) n c) (xs.set i y) := by
  subst hn
  have := (World.ownsRow.stored h i (.int .i64 y)).1
  unfold Ints
  rw [List.length_set, List.map_set]
  exact this
theorem ne4 {v v' : Value} {W gt : Nat} (h : v'.ownBlock = v.ownBlock ∨ ∃ g, v'.ownBlock = some g ∧ W ≤ g) (h1 : v.ownBlock ≠ some gt) (h2 : gt < W) : v'.ownBlock ≠ some gt := by
  rcases h with e | ⟨g, e, hg⟩
  · rw [e]; exact h1
  · rw [e]; intro e2; have := Option.some.inj e2; omega

set_option maxHeartbeats 8000000 in
theorem plEck_any (w : World) (B : Nat) (v : Value) (ns : List Int) (K : Nat) (ha : IntsA w B v ns) (hp : plL ns = true) (hK : K ≤ 10000) :
    Calls Try.prog 78 #[v, .int .i64 K] w fun e w' => ∃ u, e = .returned u ∧ Ints w' w.heap.size u (upL (eckS ns) K) ∧ Below w.heap.size w w' := by
  obtain ⟨i0, hi, hz0, hz1, hz2⟩ := info_parts info_intT
  obtain ⟨h1, h60, _⟩ := plL_open hp
  obtain ⟨g, cap, rfl, hc1, hc2, _, hg, hce⟩ := intsA_at ha h1
  have HC := Lib.hid hce; have HP := Lib.hid hp
  obtain ⟨N, hN⟩ : ∃ N, N = ns.length := ⟨_, rfl⟩
  have HN := Lib.hid hN
  obtain ⟨m0, hm0⟩ : ∃ m0 : Nat, m0 = if K > 60 then K else 60 := ⟨_, rfl⟩
  have hmost := l1Most_any w (K : Int) 60
  rw [show (if (K : Int) > 60 then (K : Int) else 60) = (m0 : Int) by rw [hm0]; split <;> split <;> omega] at hmost
  have hm1 : K ≤ m0 := by rw [hm0]; split <;> omega
  have hm2 : m0 ≤ 10000 := by rw [hm0]; split <;> omega
  have HM := Lib.hid hmost
  rw [← hN] at hc1 h1 h60 ⊢
  clear ha hce hN hp hm0 hmost
  have HNX := Lib.hid (fun k => nx_succ ns k)
  obtain ⟨M, hM⟩ : ∃ M, M = m0 + 1000 + 2 := ⟨_, rfl⟩
  have e1 : (m0 : Int) + 1000 + 2 = (M : Int) := by omega
  have hM9 : M ≤ 12000 := by omega
  have hMK : K + 1000 < M := by omega
  clear hM
  go_enter Try.func78, Try.ntmps78
  go_wp2_with fail
  refine HM.out.mono ?_
  rintro e w0 ⟨rfl, rfl⟩
  go_wp2_with (refine wpList_make_full _ rfl _ _ 22 rfl w.heap.size 3 i0 (.int .i64 0) 1 Try.underlying22 hi hz0 hz1 .i64 .i64 (M : Int) (M : Int) M rfl rfl rfl rfl (by rw [hz2]; omega) (by unfold maxLen; omega) (Nat.le_refl _) ?_; intro w1 hown hgr; have HO := Lib.hid hown; have HB := Lib.hid ((Below.refl w.heap.size w).grown hgr (Nat.le_refl _) (fun k h => by cases h)); clear hown hgr)
  go_loopw [6, 7, 8] (fun ov nv iv wr => ∃ k q : Nat, k ≤ K ∧ nv = .int .i64 q ∧ iv = .int .i64 k ∧ Hid (q = nx ns k) ∧ Hid (Ints wr w.heap.size ov (upL (eckS ns) k) ∧ ov.ownBlock ≠ some w.heap.size ∧ Ints wr w.heap.size (.slice (some ⟨w.heap.size, 0, none⟩) M M) (lstL (eckS ns) k M) ∧ Below w.heap.size w wr)) (fun _ _ iv _ => K - (intOf iv).toNat)
  case atStart =>
    refine ⟨0, 0, Nat.zero_le _, rfl, rfl, Lib.hid rfl, World.ownsRow_nil _ _ _ _, by simp [Value.ownBlock], ?_, HB.out⟩
    have e : (madeCells (Value.int .i64 0).cells (M * 1)).toList = (lstL (eckS ns) 0 M).map (.int .i64) := by
      rw [Nat.mul_one, lstL_zero, List.map_replicate]; exact toList_madeCells_one _ _
    unfold Ints
    rw [lstL_len]
    exact e ▸ HO.out
  case round =>
    obtain ⟨k, q, hk, rfl, rfl, HQ, HX⟩ := hrel
    by_cases hlt : k < K
    · have hbd := eckS_bd HP.out k
      obtain ⟨X, hX⟩ := Int.eq_ofNat_of_zero_le hbd.1
      have hXM : X < M := by omega
      obtain ⟨L, hL⟩ : ∃ L, L = lst (eckS ns) (X : Int) k := ⟨_, rfl⟩
      have hLk : L ≤ k := by rw [hL]; exact lst_le _ _ _
      have hbk : bk (eckS ns) k = if L = 0 then 0 else k + 1 - L := by unfold bk; rw [hX, ← hL]
      have hnx := HNX.out k
      rw [hbk] at hnx
      have hset := lstL_set (eckS ns) k M X hX
      have hat := lstL_at (eckS ns) k M X hXM
      rw [← hL] at hat
      have hmem : X < (lstL (eckS ns) k M).length := by rw [lstL_len]; exact hXM
      have hatg : (lstL (eckS ns) k M)[X]'hmem = (L : Int) := by
        rw [List.getElem?_eq_getElem hmem] at hat; exact Option.some.inj hat
      have hgt : w.heap.size < wr.heap.size := (HX.out.2.2.1.lt w.heap.size rfl).2
      have HSET := Lib.hid hset; have HATG := Lib.hid hatg; have HXX := Lib.hid hX; have HGT := Lib.hid hgt
      have hNin : k < N → wr.cell? ⟨g, k, none⟩ = some (.int .i64 (X : Int)) := fun h => by
        have hk' : k < ns.length := by rw [← HN.out]; exact h
        rw [← HXX.out, eckS_in hk']
        exact (HX.out.2.2.2.cell (p := ⟨g, k, none⟩) hg).trans (HC.out k hk')
      have hNout : ¬ k < N → X = q := fun h => by
        have h1' : 1 ≤ ns.length := by rw [← HN.out]; exact h1
        have := eckS_out h1' (k := k) (by rw [← HN.out]; exact h)
        rw [HXX.out, ← HQ.out] at this
        omega
      clear hbd hX hL hbk hset hat hatg hgt
      by_cases hlN : k < N
      · have h2 := hNin hlN
        clear hNin hNout
        by_cases hL0 : L = 0
        · rw [if_pos hL0] at hnx
          have HNX2 := Lib.hid hnx
          subst hL0
          clear hnx
          go_wp2_with (at_builtin; go_must (refine wpI_app wr rfl _ _ rfl w (X : Int) HX.out.1 rfl rfl HX.out.2.2.2 (by rw [upL_len]; omega) ?_; intro v4 w4 ho4 hb4 hk4 hs4 hw4; have HO4 := Lib.hid ho4; have HB4 := Lib.hid hb4; have HW4 := Lib.hid hw4; have HT4 : Hid (Ints w4 w.heap.size (.slice (some ⟨w.heap.size, 0, none⟩) M M) (lstL (eckS ns) k M)) := Lib.hid (own_block HX.out.2.2.1 (w' := w4) (fun j hj => by cases hj; exact hk4 w.heap.size HGT.out HX.out.2.1)); have h5 := ints_cell HT4.out X (by rw [lstL_len]; exact hXM); rw [HATG.out] at h5; have h6 : w4.frozen? ⟨w.heap.size, X, none⟩ = false := ints_frozenZ HT4.out (lstL_len _ _ _) X; clear ho4 hb4 hk4 hs4 hw4))
          go_roundw
          case rel =>
            refine ⟨k + 1, _, by omega, rfl, by go_num, Lib.hid HNX2.out.symm, ?_, ?_, ?_, HB4.out.setCell (p := ⟨w.heap.size, X, none⟩) (Nat.le_refl _) _⟩
            · rw [upL_succ, HXX.out]
              exact own_block HO4.out (fun j hj => Below.heap_setCell _ _ _ _ (fun e => ne4 HW4.out HX.out.2.1 HGT.out (by rw [hj, e])))
            · exact ne4 HW4.out HX.out.2.1 HGT.out
            · rw [← HSET.out]
              exact ints_storeZ HT4.out (lstL_len _ _ _) X _
          case measure => simp [intOf] <;> omega
        · have hLp : 0 < L := by omega
          rw [if_neg hL0] at hnx
          have HNX2 := Lib.hid hnx
          obtain ⟨m, hm⟩ : ∃ m, m = k + 1 - L := ⟨_, rfl⟩
          rw [← hm] at HNX2
          have he : (k : Int) + 1 - (L : Int) = (m : Int) := by omega
          clear hnx hm
          skip
          go_wp2_with (at_builtin; go_must (refine wpI_app wr rfl _ _ rfl w (X : Int) HX.out.1 rfl rfl HX.out.2.2.2 (by rw [upL_len]; omega) ?_; intro v4 w4 ho4 hb4 hk4 hs4 hw4; have HO4 := Lib.hid ho4; have HB4 := Lib.hid hb4; have HW4 := Lib.hid hw4; have HT4 : Hid (Ints w4 w.heap.size (.slice (some ⟨w.heap.size, 0, none⟩) M M) (lstL (eckS ns) k M)) := Lib.hid (own_block HX.out.2.2.1 (w' := w4) (fun j hj => by cases hj; exact hk4 w.heap.size HGT.out HX.out.2.1)); have h5 := ints_cell HT4.out X (by rw [lstL_len]; exact hXM); rw [HATG.out] at h5; have h6 : w4.frozen? ⟨w.heap.size, X, none⟩ = false := ints_frozenZ HT4.out (lstL_len _ _ _) X; clear ho4 hb4 hk4 hs4 hw4))
          go_roundw
          case rel =>
            refine ⟨k + 1, _, by omega, rfl, by go_num, Lib.hid HNX2.out.symm, ?_, ?_, ?_, HB4.out.setCell (p := ⟨w.heap.size, X, none⟩) (Nat.le_refl _) _⟩
            · rw [upL_succ, HXX.out]
              exact own_block HO4.out (fun j hj => Below.heap_setCell _ _ _ _ (fun e => ne4 HW4.out HX.out.2.1 HGT.out (by rw [hj, e])))
            · exact ne4 HW4.out HX.out.2.1 HGT.out
            · rw [← HSET.out]
              exact ints_storeZ HT4.out (lstL_len _ _ _) X _
          case measure => simp [intOf] <;> omega
      · have hqX := hNout hlN
        clear hNin hNout
        by_cases hL0 : L = 0
        · rw [if_pos hL0] at hnx
          have HNX2 := Lib.hid hnx
          subst hL0; subst hqX
          clear hnx
          go_wp2_with (at_builtin; go_must (refine wpI_app wr rfl _ _ rfl w (X : Int) HX.out.1 rfl rfl HX.out.2.2.2 (by rw [upL_len]; omega) ?_; intro v4 w4 ho4 hb4 hk4 hs4 hw4; have HO4 := Lib.hid ho4; have HB4 := Lib.hid hb4; have HW4 := Lib.hid hw4; have HT4 : Hid (Ints w4 w.heap.size (.slice (some ⟨w.heap.size, 0, none⟩) M M) (lstL (eckS ns) k M)) := Lib.hid (own_block HX.out.2.2.1 (w' := w4) (fun j hj => by cases hj; exact hk4 w.heap.size HGT.out HX.out.2.1)); have h5 := ints_cell HT4.out X (by rw [lstL_len]; exact hXM); rw [HATG.out] at h5; have h6 : w4.frozen? ⟨w.heap.size, X, none⟩ = false := ints_frozenZ HT4.out (lstL_len _ _ _) X; clear ho4 hb4 hk4 hs4 hw4))
          go_roundw
          case rel =>
            refine ⟨k + 1, _, by omega, rfl, by go_num, Lib.hid HNX2.out.symm, ?_, ?_, ?_, HB4.out.setCell (p := ⟨w.heap.size, X, none⟩) (Nat.le_refl _) _⟩
            · rw [upL_succ, HXX.out]
              exact own_block HO4.out (fun j hj => Below.heap_setCell _ _ _ _ (fun e => ne4 HW4.out HX.out.2.1 HGT.out (by rw [hj, e])))
            · exact ne4 HW4.out HX.out.2.1 HGT.out
            · rw [← HSET.out]
              exact ints_storeZ HT4.out (lstL_len _ _ _) X _
          case measure => simp [intOf] <;> omega
        · have hLp : 0 < L := by omega
          rw [if_neg hL0] at hnx
          have HNX2 := Lib.hid hnx
          obtain ⟨m, hm⟩ : ∃ m, m = k + 1 - L := ⟨_, rfl⟩
          rw [← hm] at HNX2
          have he : (k : Int) + 1 - (L : Int) = (m : Int) := by omega
          clear hnx hm
          subst hqX
          go_wp2_with (at_builtin; go_must (refine wpI_app wr rfl _ _ rfl w (X : Int) HX.out.1 rfl rfl HX.out.2.2.2 (by rw [upL_len]; omega) ?_; intro v4 w4 ho4 hb4 hk4 hs4 hw4; have HO4 := Lib.hid ho4; have HB4 := Lib.hid hb4; have HW4 := Lib.hid hw4; have HT4 : Hid (Ints w4 w.heap.size (.slice (some ⟨w.heap.size, 0, none⟩) M M) (lstL (eckS ns) k M)) := Lib.hid (own_block HX.out.2.2.1 (w' := w4) (fun j hj => by cases hj; exact hk4 w.heap.size HGT.out HX.out.2.1)); have h5 := ints_cell HT4.out X (by rw [lstL_len]; exact hXM); rw [HATG.out] at h5; have h6 : w4.frozen? ⟨w.heap.size, X, none⟩ = false := ints_frozenZ HT4.out (lstL_len _ _ _) X; clear ho4 hb4 hk4 hs4 hw4))
          go_roundw
          case rel =>
            refine ⟨k + 1, _, by omega, rfl, by go_num, Lib.hid HNX2.out.symm, ?_, ?_, ?_, HB4.out.setCell (p := ⟨w.heap.size, X, none⟩) (Nat.le_refl _) _⟩
            · rw [upL_succ, HXX.out]
              exact own_block HO4.out (fun j hj => Below.heap_setCell _ _ _ _ (fun e => ne4 HW4.out HX.out.2.1 HGT.out (by rw [hj, e])))
            · exact ne4 HW4.out HX.out.2.1 HGT.out
            · rw [← HSET.out]
              exact ints_storeZ HT4.out (lstL_len _ _ _) X _
          case measure => simp [intOf] <;> omega
    · obtain rfl : k = K := by omega
      go_wp2_with fail
      go_ret
      exact ⟨_, rfl, HX.out.1, HX.out.2.2.2⟩
end Go.Proofs.Ytpglkgpaaflikaa
