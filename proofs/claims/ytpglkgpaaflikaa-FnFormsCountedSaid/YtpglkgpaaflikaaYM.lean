/- Chapter 6, at rows of numbers that lie anywhere: forms (by tools/genwide.py). -/
import Derived.Test.YtpglkgpaaflikaaYJ
import Derived.Test.YtpglkgpaaflikaaYC
namespace Go.Proofs.Ytpglkgpaaflikaa
open Go.RowKit Go.BigFrame Go.Maps
set_option linter.unusedSimpArgs false
set_option linter.unusedVariables false
set_option maxRecDepth 4000

set_option maxHeartbeats 4000000 in
theorem plForm_arg (w : World) (v : Value) (ds : List Int) (ha : ArgL w v ds) (h1 : 1 ≤ ds.length) (h9 : ds.length ≤ 100000) (hok : okD (sq ds) ds.length) :
    Calls Try.prog 59 #[v] w fun e w' => ∃ u, e = .returned u ∧ Ints w' w.heap.size u (fmL ds) ∧ Below w.heap.size w w' := by
  obtain ⟨g, o, cap, rfl, hc1, hc2, hg, hce⟩ := argL_at ha h1
  have HC := Lib.hid hce; have HOK := Lib.hid hok
  obtain ⟨N, hN⟩ : ∃ N, N = ds.length := ⟨_, rfl⟩
  have HN := Lib.hid hN
  rw [← hN] at hc1 h1 h9 ⊢
  clear ha hce hN hok
  go_enter Try.func59, Try.ntmps59
  go_wp2_with fail
  go_loopw [3, 4, 9] (fun ov mv iv wr => ∃ k m : Nat, k ≤ N ∧ m ≤ k ∧ iv = .int .i64 k ∧ mv = .int .i64 m ∧ Hid (m = (fmS (sq ds) k).2) ∧ Hid (Ints wr w.heap.size ov (fmS (sq ds) k).1 ∧ Below w.heap.size w wr)) (fun _ _ iv _ => N - (intOf iv).toNat)
  case atStart => exact ⟨0, 0, Nat.zero_le _, Nat.le_refl _, rfl, rfl, Lib.hid rfl, World.ownsRow_nil _ _ _ _, Below.refl _ _⟩
  case round =>
    obtain ⟨k, m, hk, hmk, rfl, rfl, HM, HX⟩ := hrel
    by_cases hlt : k < N
    · have hk' : k < ds.length := by rw [← HN.out]; exact hlt
      obtain ⟨d0, d9⟩ := HOK.out k hk'
      have h2 : wr.cell? ⟨g, o + k, none⟩ = some (.int .i64 ds[k]) := (HX.out.2.cell (p := ⟨g, o + k, none⟩) hg).trans (HC.out k hk')
      have hsx := sq_at hk'
      have hstep : fmS (sq ds) (k + 1) = if sq ds k > 0 then ((fmS (sq ds) k).1 ++ [(fmS (sq ds) k).1.getD (k - (sq ds k).toNat) 0], (fmS (sq ds) k).2) else ((fmS (sq ds) k).1 ++ [((fmS (sq ds) k).2 : Int) + 1], (fmS (sq ds) k).2 + 1) := rfl
      have hlen := fmS_len (sq ds) k
      rw [← hsx] at h2
      obtain ⟨x, hx⟩ : ∃ x, x = sq ds k := ⟨_, rfl⟩
      rw [← hx] at h2 hstep d0 d9
      by_cases h0 : x > 0
      · rw [if_pos h0] at hstep
        obtain ⟨j, hj⟩ : ∃ j, j = k - x.toNat := ⟨_, rfl⟩
        have hjl : j < (fmS (sq ds) k).1.length := by rw [hlen]; omega
        rw [← hj, List.getD_eq_getElem?_getD, List.getElem?_eq_getElem hjl, Option.getD_some] at hstep
        obtain ⟨y, hy⟩ : ∃ y, y = (fmS (sq ds) k).1[j] := ⟨_, rfl⟩
        rw [← hy] at hstep
        have he : (k : Int) - x = (j : Int) := by omega
        have hjk : j < k := by omega
        obtain ⟨go, co, rfl, hgo, hgw, hco, hnc⟩ := ints_slice HX.out.1 (by rw [hlen]; omega)
        have h3 := ints_at HX.out.1 j hjl
        rw [← hy] at h3
        have hR := HX.out.1
        rw [hlen] at hR hnc ⊢
        have HS := Lib.hid hstep; have HR := Lib.hid hR; have HLEN := Lib.hid hlen
        clear hsx hx hstep hj hy hR hlen hjl
        go_wp2_with (at_builtin; refine wpI_app wr rfl _ _ rfl w y HR.out rfl rfl HX.out.2 (by rw [HLEN.out]; omega) ?_; intro v4 w4 ho4 hb4 hk4 hs4 hw4; have HO4 := Lib.hid ho4; have HB4 := Lib.hid hb4; clear ho4 hb4 hk4 hs4 hw4)
        go_roundw
        case rel => exact ⟨k + 1, m, by omega, by omega, by go_num, rfl, Lib.hid (by rw [HS.out]; exact HM.out), by rw [HS.out]; exact HO4.out, HB4.out⟩
        case measure => simp [intOf] <;> omega
      · rw [if_neg h0, ← HM.out] at hstep
        have HS := Lib.hid hstep; have HLEN := Lib.hid hlen
        clear hsx hx hstep hlen
        go_wp2_with (at_builtin; refine wpI_app wr rfl _ _ rfl w ((m : Int) + 1) HX.out.1 rfl rfl HX.out.2 (by rw [HLEN.out]; omega) ?_; intro v4 w4 ho4 hb4 hk4 hs4 hw4; have HO4 := Lib.hid ho4; have HB4 := Lib.hid hb4; clear ho4 hb4 hk4 hs4 hw4)
        go_roundw
        case rel => exact ⟨k + 1, m + 1, by omega, by omega, by go_num, by go_num, Lib.hid (by rw [HS.out]), by rw [HS.out]; exact HO4.out, HB4.out⟩
        case measure => simp [intOf] <;> omega
    · obtain rfl : k = N := by omega
      go_wp2_with fail
      go_ret
      refine ⟨_, rfl, ?_, HX.out.2⟩
      unfold fmL
      rw [← HN.out]
      exact HX.out.1

set_option maxHeartbeats 4000000 in
theorem formBy_arg (w : World) (v : Value) (ds : List Int) (ha : ArgL w v ds) (hp : plL ds = true) :
    Calls Try.prog 57 #[v] w fun e w' => e = .returned (.tuple #[aggF (if okB ds = true then padF (fmL ds) else zF), .bool (okB ds)]) ∧ Below w.heap.size w w' := by
  obtain ⟨h1, h60, hin⟩ := plL_open hp
  obtain ⟨g, o, cap, rfl, hc1, hc2, hg, hce⟩ := argL_at ha h1
  have HC := Lib.hid hce; have HIN := Lib.hid hin
  obtain ⟨N, hN⟩ : ∃ N, N = ds.length := ⟨_, rfl⟩
  have HN := Lib.hid hN
  rw [← hN] at hc1 h1 h60 ⊢
  have hzf := zero_form
  obtain ⟨Z, hZ⟩ : ∃ Z, Z = fvA zF := ⟨_, rfl⟩
  have hbu : Try.prog.built 51 [] = some Z := by rw [hZ, fvA_zero]; exact built_form
  have hst : (Try.prog.info? 51).map (·.size) = some Z.size := by rw [hZ, fvA_size]; exact info_form
  have hZ1 : Z.all (·.oneCell') = true := by rw [hZ]; exact fvA_one _
  rw [← hZ] at hzf
  have HZ := Lib.hid hZ
  obtain ⟨R, hR⟩ : ∃ R, R = if okB ds = true then padF (fmL ds) else zF := ⟨_, rfl⟩
  obtain ⟨b, hb⟩ : ∃ b, b = okB ds := ⟨_, rfl⟩
  rw [← hR, ← hb]
  have hRb : okB ds = false → R = zF ∧ b = false := fun h => by rw [hR, hb, h]; exact ⟨rfl, rfl⟩
  have hRg : okB ds = true → R = padF (fmS (sq ds) N).1 ∧ b = true := fun h => by rw [hR, hb, h, hN]; exact ⟨rfl, rfl⟩
  have HRB := Lib.hid hRb; have HRG := Lib.hid hRg
  clear ha hce hN hin hp hZ hR hb hRb hRg
  go_enter Try.func57, Try.ntmps57
  go_wp2_with (first
    | (refine wpList_build rfl 51 _ rfl (by simp [hbu]) ?_; simp only [List.map_toArray, List.map_nil, hbu, Option.getD_some])
    | (refine wpList_store_row rfl 51 _ _ rfl (w.heap.size + 1) Z rfl rfl 51 Z (heap_alloc2_new _ _ _) hst rfl hZ1 ?_; rw [setRow_self _ _ _ _ _ (heap_alloc2_new _ _ _)]))
  go_loopw [5, 11] (fun mv iv wr => ∃ k m : Nat, k ≤ N ∧ m ≤ k ∧ iv = .int .i64 k ∧ mv = .int .i64 m ∧ Hid (m = (fmS (sq ds) k).2) ∧ Hid (BlkF wr (w.heap.size + 1) (padF (fmS (sq ds) k).1) ∧ BlkF wr w.heap.size zF ∧ (∀ i (hi : i < ds.length), i < k → ds[i] ≤ (i : Int)) ∧ Below w.heap.size w wr)) (fun _ iv _ => N - (intOf iv).toNat)
  case atStart =>
    refine ⟨0, 0, Nat.zero_le _, Nat.le_refl _, rfl, rfl, Lib.hid rfl, ⟨?_, rfl⟩, ⟨?_, rfl⟩, fun i _ h => by omega, below_trans (below_alloc _ _) (below_alloc _ _)⟩
    · rw [show padF (fmS (sq ds) 0).1 = zF from rfl, ← HZ.out]; exact heap_alloc2_new _ _ _
    · rw [← HZ.out]; exact heap_alloc2_old _ _ _
  case round =>
    obtain ⟨k, m, hk, hmk, rfl, rfl, HM, HX⟩ := hrel
    by_cases hlt : k < N
    · have hk' : k < ds.length := by rw [← HN.out]; exact hlt
      obtain ⟨d0, d9⟩ := HIN.out k hk'
      have h2 : wr.cell? ⟨g, o + k, none⟩ = some (.int .i64 ds[k]) := (HX.out.2.2.2.cell (p := ⟨g, o + k, none⟩) hg).trans (HC.out k hk')
      have hsx := sq_at hk'
      have hstep : fmS (sq ds) (k + 1) = if sq ds k > 0 then ((fmS (sq ds) k).1 ++ [(fmS (sq ds) k).1.getD (k - (sq ds k).toNat) 0], (fmS (sq ds) k).2) else ((fmS (sq ds) k).1 ++ [((fmS (sq ds) k).2 : Int) + 1], (fmS (sq ds) k).2 + 1) := rfl
      rw [hsx] at hstep
      have hlen := fmS_len (sq ds) k
      have hnew : ds[k] ≤ (k : Int) → ∀ i (hi : i < ds.length), i < k + 1 → ds[i] ≤ (i : Int) := fun h i hi hik => by
        by_cases e : i = k
        · subst e; exact h
        · exact HX.out.2.2.1 i hi (by omega)
      have hbad : ds[k] > (k : Int) → okB ds = false := fun h => okB_bad hk' h
      obtain ⟨x, hx⟩ : ∃ x, x = ds[k] := ⟨_, rfl⟩
      rw [← hx] at h2 hstep d0 d9 hnew hbad
      obtain ⟨yo, hyo⟩ : ∃ y, (padF (fmS (sq ds) k).1)[k]? = some y := by
        have := padF_end (xs := (fmS (sq ds) k).1) (by rw [hlen]; omega)
        rwa [hlen] at this
      have h4 := blkF_cell HX.out.1 hyo
      have h5 : wr.frozen? ⟨w.heap.size + 1, k, none⟩ = false := blkF_frozen HX.out.1 k
      have HSTEP := Lib.hid hstep; have HLEN := Lib.hid hlen; have HNEW := Lib.hid hnew; have HBAD := Lib.hid hbad
      clear hsx hx hstep hlen hnew hbad hyo
      by_cases hbig : x > (k : Int)
      · obtain ⟨rfl, rfl⟩ := HRB.out (HBAD.out hbig)
        go_wp2_with (first
          | (refine wpList_build rfl 51 _ rfl (by simp [hbu]) ?_; simp only [List.map_toArray, List.map_nil, hbu, Option.getD_some])
          | (refine wpList_putF rfl _ _ rfl w.heap.size rfl zF zF (by show Value.agg Z = aggF zF; rw [HZ.out]; rfl) HX.out.2.1 rfl ?_; intro w2 hB2 _ hbb _; have hbel := HX.out.2.2.2.trans (hbb _ (Nat.le_refl _))))
        refine bodyPost_ret (results_formT rfl _ _ _ zF rfl hB2) rfl ?_
        exact ⟨rfl, hbel⟩
      · have hnew := HNEW.out (by omega)
        have HNEW2 := Lib.hid hnew
        clear hnew
        by_cases h0 : x > 0
        · have hst := HSTEP.out
          rw [if_pos h0] at hst
          obtain ⟨j, hj⟩ : ∃ j, j = k - x.toNat := ⟨_, rfl⟩
          have hjk : j < k := by omega
          have hjl : j < (fmS (sq ds) k).1.length := by rw [HLEN.out]; exact hjk
          rw [← hj, List.getD_eq_getElem?_getD, List.getElem?_eq_getElem hjl, Option.getD_some] at hst
          obtain ⟨y, hy⟩ : ∃ y, y = (fmS (sq ds) k).1[j] := ⟨_, rfl⟩
          have h3 := blkF_cell HX.out.1 (padF_at hjl)
          rw [← hy] at hst h3
          have he : (k : Int) - x = (j : Int) := by omega
          have hx0 : (x == 0) = false := by simp; omega
          have hset := padF_snoc (xs := (fmS (sq ds) k).1) y (by rw [HLEN.out]; omega)
          rw [HLEN.out] at hset
          have HS := Lib.hid hst; have HSET := Lib.hid hset
          clear hst hj hy hset hjl
          go_wp2_with fail
          go_roundw
          case rel =>
            refine ⟨k + 1, m, by omega, by omega, by go_num, rfl, Lib.hid (by rw [HS.out]; exact HM.out), ?_, ?_, HNEW2.out, HX.out.2.2.2.setCell (by simp) _⟩
            · rw [HS.out, ← HSET.out]; exact blkF_set HX.out.1 k y
            · exact blkF_keep HX.out.2.1 (Below.heap_setCell _ _ _ _ (by simp))
          case measure => simp [intOf] <;> omega
        · have hst := HSTEP.out
          rw [if_neg h0, ← HM.out] at hst
          obtain rfl : x = 0 := by omega
          have hset := padF_snoc (xs := (fmS (sq ds) k).1) ((m : Int) + 1) (by rw [HLEN.out]; omega)
          rw [HLEN.out] at hset
          have HS := Lib.hid hst; have HSET := Lib.hid hset
          clear hst hset
          go_wp2_with fail
          go_roundw
          case rel =>
            refine ⟨k + 1, m + 1, by omega, by omega, by go_num, by go_num, Lib.hid (by rw [HS.out]), ?_, ?_, HNEW2.out, HX.out.2.2.2.setCell (by simp) _⟩
            · rw [HS.out, ← HSET.out]; exact blkF_set HX.out.1 k _
            · exact blkF_keep HX.out.2.1 (Below.heap_setCell _ _ _ _ (by simp))
          case measure => simp [intOf] <;> omega
    · obtain rfl : k = N := by omega
      obtain ⟨rfl, rfl⟩ := HRG.out (okB_all (fun i hi => HX.out.2.2.1 i hi (by rw [HN.out]; exact hi)))
      go_wp2_with (first
        | refine wpList_getF rfl _ rfl (w.heap.size + 1) rfl _ HX.out.1 ?_
        | (refine wpList_putF rfl _ _ rfl w.heap.size rfl _ _ rfl HX.out.2.1 HX.out.1.2 ?_; intro w2 hB2 _ hbb _; have hbel := HX.out.2.2.2.trans (hbb _ (Nat.le_refl _))))
      refine bodyPost_ret (results_formT rfl _ _ _ _ rfl hB2) rfl ?_
      exact ⟨rfl, hbel⟩

set_option maxHeartbeats 2000000 in
theorem specFormOfList_arg (w : World) (v : Value) (xs : List Int) (ha : ArgL w v xs) :
    Calls Try.prog 11 #[v] w fun e w' => IntsAOk (flO xs) w w' e := by
  have hL := plGood_arg w v xs ha
  cases ht : plL xs with
  | false =>
    rw [ht] at hL
    rw [show flO xs = none by unfold flO; rw [ht]; rfl]
    obtain ⟨a, cap, rfl, _, _⟩ := argL_slice ha
    have HL := Lib.hid hL; clear hL ha ht
    go_enter Try.func11, Try.ntmps11
    go_wp2_with fail
    refine HL.out.mono ?_
    rintro e w1 ⟨rfl, rfl⟩
    go_wp2_with fail
    go_ret2
    exact ⟨_, rfl, intsA_nil _ _, Below.refl _ _, fun _ => rfl⟩
  | true =>
    rw [ht] at hL
    rw [show flO xs = some (fmL (bkL xs)) by unfold flO; rw [ht]; rfl]
    obtain ⟨h1, h60, _⟩ := plL_open ht
    have hB := plBacks_arg w v xs ha h1 (by omega)
    have hF := fun (W : World) (u : Value) (h : Ints W w.heap.size u (bkL xs)) => plForm_any W w.heap.size u (bkL xs) (intsA_of h) (by rw [bkL_len]; exact h1) (by rw [bkL_len]; omega) (okD_bkL xs)
    obtain ⟨a, cap, rfl, _, _⟩ := argL_slice ha
    have HL := Lib.hid hL; have HB := Lib.hid hB; have HF := Lib.hid hF; clear hL ha ht hB hF
    go_enter Try.func11, Try.ntmps11
    go_wp2_with fail
    refine HL.out.mono ?_
    rintro e w1 ⟨rfl, rfl⟩
    go_wp2_with fail
    refine HB.out.mono ?_
    rintro e w1 ⟨u, rfl, ho, hb⟩
    have HO := Lib.hid ho; have HB1 := Lib.hid hb; clear ho hb
    go_wp2_with fail
    refine (HF.out w1 u HO.out).mono ?_
    rintro e w2 ⟨u2, rfl, ho, hb⟩
    have HO2 := Lib.hid ho; have HB2 := Lib.hid hb; clear ho hb
    go_wp2_with fail
    go_ret2
    exact ⟨_, rfl, intsA_mono (intsA_of HO2.out) HB1.out.size, below_trans HB1.out HB2.out, fun h => by cases h⟩

set_option maxHeartbeats 2000000 in
theorem plIs_arg (w : World) (v : Value) (xs : List Int) (ha : ArgL w v xs) (ht : plL xs = true) :
    Calls Try.prog 65 #[v] w fun e w' => e = .returned (.bool (isF xs)) ∧ Below w.heap.size w w' := by
  obtain ⟨h1, h60, _⟩ := plL_open ht
  have hB := plBacks_arg w v xs ha h1 (by omega)
  have hF := fun (W : World) (u : Value) (h : Ints W w.heap.size u (bkL xs)) => plForm_any W w.heap.size u (bkL xs) (intsA_of h) (by rw [bkL_len]; exact h1) (by rw [bkL_len]; omega) (okD_bkL xs)
  have hS := fun (W : World) (u : Value) (B' : Nat) (hb : Below w.heap.size w W) (h : Ints W B' u (fmL (bkL xs))) => l1SameL_any W u v (fmL (bkL xs)) xs (argL_of_ints h) (argL_below ha hb) (by rw [fmL_len, bkL_len]; omega) (by omega)
  rw [show decide (fmL (bkL xs) = xs) = isF xs by unfold isF; rw [ht]; rfl] at hS
  obtain ⟨b, hbb⟩ : ∃ b, b = isF xs := ⟨_, rfl⟩
  rw [← hbb] at hS ⊢
  obtain ⟨a, cap, rfl, _, _⟩ := argL_slice ha
  have HB := Lib.hid hB; have HF := Lib.hid hF; have HS := Lib.hid hS; clear ha ht hB hF hS hbb
  go_enter Try.func65, Try.ntmps65
  go_wp2_with fail
  refine HB.out.mono ?_
  rintro e w1 ⟨u, rfl, ho, hb⟩
  have HO := Lib.hid ho; have HB1 := Lib.hid hb; clear ho hb
  go_wp2_with fail
  refine (HF.out w1 u HO.out).mono ?_
  rintro e w2 ⟨u2, rfl, ho, hb⟩
  have HO2 := Lib.hid ho; have HB2 := Lib.hid (below_trans HB1.out hb); clear ho hb
  go_wp2_with fail
  refine (HS.out w2 u2 _ HB2.out HO2.out).mono ?_
  rintro e w3 ⟨rfl, hb⟩
  have HB3 := Lib.hid (below_trans HB2.out hb); clear hb
  go_wp2_with fail
  go_ret
  exact ⟨rfl, HB3.out⟩

set_option maxHeartbeats 2000000 in
theorem specIsForm_arg (w : World) (v : Value) (xs : List Int) (ha : ArgL w v xs) :
    Calls Try.prog 23 #[v] w fun e w' => e = .returned (.tuple #[.bool (isF xs), .bool (plL xs)]) ∧ Below w.heap.size w w' := by
  have hL := plGood_arg w v xs ha
  cases ht : plL xs with
  | false =>
    rw [ht] at hL
    rw [show isF xs = false by unfold isF; rw [ht]; rfl]
    obtain ⟨a, cap, rfl, _, _⟩ := argL_slice ha
    have HL := Lib.hid hL; clear hL ha ht
    go_enter Try.func23, Try.ntmps23
    go_wp2_with fail
    refine HL.out.mono ?_
    rintro e w1 ⟨rfl, rfl⟩
    go_wp2_with fail
    go_ret2
    exact ⟨rfl, Below.refl _ _⟩
  | true =>
    rw [ht] at hL
    have hI := plIs_arg w v xs ha ht
    obtain ⟨b, hbb⟩ : ∃ b, b = isF xs := ⟨_, rfl⟩
    rw [← hbb] at hI ⊢
    obtain ⟨a, cap, rfl, _, _⟩ := argL_slice ha
    have HL := Lib.hid hL; have HI := Lib.hid hI; clear hL ha ht hI hbb
    go_enter Try.func23, Try.ntmps23
    go_wp2_with fail
    refine HL.out.mono ?_
    rintro e w1 ⟨rfl, rfl⟩
    go_wp2_with fail
    refine HI.out.mono ?_
    rintro e w1 ⟨rfl, hb⟩
    have HB := Lib.hid hb; clear hb
    go_wp2_with fail
    go_ret2
    exact ⟨rfl, HB.out⟩

set_option maxHeartbeats 2000000 in
theorem plAre_arg (w : World) (v : Value) (xs : List Int) (ha : ArgL w v xs) (ht : plL xs = true) :
    Calls Try.prog 66 #[v] w fun e w' => e = .returned (.bool (areB xs)) ∧ Below w.heap.size w w' := by
  obtain ⟨h1, h60, _⟩ := plL_open ht
  have hF := fun (W : World) (hb : Below w.heap.size w W) (hk : okB xs = true) => plForm_arg W v xs (argL_below ha hb) h1 (by omega) (okB_true hk ht)
  have hB := fun (W : World) (u : Value) (B' : Nat) (h : Ints W B' u (fmL xs)) => plBacks_any W B' u (fmL xs) (intsA_of h) (by rw [fmL_len]; exact h1) (by rw [fmL_len]; omega)
  have hS := fun (W : World) (u : Value) (B' : Nat) (hb : Below w.heap.size w W) (h : Ints W B' u (bkL (fmL xs))) => l1SameL_any W u v (bkL (fmL xs)) xs (argL_of_ints h) (argL_below ha hb) (by rw [bkL_len, fmL_len]; omega) (by omega)
  obtain ⟨g, o, cap, rfl, hc1, hc2, hg, hce⟩ := argL_at ha h1
  obtain ⟨b, hbb⟩ : ∃ b, b = areB xs := ⟨_, rfl⟩
  have hbad : okB xs = false → b = false := fun h => by rw [hbb]; unfold areB; rw [h]; rfl
  have hgood : okB xs = true → decide (bkL (fmL xs) = xs) = b := fun h => by rw [hbb]; unfold areB; rw [h]; rfl
  rw [← hbb]
  have HC := Lib.hid hce; have HBAD := Lib.hid hbad; have HGOOD := Lib.hid hgood
  obtain ⟨N, hN⟩ : ∃ N, N = xs.length := ⟨_, rfl⟩
  have HN := Lib.hid hN
  rw [← hN] at hc1 h1 h60 hF hS ⊢
  have HB := Lib.hid hB; have HF := Lib.hid hF; have HS := Lib.hid hS; clear ha ht hB hF hS hbb hce hbad hgood hN
  go_enter Try.func66, Try.ntmps66
  go_wp2_with fail
  go_loop [7] (fun iv => ∃ k : Nat, k ≤ N ∧ iv = .int .i64 k ∧ Hid (∀ i (hi : i < xs.length), i < k → xs[i] ≤ (i : Int))) (fun iv => N - (intOf iv).toNat)
  case atStart => exact ⟨0, Nat.zero_le _, rfl, Lib.hid (fun i _ h => by omega)⟩
  case round =>
    obtain ⟨k, hk, rfl, HX⟩ := hrel
    by_cases hlt : k < N
    · have hk' : k < xs.length := by rw [← HN.out]; exact hlt
      have h2 := HC.out k hk'
      have hnew : xs[k] ≤ (k : Int) → ∀ i (hi : i < xs.length), i < k + 1 → xs[i] ≤ (i : Int) := fun h i hi hik => by
        by_cases e : i = k
        · subst e; exact h
        · exact HX.out i hi (by omega)
      have hb2 : xs[k] > (k : Int) → okB xs = false := fun h => okB_bad hk' h
      obtain ⟨x, hx⟩ : ∃ x, x = xs[k] := ⟨_, rfl⟩
      rw [← hx] at h2 hnew hb2
      have HNEW := Lib.hid hnew; have HB2 := Lib.hid hb2
      clear hx hnew hb2
      by_cases hbig : x > (k : Int)
      · obtain rfl := HBAD.out (HB2.out hbig)
        go_wp2_with fail
        go_ret
        exact ⟨rfl, Below.refl _ _⟩
      · go_wp2_with fail
        go_round
        case rel => exact ⟨k + 1, by omega, by go_num, Lib.hid (HNEW.out (by omega))⟩
        case measure => simp [intOf] <;> omega
    · obtain rfl : k = N := by omega
      have hok : okB xs = true := okB_all (fun i hi => HX.out i hi (by rw [HN.out]; exact hi))
      have hS := HS.out
      rw [HGOOD.out hok] at hS
      have HF2 := Lib.hid (HF.out w (Below.refl _ _) hok); have HS2 := Lib.hid hS
      clear hok hS
      go_wp2_with fail
      refine HF2.out.mono ?_
      rintro e w1 ⟨u, rfl, ho, hb⟩
      have HO := Lib.hid ho; have HB1 := Lib.hid hb; clear ho hb
      go_wp2_with fail
      refine (HB.out w1 u _ HO.out).mono ?_
      rintro e w2 ⟨u2, rfl, ho, hb⟩
      have HO2 := Lib.hid ho; have HB2 := Lib.hid (below_trans HB1.out hb); clear ho hb
      go_wp2_with fail
      refine (HS2.out w2 u2 _ HB2.out HO2.out).mono ?_
      rintro e w3 ⟨rfl, hb⟩
      have HB3 := Lib.hid (below_trans HB2.out hb); clear hb
      go_wp2_with fail
      go_ret
      exact ⟨rfl, HB3.out⟩

set_option maxHeartbeats 2000000 in
theorem specFormOfDistances_arg (w : World) (v : Value) (xs : List Int) (ha : ArgL w v xs) :
    Calls Try.prog 24 #[v] w fun e w' => IntsAOk (fdO xs) w w' e := by
  have hL := plGood_arg w v xs ha
  cases ht : plL xs with
  | false =>
    rw [ht] at hL
    rw [show fdO xs = none by unfold fdO fdB; rw [ht]; rfl]
    obtain ⟨a, cap, rfl, _, _⟩ := argL_slice ha
    have HL := Lib.hid hL; clear hL ha ht
    go_enter Try.func24, Try.ntmps24
    go_wp2_with fail
    refine HL.out.mono ?_
    rintro e w1 ⟨rfl, rfl⟩
    go_wp2_with fail
    go_ret2
    exact ⟨_, rfl, intsA_nil _ _, Below.refl _ _, fun _ => rfl⟩
  | true =>
    rw [ht] at hL
    obtain ⟨h1, h60, _⟩ := plL_open ht
    have hA := plAre_arg w v xs ha ht
    cases hr : areB xs with
    | false =>
      rw [hr] at hA
      rw [show fdO xs = none by unfold fdO fdB; rw [ht, hr]; rfl]
      obtain ⟨a, cap, rfl, _, _⟩ := argL_slice ha
      have HL := Lib.hid hL; have HA := Lib.hid hA; clear hL ha ht hA hr
      go_enter Try.func24, Try.ntmps24
      go_wp2_with fail
      refine HL.out.mono ?_
      rintro e w1 ⟨rfl, rfl⟩
      go_wp2_with fail
      refine HA.out.mono ?_
      rintro e w1 ⟨rfl, hb⟩
      have HB := Lib.hid hb; clear hb
      go_wp2_with fail
      go_ret2
      exact ⟨_, rfl, intsA_nil _ _, HB.out, fun _ => rfl⟩
    | true =>
      rw [hr] at hA
      rw [show fdO xs = some (fmL xs) by unfold fdO fdB; rw [ht, hr]; rfl]
      have hok : okB xs = true := by unfold areB at hr; rw [Bool.and_eq_true] at hr; exact hr.1
      have hF := fun (W : World) (hb : Below w.heap.size w W) => plForm_arg W v xs (argL_below ha hb) h1 (by omega) (okB_true hok ht)
      obtain ⟨a, cap, rfl, _, _⟩ := argL_slice ha
      have HL := Lib.hid hL; have HA := Lib.hid hA; have HF := Lib.hid hF; clear hL ha ht hA hr hF hok
      go_enter Try.func24, Try.ntmps24
      go_wp2_with fail
      refine HL.out.mono ?_
      rintro e w1 ⟨rfl, rfl⟩
      go_wp2_with fail
      refine HA.out.mono ?_
      rintro e w1 ⟨rfl, hb⟩
      have HB := Lib.hid hb; clear hb
      go_wp2_with fail
      refine (HF.out w1 HB.out).mono ?_
      rintro e w2 ⟨u, rfl, ho, hb⟩
      have HO := Lib.hid ho; have HB1 := Lib.hid hb; clear ho hb
      go_wp2_with fail
      go_ret2
      exact ⟨_, rfl, intsA_mono (intsA_of HO.out) HB.out.size, below_trans HB.out HB1.out, fun h => by cases h⟩

set_option maxHeartbeats 2000000 in
theorem specAreDistances_arg (w : World) (v : Value) (xs : List Int) (ha : ArgL w v xs) :
    Calls Try.prog 25 #[v] w fun e w' => e = .returned (.tuple #[.bool (fdB xs), .bool (plL xs)]) ∧ Below w.heap.size w w' := by
  have hL := plGood_arg w v xs ha
  cases ht : plL xs with
  | false =>
    rw [ht] at hL
    rw [show fdB xs = false by unfold fdB; rw [ht]; rfl]
    obtain ⟨a, cap, rfl, _, _⟩ := argL_slice ha
    have HL := Lib.hid hL; clear hL ha ht
    go_enter Try.func25, Try.ntmps25
    go_wp2_with fail
    refine HL.out.mono ?_
    rintro e w1 ⟨rfl, rfl⟩
    go_wp2_with fail
    go_ret2
    exact ⟨rfl, Below.refl _ _⟩
  | true =>
    rw [ht] at hL
    have hI := plAre_arg w v xs ha ht
    rw [show areB xs = fdB xs by unfold fdB; rw [ht]; rfl] at hI
    obtain ⟨b, hbb⟩ : ∃ b, b = fdB xs := ⟨_, rfl⟩
    rw [← hbb] at hI ⊢
    obtain ⟨a, cap, rfl, _, _⟩ := argL_slice ha
    have HL := Lib.hid hL; have HI := Lib.hid hI; clear hL ha ht hI hbb
    go_enter Try.func25, Try.ntmps25
    go_wp2_with fail
    refine HL.out.mono ?_
    rintro e w1 ⟨rfl, rfl⟩
    go_wp2_with fail
    refine HI.out.mono ?_
    rintro e w1 ⟨rfl, hb⟩
    have HB := Lib.hid hb; clear hb
    go_wp2_with fail
    go_ret2
    exact ⟨rfl, HB.out⟩

theorem formBy_bk_arg (w : World) (u : Value) (xs : List Int) (ha : ArgL w u (bkL xs)) (hp : plL xs = true) :
    Calls Try.prog 57 #[u] w fun e w' => e = .returned (.tuple #[aggF (padF (fmL (bkL xs))), .bool true]) ∧ Below w.heap.size w w' := by
  have h := formBy_arg w u (bkL xs) ha (bkL_pl hp)
  rw [okB_of (okD_bkL xs), if_pos rfl] at h
  exact h

set_option maxHeartbeats 2000000 in
theorem implFormOfList_arg (w : World) (v : Value) (xs : List Int) (ha : ArgL w v xs) :
    Calls Try.prog 10 #[v] w fun e w' => IntsAOk (flO xs) w w' e := by
  have hL := isPlaceList_arg w v xs ha
  cases ht : plL xs with
  | false =>
    rw [ht] at hL
    rw [show flO xs = none by unfold flO; rw [ht]; rfl]
    obtain ⟨a, cap, rfl, _, _⟩ := argL_slice ha
    have HL := Lib.hid hL; clear hL ha ht
    go_enter Try.func10, Try.ntmps10
    go_wp2_with fail
    refine HL.out.mono ?_
    rintro e w1 ⟨rfl, rfl⟩
    go_wp2_with fail
    go_ret2
    exact ⟨_, rfl, intsA_nil _ _, Below.refl _ _, fun _ => rfl⟩
  | true =>
    rw [ht] at hL
    rw [show flO xs = some (fmL (bkL xs)) by unfold flO; rw [ht]; rfl]
    obtain ⟨h1, h60, _⟩ := plL_open ht
    have hB := distancesBack_arg w v xs ha ht
    have hF := fun (W : World) (u : Value) (h : Ints W w.heap.size u (bkL xs)) => formBy_bk W w.heap.size u xs (intsA_of h) ht
    obtain ⟨N, hN⟩ : ∃ N, N = xs.length := ⟨_, rfl⟩
    have hlen : (fmL (bkL xs)).length = N := by rw [fmL_len, bkL_len, hN]
    have htk : (padF (fmL (bkL xs))).take N = fmL (bkL xs) := by rw [← hlen]; exact padF_take _
    have hl60 := padF_len (xs := fmL (bkL xs)) (by omega)
    obtain ⟨ts, hts⟩ : ∃ ts, ts = padF (fmL (bkL xs)) := ⟨_, rfl⟩
    rw [← hts] at hF htk hl60
    have hzf := zero_form
    obtain ⟨Z, hZ⟩ : ∃ Z, Z = fvA zF := ⟨_, rfl⟩
    rw [← hZ] at hzf
    have hBZ : ∀ W : World, BlkF (W.alloc (.cells Z 51)) W.heap.size zF := fun W => ⟨by rw [hZ]; exact heap_alloc_new _ _, rfl⟩
    have hLi := fun W => formList_any ts N W hl60 (by omega)
    rw [htk] at hLi
    obtain ⟨a, cap, hv, _, _⟩ := argL_slice ha
    rw [← hN] at hv hB
    subst hv
    have HL := Lib.hid hL; have HB := Lib.hid hB; have HF := Lib.hid hF; have HLI := Lib.hid hLi; have HBZ := Lib.hid hBZ; have HL60 := Lib.hid hl60
    clear hL ha ht hB hF hLi hBZ hts htk hl60 hlen hZ hN
    go_enter Try.func10, Try.ntmps10
    go_wp2_with fail
    refine HL.out.mono ?_
    rintro e w1 ⟨rfl, rfl⟩
    go_wp2_with fail
    refine HB.out.mono ?_
    rintro e w1 ⟨rfl, ho, hb⟩
    have HO := Lib.hid ho; have HB1 := Lib.hid hb; clear ho hb
    go_wp2_with fail
    refine (HF.out w1 _ HO.out).mono ?_
    rintro e w2 ⟨rfl, hb⟩
    have HB2 := Lib.hid (below_trans HB1.out hb); clear hb
    go_wp2_with (first
      | (refine wpList_putF rfl _ _ rfl w2.heap.size rfl zF ts rfl (HBZ.out w2) HL60.out ?_; intro w3 hB3 _ hbb _; have HT3 := Lib.hid hB3; have HB3 := Lib.hid (below_trans HB2.out ((below_alloc w2 _).trans (hbb _ (Nat.le_refl _)))); clear hB3 hbb)
      | refine wpList_getF rfl _ rfl w2.heap.size rfl ts HT3.out ?_)
    refine (HLI.out w3).mono ?_
    rintro e w4 ⟨u, rfl, ho, hb, _⟩
    have HO4 := Lib.hid ho; have HB4 := Lib.hid (below_trans HB3.out hb); clear ho hb
    go_wp2_with fail
    go_ret2
    exact ⟨_, rfl, intsA_mono HO4.out HB3.out.size, HB4.out, fun h => by cases h⟩

set_option maxHeartbeats 4000000 in
theorem implIsForm_arg (w : World) (v : Value) (xs : List Int) (ha : ArgL w v xs) :
    Calls Try.prog 19 #[v] w fun e w' => e = .returned (.tuple #[.bool (isF xs), .bool (plL xs)]) ∧ Below w.heap.size w w' := by
  have hL := isPlaceList_arg w v xs ha
  cases ht : plL xs with
  | false =>
    rw [ht] at hL
    rw [show isF xs = false by unfold isF; rw [ht]; rfl]
    obtain ⟨a, cap, rfl, _, _⟩ := argL_slice ha
    have HL := Lib.hid hL; clear hL ha ht
    go_enter Try.func19, Try.ntmps19
    go_wp2_with fail
    refine HL.out.mono ?_
    rintro e w1 ⟨rfl, rfl⟩
    go_wp2_with fail
    go_ret2
    exact ⟨rfl, Below.refl _ _⟩
  | true =>
    rw [ht] at hL
    obtain ⟨h1, h60, _⟩ := plL_open ht
    have hB := fun (W : World) (hb : Below w.heap.size w W) => distancesBack_arg W v xs (argL_below ha hb) ht
    have hF := fun (W : World) (B' : Nat) (u : Value) (h : Ints W B' u (bkL xs)) => formBy_bk W B' u xs (intsA_of h) ht
    have hlen : (fmL (bkL xs)).length = xs.length := by rw [fmL_len, bkL_len]
    have hl60 := padF_len (xs := fmL (bkL xs)) (by omega)
    have hx60 := padF_len (xs := xs) h60
    have heq := fun W => run_eqlF W (padF (fmL (bkL xs))) (padF xs) hl60 hx60
    rw [show decide (padF (fmL (bkL xs)) = padF xs) = isF xs by
      unfold isF; rw [ht, Bool.true_and]; exact decide_eq_decide.2 (padF_inj hlen)] at heq
    obtain ⟨b, hbb⟩ : ∃ b, b = isF xs := ⟨_, rfl⟩
    rw [← hbb] at heq ⊢
    obtain ⟨ts, hts⟩ : ∃ ts, ts = padF (fmL (bkL xs)) := ⟨_, rfl⟩
    obtain ⟨us, hus⟩ : ∃ us, us = padF xs := ⟨_, rfl⟩
    rw [← hts] at hF hl60 heq
    have hsp := splice_pad xs h60
    rw [← hus] at heq hx60 hsp
    have hzf := zero_form
    obtain ⟨Z, hZ⟩ : ∃ Z, Z = fvA zF := ⟨_, rfl⟩
    rw [← hZ] at hzf
    have hBZ : ∀ W : World, BlkF (W.alloc (.cells Z 51)) W.heap.size zF := fun W => ⟨by rw [hZ]; exact heap_alloc_new _ _, rfl⟩
    have hbu : Try.prog.built 51 [] = some Z := by rw [hZ, fvA_zero]; exact built_form
    have hsw := fun (W : World) (b : Nat) => run_sliceW W b
    obtain ⟨g, o, cap, hv, hc1, hc2, hg, hce⟩ := argL_at ha h1
    obtain ⟨N, hN⟩ : ∃ N, N = xs.length := ⟨_, rfl⟩
    rw [← hN] at hv hB h60 h1
    obtain ⟨CS, hCS⟩ : ∃ CS, CS = ivs xs := ⟨_, rfl⟩
    have hcl : CS.length = N := by rw [hCS, hN]; simp [ivs]
    have hc1v : ∀ q ∈ CS, q.oneCell' = true := fun q hq => by
      rw [hCS] at hq; simp only [ivs, List.mem_map] at hq; obtain ⟨n, _, rfl⟩ := hq; rfl
    have hcc : ∀ W, Below w.heap.size w W → ∀ j q, CS[j]? = some q → W.cell? ((⟨g, o, none⟩ : Addr).add j) = some q := fun W hb j q hq => by
      have hj : j < xs.length := by have := get_lt hq; omega
      rw [hCS] at hq
      simp only [ivs, List.getElem?_map, List.getElem?_eq_getElem hj, Option.map_some, Option.some.injEq] at hq
      rw [add_plainL, ← hq]
      exact (hb.cell (p := ⟨g, o + j, none⟩) hg).trans (hce j hj)
    rw [← hCS] at hsp
    subst hv
    have HL := Lib.hid hL; have HB := Lib.hid hB; have HF := Lib.hid hF; have HEQ := Lib.hid heq; have HBZ := Lib.hid hBZ; have HL60 := Lib.hid hl60; have HX60 := Lib.hid hx60; have HSP := Lib.hid hsp; have HZ := Lib.hid hZ
    have HCL := Lib.hid hcl; have HC1 := Lib.hid hc1v; have HCC := Lib.hid hcc
    clear hL ha ht hB hF hBZ hts hl60 hx60 hlen hZ hN heq hus hce hsp hCS hcl hc1v hcc hbb
    go_enter Try.func19, Try.ntmps19
    go_wp2_with fail
    refine HL.out.mono ?_
    rintro e w1 ⟨rfl, rfl⟩
    go_wp2_with (first
      | (refine wpList_build rfl 51 _ rfl (by simp [hbu]) ?_; simp only [List.map_toArray, List.map_nil, hbu, Option.getD_some])
      | (refine wpList_putF rfl _ _ rfl w.heap.size rfl zF zF (by show Value.agg Z = aggF zF; rw [HZ.out]; rfl) (HBZ.out w) rfl ?_; intro w1 hB1 _ hbb hsz1; have HT1 := Lib.hid hB1; have HB1 := Lib.hid ((below_alloc w _).trans (hbb _ (Nat.le_refl _))); clear hB1 hbb)
      | (refine wpList_copy_splice rfl _ _ 22 22 rfl 3 Try.underlying22 (by kernel_rfl) _ _ 60 60 N cap rfl rfl w.heap.size 0 (ivs zF) 51 HT1.out.1 CS (by rw [HCL.out]; exact (Nat.min_eq_left h60).symm) (fun _ => ⟨rfl, _, rfl, HCC.out w1 HB1.out⟩) (by rw [HCL.out]; simp [zF]; exact h60) HC1.out w.heap.size w HB1.out (Nat.le_refl _) ?_; intro w2 hg2 hb2; rw [HSP.out] at hg2; have HT2 := Lib.hid (show BlkF w2 w.heap.size us from ⟨hg2.out, HX60.out⟩); have HB2 := Lib.hid hb2; clear hg2 hb2))
    refine (HB.out w2 HB2.out).mono ?_
    rintro e w3 ⟨rfl, ho, hb⟩
    have HO3 := Lib.hid ho; have HB3 := Lib.hid (below_trans HB2.out hb); have HT3 := Lib.hid (blkF_below HT2.out hb); clear ho hb
    go_wp2_with fail
    refine (HF.out w3 _ _ HO3.out).mono ?_
    rintro e w4 ⟨rfl, hb⟩
    have HB4 := Lib.hid (below_trans HB3.out hb); have HT4 := Lib.hid (blkF_below HT3.out hb); clear hb
    have heq : ∀ W, (binOp .eql 51 (aggF ts) (aggF us)).run Try.prog W = .ok (.bool b) W := HEQ.out
    have heg := fun W => run_eqGuardF W (.tmp 20) (.tmp 21) ts us
    go_wp2_with (first
      | (refine wpList_putF rfl _ _ rfl w4.heap.size rfl zF ts rfl (HBZ.out w4) HL60.out ?_; intro w5 hB5 hk5 hbb _; have HT5 := Lib.hid hB5; have HU5 := Lib.hid (blkF_keep (blkF_below HT4.out (below_alloc w4 _)) (hk5 w.heap.size (by have := blkF_lt HT4.out; omega))); have HB5 := Lib.hid (below_trans HB4.out ((below_alloc w4 _).trans (hbb _ (Nat.le_refl _)))); clear hB5 hbb hk5)
      | refine wpList_getF rfl _ rfl w4.heap.size rfl ts HT5.out ?_
      | refine wpList_getF rfl _ rfl w.heap.size rfl us HU5.out ?_)
    go_ret2
    exact ⟨rfl, HB5.out⟩

set_option maxHeartbeats 4000000 in
theorem implFormOfDistances_arg (w : World) (v : Value) (xs : List Int) (ha : ArgL w v xs) :
    Calls Try.prog 18 #[v] w fun e w' => IntsAOk (fdO xs) w w' e := by
  have hL := isPlaceList_arg w v xs ha
  cases ht : plL xs with
  | false =>
    rw [ht] at hL
    rw [show fdO xs = none by unfold fdO fdB; rw [ht]; rfl]
    obtain ⟨a, cap, rfl, _, _⟩ := argL_slice ha
    have HL := Lib.hid hL; clear hL ha ht
    go_enter Try.func18, Try.ntmps18
    go_wp2_with fail
    refine HL.out.mono ?_
    rintro e w1 ⟨rfl, rfl⟩
    go_wp2_with fail
    go_ret2
    exact ⟨_, rfl, intsA_nil _ _, Below.refl _ _, fun _ => rfl⟩
  | true =>
    rw [ht] at hL
    obtain ⟨h1, h60, _⟩ := plL_open ht
    have hF := formBy_arg w v xs ha ht
    have hzf := zero_form
    obtain ⟨Z, hZ⟩ : ∃ Z, Z = fvA zF := ⟨_, rfl⟩
    rw [← hZ] at hzf
    have hBZ : ∀ W : World, BlkF (W.alloc (.cells Z 51)) W.heap.size zF := fun W => ⟨by rw [hZ]; exact heap_alloc_new _ _, rfl⟩
    cases hk : okB xs with
    | false =>
      rw [show fdO xs = none by unfold fdO fdB areB; rw [ht, hk]; rfl]
      rw [hk, if_neg (by simp)] at hF
      obtain ⟨a, cap, rfl, _, _⟩ := argL_slice ha
      have HL := Lib.hid hL; have HF := Lib.hid hF; have HBZ := Lib.hid hBZ; clear hL ha ht hF hk hZ hBZ
      go_enter Try.func18, Try.ntmps18
      go_wp2_with fail
      refine HL.out.mono ?_
      rintro e w1 ⟨rfl, rfl⟩
      go_wp2_with fail
      refine HF.out.mono ?_
      rintro e w2 ⟨rfl, hb⟩
      have HB2 := Lib.hid hb; clear hb
      go_wp2_with (refine wpList_putF rfl _ _ rfl w2.heap.size rfl zF zF rfl (HBZ.out w2) rfl ?_; intro w3 hB3 _ hbb _; have HB3 := Lib.hid (below_trans HB2.out ((below_alloc w2 _).trans (hbb _ (Nat.le_refl _)))); clear hB3 hbb)
      go_ret2
      exact ⟨_, rfl, intsA_nil _ _, HB3.out, fun _ => rfl⟩
    | true =>
      rw [hk, if_pos rfl] at hF
      obtain ⟨N, hN⟩ : ∃ N, N = xs.length := ⟨_, rfl⟩
      have hlen : (fmL xs).length = N := by rw [fmL_len, hN]
      have htk : (padF (fmL xs)).take N = fmL xs := by rw [← hlen]; exact padF_take _
      have hl60 := padF_len (xs := fmL xs) (by omega)
      have hpl := fmL_pl h1 h60 (okB_true hk ht)
      have hB := fun (W : World) (B' : Nat) (u : Value) (h : IntsA W B' u (fmL xs)) => distancesBack_any W B' u (fmL xs) h hpl
      have hS := fun (W : World) (u : Value) (B' : Nat) (hb : Below w.heap.size w W) (h : Ints W B' u (bkL (fmL xs))) => slEqual_any W u v (bkL (fmL xs)) xs (argL_of_ints h) (argL_below ha hb) (by rw [bkL_len, fmL_len]; omega) (by omega)
      rw [hlen] at hB
      obtain ⟨ts, hts⟩ : ∃ ts, ts = padF (fmL xs) := ⟨_, rfl⟩
      rw [← hts] at hF htk hl60
      have hLi := fun W => formList_any ts N W hl60 (by omega)
      rw [htk] at hLi
      have hfd : fdO xs = if decide (bkL (fmL xs) = xs) = true then some (fmL xs) else none := by unfold fdO fdB areB; rw [ht, hk]; rfl
      obtain ⟨b, hbb⟩ : ∃ b, b = decide (bkL (fmL xs) = xs) := ⟨_, rfl⟩
      rw [← hbb] at hS hfd
      rw [hfd]
      obtain ⟨a, cap, hv, _, _⟩ := argL_slice ha
      rw [← hN] at hv
      subst hv
      have HL := Lib.hid hL; have HF := Lib.hid hF; have HBZ := Lib.hid hBZ; have HL60 := Lib.hid hl60; have HLI := Lib.hid hLi; have HB := Lib.hid hB; have HS := Lib.hid hS
      clear hL ha ht hF hk hZ hBZ hlen htk hl60 hpl hB hS hts hLi hfd hbb hN
      go_enter Try.func18, Try.ntmps18
      go_wp2_with fail
      refine HL.out.mono ?_
      rintro e w1 ⟨rfl, rfl⟩
      go_wp2_with fail
      refine HF.out.mono ?_
      rintro e w2 ⟨rfl, hb⟩
      have HB2 := Lib.hid hb; clear hb
      go_wp2_with (first
        | (refine wpList_putF rfl _ _ rfl w2.heap.size rfl zF ts rfl (HBZ.out w2) HL60.out ?_; intro w3 hB3 _ hbb _; have HT3 := Lib.hid hB3; have HB3 := Lib.hid (below_trans HB2.out ((below_alloc w2 _).trans (hbb _ (Nat.le_refl _)))); clear hB3 hbb)
        | refine wpList_getF rfl _ rfl w2.heap.size rfl ts HT3.out ?_)
      refine (HLI.out w3).mono ?_
      rintro e w4 ⟨u, rfl, ho, hb, _⟩
      have HO4 := Lib.hid (intsA_mono ho HB3.out.size); have HB4 := Lib.hid (below_trans HB3.out hb); clear ho hb
      go_wp2_with fail
      refine (HB.out w4 _ u HO4.out).mono ?_
      rintro e w5 ⟨rfl, ho, hb⟩
      have HO5 := Lib.hid ho; have HB5 := Lib.hid (below_trans HB4.out hb); have HU5 := Lib.hid (intsA_below HO4.out hb); clear ho hb
      go_wp2_with fail
      refine (HS.out w5 _ _ HB5.out HO5.out).mono ?_
      rintro e w6 ⟨rfl, hb⟩
      have HB6 := Lib.hid (below_trans HB5.out hb); have HU6 := Lib.hid (intsA_below HU5.out hb); clear hb
      cases b with
      | true =>
        go_wp2_with fail
        go_ret2
        exact ⟨_, rfl, HU6.out, HB6.out, fun h => by cases h⟩
      | false =>
        go_wp2_with fail
        go_ret2
        exact ⟨_, rfl, intsA_nil _ _, HB6.out, fun _ => rfl⟩

set_option maxHeartbeats 2000000 in
theorem implAreDistances_arg (w : World) (v : Value) (xs : List Int) (ha : ArgL w v xs) :
    Calls Try.prog 17 #[v] w fun e w' => e = .returned (.tuple #[.bool (fdB xs), .bool (plL xs)]) ∧ Below w.heap.size w w' := by
  have hF := implFormOfDistances_arg w v xs ha
  unfold IntsAOk at hF
  rw [show (fdO xs).isSome = fdB xs by unfold fdO; cases h : fdB xs <;> rfl] at hF
  have hL := fun (W : World) (hb : Below w.heap.size w W) => isPlaceList_arg W v xs (argL_below ha hb)
  obtain ⟨b, hb⟩ : ∃ b, b = fdB xs := ⟨_, rfl⟩
  obtain ⟨c, hc⟩ : ∃ c, c = plL xs := ⟨_, rfl⟩
  rw [← hb] at hF ⊢
  rw [← hc] at hL ⊢
  obtain ⟨a, cap, rfl, _, _⟩ := argL_slice ha
  have HF := Lib.hid hF; have HL := Lib.hid hL; clear hF hL ha hb hc
  go_enter Try.func17, Try.ntmps17
  go_wp2_with fail
  refine HF.out.mono ?_
  rintro e w2 ⟨u, rfl, _, hb, _⟩
  have HB := Lib.hid hb; clear hb
  go_wp2_with fail
  refine (HL.out w2 HB.out).mono ?_
  rintro e w3 ⟨rfl, rfl⟩
  go_wp2_with fail
  go_ret2
  exact ⟨rfl, HB.out⟩

end Go.Proofs.Ytpglkgpaaflikaa
