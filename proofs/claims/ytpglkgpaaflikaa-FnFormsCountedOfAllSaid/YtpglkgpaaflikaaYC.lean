/- Chapter 6: the program's FormOfList, IsForm, FormOfDistances, AreDistances; the laws. -/
import Derived.Test.YtpglkgpaaflikaaYB
namespace Go.Proofs.Ytpglkgpaaflikaa
open Go.RowKit Go.BigFrame Go.Maps
set_option linter.unusedSimpArgs false
set_option linter.unusedVariables false
set_option maxRecDepth 4000

theorem formBy_bk (w : World) (B : Nat) (u : Value) (xs : List Int) (ha : IntsA w B u (bkL xs)) (hp : plL xs = true) :
    Calls Try.prog 57 #[u] w fun e w' => e = .returned (.tuple #[aggF (padF (fmL (bkL xs))), .bool true]) ∧ Below w.heap.size w w' := by
  have h := formBy_any w B u (bkL xs) ha (bkL_pl hp)
  rw [okB_of (okD_bkL xs), if_pos rfl] at h
  exact h

set_option maxHeartbeats 2000000 in
theorem implFormOfList_any (w : World) (B : Nat) (v : Value) (xs : List Int) (ha : IntsA w B v xs) :
    Calls Try.prog 10 #[v] w fun e w' => IntsAOk (flO xs) w w' e := by
  have hL := isPlaceList_any w B v xs ha
  cases ht : plL xs with
  | false =>
    rw [ht] at hL
    rw [show flO xs = none by unfold flO; rw [ht]; rfl]
    obtain ⟨a, cap, rfl, _, _⟩ := intsA_slice ha
    have HL := Lib.hid hL; clear hL ha ht
    go_enter Try.func10, Try.ntmps10
    go_wp2_with fail
    refine HL.out.mono ?_
    rintro e w1 ⟨rfl, rfl⟩
    go_wp2_with fail
    go_ret2
    exact ⟨_, rfl, intsA_nil _ _, Below.refl _ _, fun _ => rfl⟩
  | true =>
    rw [ht] at hL
    rw [show flO xs = some (fmL (bkL xs)) by unfold flO; rw [ht]; rfl]
    obtain ⟨h1, h60, _⟩ := plL_open ht
    have hB := distancesBack_any w B v xs ha ht
    have hF := fun (W : World) (u : Value) (h : Ints W w.heap.size u (bkL xs)) => formBy_bk W w.heap.size u xs (intsA_of h) ht
    obtain ⟨N, hN⟩ : ∃ N, N = xs.length := ⟨_, rfl⟩
    have hlen : (fmL (bkL xs)).length = N := by rw [fmL_len, bkL_len, hN]
    have htk : (padF (fmL (bkL xs))).take N = fmL (bkL xs) := by rw [← hlen]; exact padF_take _
    have hl60 := padF_len (xs := fmL (bkL xs)) (by omega)
    obtain ⟨ts, hts⟩ : ∃ ts, ts = padF (fmL (bkL xs)) := ⟨_, rfl⟩
    rw [← hts] at hF htk hl60
    have hzf := zero_form
    obtain ⟨Z, hZ⟩ : ∃ Z, Z = fvA zF := ⟨_, rfl⟩
    rw [← hZ] at hzf
    have hBZ : ∀ W : World, BlkF (W.alloc (.cells Z 51)) W.heap.size zF := fun W => ⟨by rw [hZ]; exact heap_alloc_new _ _, rfl⟩
    have hLi := fun W => formList_any ts N W hl60 (by omega)
    rw [htk] at hLi
    obtain ⟨a, cap, hv, _, _⟩ := intsA_slice ha
    rw [← hN] at hv hB
    subst hv
    have HL := Lib.hid hL; have HB := Lib.hid hB; have HF := Lib.hid hF; have HLI := Lib.hid hLi; have HBZ := Lib.hid hBZ; have HL60 := Lib.hid hl60
    clear hL ha ht hB hF hLi hBZ hts htk hl60 hlen hZ hN
    go_enter Try.func10, Try.ntmps10
    go_wp2_with fail
    refine HL.out.mono ?_
    rintro e w1 ⟨rfl, rfl⟩
    go_wp2_with fail
    refine HB.out.mono ?_
    rintro e w1 ⟨rfl, ho, hb⟩
    have HO := Lib.hid ho; have HB1 := Lib.hid hb; clear ho hb
    go_wp2_with fail
    refine (HF.out w1 _ HO.out).mono ?_
    rintro e w2 ⟨rfl, hb⟩
    have HB2 := Lib.hid (below_trans HB1.out hb); clear hb
    go_wp2_with (first
      | (refine wpList_putF rfl _ _ rfl w2.heap.size rfl zF ts rfl (HBZ.out w2) HL60.out ?_; intro w3 hB3 _ hbb _; have HT3 := Lib.hid hB3; have HB3 := Lib.hid (below_trans HB2.out ((below_alloc w2 _).trans (hbb _ (Nat.le_refl _)))); clear hB3 hbb)
      | refine wpList_getF rfl _ rfl w2.heap.size rfl ts HT3.out ?_)
    refine (HLI.out w3).mono ?_
    rintro e w4 ⟨u, rfl, ho, hb, _⟩
    have HO4 := Lib.hid ho; have HB4 := Lib.hid (below_trans HB3.out hb); clear ho hb
    go_wp2_with fail
    go_ret2
    exact ⟨_, rfl, intsA_mono HO4.out HB3.out.size, HB4.out, fun h => by cases h⟩

/-! ### Arrays compared -/
theorem all_range60 (ts us : List Int) (h : ts.length = 60) (h' : us.length = 60) : ((List.range 60).all fun i => ts.getD i 0 == us.getD i 0) = decide (ts = us) := by
  rw [Bool.eq_iff_iff, decide_eq_true_iff, List.all_eq_true]
  constructor
  · intro hh
    apply List.ext_getElem (by omega)
    intro i h1 h2
    have := hh i (by simp; omega)
    simpa [List.getD_eq_getElem?_getD, h1, h2] using this
  · rintro rfl i _
    simp
theorem cellsOf_intF : Try.prog.cellsOf 3 = 1 := by kernel_rfl
theorem run_eqItemsF (d : Nat) (w : World) (ts us : List Int) (h : ts.length = 60) (h' : us.length = 60) : ∀ l : List Nat, (∀ i ∈ l, i < 60) →
    (Op.eqItems (d + 1) 3 1 (fvA ts) (fvA us) l).run Try.prog w = .ok (l.all fun i => ts.getD i 0 == us.getD i 0) w
  | [], _ => by simp [Op.eqItems]
  | i :: l, hl => by
    have hi : i < 60 := hl i List.mem_cons_self
    have ih := run_eqItemsF d w ts us h h' l (fun j hj => hl j (List.mem_cons_of_mem _ hj))
    have px : (part 3 (fvA ts) (i * 1)).run Try.prog w = .ok (.int .i64 (ts.getD i 0)) w := by
      simp [part, isAgg, run_underlying Try.underlying3, fvA, ivs, List.getD, List.getElem?_eq_getElem (show i < ts.length by omega)]
    have py : (part 3 (fvA us) (i * 1)).run Try.prog w = .ok (.int .i64 (us.getD i 0)) w := by
      simp [part, isAgg, run_underlying Try.underlying3, fvA, ivs, List.getD, List.getElem?_eq_getElem (show i < us.length by omega)]
    have pe : (Op.equalIn (d + 1) 3 (.int .i64 (ts.getD i 0)) (.int .i64 (us.getD i 0))).run Try.prog w = .ok (ts.getD i 0 == us.getD i 0) w := by
      rw [run_equalIn_int w d 3 .i64 .i64 _ _ Try.underlying3]
    simp only [Op.eqItems, Sem.run_bind, px, py, pe, Result.andThen_ok, List.all_cons]
    cases hb : (ts.getD i 0 == us.getD i 0)
    · simp
    · simp only [Bool.not_true, Bool.false_eq_true, if_false, Bool.true_and]
      exact ih
theorem run_eqlF (w : World) (ts us : List Int) (h : ts.length = 60) (h' : us.length = 60) : (binOp .eql 51 (aggF ts) (aggF us)).run Try.prog w = .ok (.bool (decide (ts = us))) w := by
  obtain ⟨i0, hi, hz0, hz1, hz2⟩ := info_parts info_intT
  unfold aggF
  rw [run_eql_struct, run_equalIn_array w 9999 _ _ under_form hi, cellsOf_intF, run_eqItemsF 9998 w ts us h h' _ (fun i hi => by simpa using hi), all_range60 ts us h h']
  rfl
theorem run_eqGuardF (w : World) (x y : Operand) (ts us : List Int) : (eqGuard .eql 51 x y (aggF ts) (aggF us)).run Try.prog w = .ok () w := by
  unfold aggF
  first | rfl | (simp [go_sem, eqGuard]; done)
theorem run_sliceW (w : World) (b : Nat) : (Instr.sliceAt 51 (.pointer (some ⟨b, 0, none⟩)) none none none).run Try.prog w = .ok (.slice (some ⟨b, 0, none⟩) 60 60) w := by
  obtain ⟨i0, hi, hz0, hz1, hz2⟩ := info_parts info_intT
  have hsz : (sizeOf 3).run Try.prog w = .ok 1 w := by simp [sizeOf, typeInfo, hi, hz1]
  have ha : (⟨b, 0, none⟩ : Addr).add 0 = ⟨b, 0, none⟩ := by simp [Addr.add]
  simp [Instr.sliceAt, Instr.sureAddr, run_underlying under_form, Instr.sliceBounds, run_sliceBound, hsz, ha]
theorem splice_pad (xs : List Int) (h : xs.length ≤ 60) : splice (ivs zF) 0 (ivs xs) = ivs (padF xs) := by
  unfold splice padF zF ivs
  rw [List.take_zero, List.nil_append, Nat.zero_add, List.map_append, List.map_replicate, List.map_replicate, List.length_map, List.drop_replicate]

set_option maxHeartbeats 4000000 in
theorem implIsForm_any (w : World) (B : Nat) (v : Value) (xs : List Int) (ha : IntsA w B v xs) :
    Calls Try.prog 19 #[v] w fun e w' => e = .returned (.tuple #[.bool (isF xs), .bool (plL xs)]) ∧ Below w.heap.size w w' := by
  have hL := isPlaceList_any w B v xs ha
  cases ht : plL xs with
  | false =>
    rw [ht] at hL
    rw [show isF xs = false by unfold isF; rw [ht]; rfl]
    obtain ⟨a, cap, rfl, _, _⟩ := intsA_slice ha
    have HL := Lib.hid hL; clear hL ha ht
    go_enter Try.func19, Try.ntmps19
    go_wp2_with fail
    refine HL.out.mono ?_
    rintro e w1 ⟨rfl, rfl⟩
    go_wp2_with fail
    go_ret2
    exact ⟨rfl, Below.refl _ _⟩
  | true =>
    rw [ht] at hL
    obtain ⟨h1, h60, _⟩ := plL_open ht
    have hB := fun (W : World) (hb : Below w.heap.size w W) => distancesBack_any W B v xs (intsA_below ha hb) ht
    have hF := fun (W : World) (B' : Nat) (u : Value) (h : Ints W B' u (bkL xs)) => formBy_bk W B' u xs (intsA_of h) ht
    have hlen : (fmL (bkL xs)).length = xs.length := by rw [fmL_len, bkL_len]
    have hl60 := padF_len (xs := fmL (bkL xs)) (by omega)
    have hx60 := padF_len (xs := xs) h60
    have heq := fun W => run_eqlF W (padF (fmL (bkL xs))) (padF xs) hl60 hx60
    rw [show decide (padF (fmL (bkL xs)) = padF xs) = isF xs by
      unfold isF; rw [ht, Bool.true_and]; exact decide_eq_decide.2 (padF_inj hlen)] at heq
    obtain ⟨b, hbb⟩ : ∃ b, b = isF xs := ⟨_, rfl⟩
    rw [← hbb] at heq ⊢
    obtain ⟨ts, hts⟩ : ∃ ts, ts = padF (fmL (bkL xs)) := ⟨_, rfl⟩
    obtain ⟨us, hus⟩ : ∃ us, us = padF xs := ⟨_, rfl⟩
    rw [← hts] at hF hl60 heq
    have hsp := splice_pad xs h60
    rw [← hus] at heq hx60 hsp
    have hzf := zero_form
    obtain ⟨Z, hZ⟩ : ∃ Z, Z = fvA zF := ⟨_, rfl⟩
    rw [← hZ] at hzf
    have hBZ : ∀ W : World, BlkF (W.alloc (.cells Z 51)) W.heap.size zF := fun W => ⟨by rw [hZ]; exact heap_alloc_new _ _, rfl⟩
    have hbu : Try.prog.built 51 [] = some Z := by rw [hZ, fvA_zero]; exact built_form
    have hsw := fun (W : World) (b : Nat) => run_sliceW W b
    obtain ⟨g, cap, hv, hc1, hc2, _, hg, hce⟩ := intsA_at ha h1
    obtain ⟨N, hN⟩ : ∃ N, N = xs.length := ⟨_, rfl⟩
    rw [← hN] at hv hB h60 h1
    obtain ⟨CS, hCS⟩ : ∃ CS, CS = ivs xs := ⟨_, rfl⟩
    have hcl : CS.length = N := by rw [hCS, hN]; simp [ivs]
    have hc1v : ∀ q ∈ CS, q.oneCell' = true := fun q hq => by
      rw [hCS] at hq; simp only [ivs, List.mem_map] at hq; obtain ⟨n, _, rfl⟩ := hq; rfl
    have hcc : ∀ W, Below w.heap.size w W → ∀ j q, CS[j]? = some q → W.cell? ((⟨g, 0, none⟩ : Addr).add j) = some q := fun W hb j q hq => by
      have hj : j < xs.length := by have := get_lt hq; omega
      rw [hCS] at hq
      simp only [ivs, List.getElem?_map, List.getElem?_eq_getElem hj, Option.map_some, Option.some.injEq] at hq
      rw [add_plainL, Nat.zero_add, ← hq]
      exact (hb.cell (p := ⟨g, j, none⟩) hg).trans (hce j hj)
    rw [← hCS] at hsp
    subst hv
    have HL := Lib.hid hL; have HB := Lib.hid hB; have HF := Lib.hid hF; have HEQ := Lib.hid heq; have HBZ := Lib.hid hBZ; have HL60 := Lib.hid hl60; have HX60 := Lib.hid hx60; have HSP := Lib.hid hsp; have HZ := Lib.hid hZ
    have HCL := Lib.hid hcl; have HC1 := Lib.hid hc1v; have HCC := Lib.hid hcc
    clear hL ha ht hB hF hBZ hts hl60 hx60 hlen hZ hN heq hus hce hsp hCS hcl hc1v hcc hbb
    go_enter Try.func19, Try.ntmps19
    go_wp2_with fail
    refine HL.out.mono ?_
    rintro e w1 ⟨rfl, rfl⟩
    go_wp2_with (first
      | (refine wpList_build rfl 51 _ rfl (by simp [hbu]) ?_; simp only [List.map_toArray, List.map_nil, hbu, Option.getD_some])
      | (refine wpList_putF rfl _ _ rfl w.heap.size rfl zF zF (by show Value.agg Z = aggF zF; rw [HZ.out]; rfl) (HBZ.out w) rfl ?_; intro w1 hB1 _ hbb hsz1; have HT1 := Lib.hid hB1; have HB1 := Lib.hid ((below_alloc w _).trans (hbb _ (Nat.le_refl _))); clear hB1 hbb)
      | (refine wpList_copy_splice rfl _ _ 22 22 rfl 3 Try.underlying22 (by kernel_rfl) _ _ 60 60 N cap rfl rfl w.heap.size 0 (ivs zF) 51 HT1.out.1 CS (by rw [HCL.out]; exact (Nat.min_eq_left h60).symm) (fun _ => ⟨rfl, _, rfl, HCC.out w1 HB1.out⟩) (by rw [HCL.out]; simp [zF]; exact h60) HC1.out w.heap.size w HB1.out (Nat.le_refl _) ?_; intro w2 hg2 hb2; rw [HSP.out] at hg2; have HT2 := Lib.hid (show BlkF w2 w.heap.size us from ⟨hg2.out, HX60.out⟩); have HB2 := Lib.hid hb2; clear hg2 hb2))
    refine (HB.out w2 HB2.out).mono ?_
    rintro e w3 ⟨rfl, ho, hb⟩
    have HO3 := Lib.hid ho; have HB3 := Lib.hid (below_trans HB2.out hb); have HT3 := Lib.hid (blkF_below HT2.out hb); clear ho hb
    go_wp2_with fail
    refine (HF.out w3 _ _ HO3.out).mono ?_
    rintro e w4 ⟨rfl, hb⟩
    have HB4 := Lib.hid (below_trans HB3.out hb); have HT4 := Lib.hid (blkF_below HT3.out hb); clear hb
    have heq : ∀ W, (binOp .eql 51 (aggF ts) (aggF us)).run Try.prog W = .ok (.bool b) W := HEQ.out
    have heg := fun W => run_eqGuardF W (.tmp 20) (.tmp 21) ts us
    go_wp2_with (first
      | (refine wpList_putF rfl _ _ rfl w4.heap.size rfl zF ts rfl (HBZ.out w4) HL60.out ?_; intro w5 hB5 hk5 hbb _; have HT5 := Lib.hid hB5; have HU5 := Lib.hid (blkF_keep (blkF_below HT4.out (below_alloc w4 _)) (hk5 w.heap.size (by have := blkF_lt HT4.out; omega))); have HB5 := Lib.hid (below_trans HB4.out ((below_alloc w4 _).trans (hbb _ (Nat.le_refl _)))); clear hB5 hbb hk5)
      | refine wpList_getF rfl _ rfl w4.heap.size rfl ts HT5.out ?_
      | refine wpList_getF rfl _ rfl w.heap.size rfl us HU5.out ?_)
    go_ret2
    exact ⟨rfl, HB5.out⟩

set_option maxHeartbeats 4000000 in
theorem implFormOfDistances_any (w : World) (B : Nat) (v : Value) (xs : List Int) (ha : IntsA w B v xs) :
    Calls Try.prog 18 #[v] w fun e w' => IntsAOk (fdO xs) w w' e := by
  have hL := isPlaceList_any w B v xs ha
  cases ht : plL xs with
  | false =>
    rw [ht] at hL
    rw [show fdO xs = none by unfold fdO fdB; rw [ht]; rfl]
    obtain ⟨a, cap, rfl, _, _⟩ := intsA_slice ha
    have HL := Lib.hid hL; clear hL ha ht
    go_enter Try.func18, Try.ntmps18
    go_wp2_with fail
    refine HL.out.mono ?_
    rintro e w1 ⟨rfl, rfl⟩
    go_wp2_with fail
    go_ret2
    exact ⟨_, rfl, intsA_nil _ _, Below.refl _ _, fun _ => rfl⟩
  | true =>
    rw [ht] at hL
    obtain ⟨h1, h60, _⟩ := plL_open ht
    have hF := formBy_any w B v xs ha ht
    have hzf := zero_form
    obtain ⟨Z, hZ⟩ : ∃ Z, Z = fvA zF := ⟨_, rfl⟩
    rw [← hZ] at hzf
    have hBZ : ∀ W : World, BlkF (W.alloc (.cells Z 51)) W.heap.size zF := fun W => ⟨by rw [hZ]; exact heap_alloc_new _ _, rfl⟩
    cases hk : okB xs with
    | false =>
      rw [show fdO xs = none by unfold fdO fdB areB; rw [ht, hk]; rfl]
      rw [hk, if_neg (by simp)] at hF
      obtain ⟨a, cap, rfl, _, _⟩ := intsA_slice ha
      have HL := Lib.hid hL; have HF := Lib.hid hF; have HBZ := Lib.hid hBZ; clear hL ha ht hF hk hZ hBZ
      go_enter Try.func18, Try.ntmps18
      go_wp2_with fail
      refine HL.out.mono ?_
      rintro e w1 ⟨rfl, rfl⟩
      go_wp2_with fail
      refine HF.out.mono ?_
      rintro e w2 ⟨rfl, hb⟩
      have HB2 := Lib.hid hb; clear hb
      go_wp2_with (refine wpList_putF rfl _ _ rfl w2.heap.size rfl zF zF rfl (HBZ.out w2) rfl ?_; intro w3 hB3 _ hbb _; have HB3 := Lib.hid (below_trans HB2.out ((below_alloc w2 _).trans (hbb _ (Nat.le_refl _)))); clear hB3 hbb)
      go_ret2
      exact ⟨_, rfl, intsA_nil _ _, HB3.out, fun _ => rfl⟩
    | true =>
      rw [hk, if_pos rfl] at hF
      obtain ⟨N, hN⟩ : ∃ N, N = xs.length := ⟨_, rfl⟩
      have hlen : (fmL xs).length = N := by rw [fmL_len, hN]
      have htk : (padF (fmL xs)).take N = fmL xs := by rw [← hlen]; exact padF_take _
      have hl60 := padF_len (xs := fmL xs) (by omega)
      have hpl := fmL_pl h1 h60 (okB_true hk ht)
      have hB := fun (W : World) (B' : Nat) (u : Value) (h : IntsA W B' u (fmL xs)) => distancesBack_any W B' u (fmL xs) h hpl
      have hS := fun (W : World) (u : Value) (B' : Nat) (hb : Below w.heap.size w W) (h : Ints W B' u (bkL (fmL xs))) => slEqual_any W u v (bkL (fmL xs)) xs (argL_of_ints h) (argL_of_intsA (intsA_below ha hb)) (by rw [bkL_len, fmL_len]; omega) (by omega)
      rw [hlen] at hB
      obtain ⟨ts, hts⟩ : ∃ ts, ts = padF (fmL xs) := ⟨_, rfl⟩
      rw [← hts] at hF htk hl60
      have hLi := fun W => formList_any ts N W hl60 (by omega)
      rw [htk] at hLi
      have hfd : fdO xs = if decide (bkL (fmL xs) = xs) = true then some (fmL xs) else none := by unfold fdO fdB areB; rw [ht, hk]; rfl
      obtain ⟨b, hbb⟩ : ∃ b, b = decide (bkL (fmL xs) = xs) := ⟨_, rfl⟩
      rw [← hbb] at hS hfd
      rw [hfd]
      obtain ⟨a, cap, hv, _, _⟩ := intsA_slice ha
      rw [← hN] at hv
      subst hv
      have HL := Lib.hid hL; have HF := Lib.hid hF; have HBZ := Lib.hid hBZ; have HL60 := Lib.hid hl60; have HLI := Lib.hid hLi; have HB := Lib.hid hB; have HS := Lib.hid hS
      clear hL ha ht hF hk hZ hBZ hlen htk hl60 hpl hB hS hts hLi hfd hbb hN
      go_enter Try.func18, Try.ntmps18
      go_wp2_with fail
      refine HL.out.mono ?_
      rintro e w1 ⟨rfl, rfl⟩
      go_wp2_with fail
      refine HF.out.mono ?_
      rintro e w2 ⟨rfl, hb⟩
      have HB2 := Lib.hid hb; clear hb
      go_wp2_with (first
        | (refine wpList_putF rfl _ _ rfl w2.heap.size rfl zF ts rfl (HBZ.out w2) HL60.out ?_; intro w3 hB3 _ hbb _; have HT3 := Lib.hid hB3; have HB3 := Lib.hid (below_trans HB2.out ((below_alloc w2 _).trans (hbb _ (Nat.le_refl _)))); clear hB3 hbb)
        | refine wpList_getF rfl _ rfl w2.heap.size rfl ts HT3.out ?_)
      refine (HLI.out w3).mono ?_
      rintro e w4 ⟨u, rfl, ho, hb, _⟩
      have HO4 := Lib.hid (intsA_mono ho HB3.out.size); have HB4 := Lib.hid (below_trans HB3.out hb); clear ho hb
      go_wp2_with fail
      refine (HB.out w4 _ u HO4.out).mono ?_
      rintro e w5 ⟨rfl, ho, hb⟩
      have HO5 := Lib.hid ho; have HB5 := Lib.hid (below_trans HB4.out hb); have HU5 := Lib.hid (intsA_below HO4.out hb); clear ho hb
      go_wp2_with fail
      refine (HS.out w5 _ _ HB5.out HO5.out).mono ?_
      rintro e w6 ⟨rfl, hb⟩
      have HB6 := Lib.hid (below_trans HB5.out hb); have HU6 := Lib.hid (intsA_below HU5.out hb); clear hb
      cases b with
      | true =>
        go_wp2_with fail
        go_ret2
        exact ⟨_, rfl, HU6.out, HB6.out, fun h => by cases h⟩
      | false =>
        go_wp2_with fail
        go_ret2
        exact ⟨_, rfl, intsA_nil _ _, HB6.out, fun _ => rfl⟩

set_option maxHeartbeats 2000000 in
theorem implAreDistances_any (w : World) (B : Nat) (v : Value) (xs : List Int) (ha : IntsA w B v xs) :
    Calls Try.prog 17 #[v] w fun e w' => e = .returned (.tuple #[.bool (fdB xs), .bool (plL xs)]) ∧ Below w.heap.size w w' := by
  have hF := implFormOfDistances_any w B v xs ha
  unfold IntsAOk at hF
  rw [show (fdO xs).isSome = fdB xs by unfold fdO; cases h : fdB xs <;> rfl] at hF
  have hL := fun (W : World) (hb : Below w.heap.size w W) => isPlaceList_any W B v xs (intsA_below ha hb)
  obtain ⟨b, hb⟩ : ∃ b, b = fdB xs := ⟨_, rfl⟩
  obtain ⟨c, hc⟩ : ∃ c, c = plL xs := ⟨_, rfl⟩
  rw [← hb] at hF ⊢
  rw [← hc] at hL ⊢
  obtain ⟨a, cap, rfl, _, _⟩ := intsA_slice ha
  have HF := Lib.hid hF; have HL := Lib.hid hL; clear hF hL ha hb hc
  go_enter Try.func17, Try.ntmps17
  go_wp2_with fail
  refine HF.out.mono ?_
  rintro e w2 ⟨u, rfl, _, hb, _⟩
  have HB := Lib.hid hb; clear hb
  go_wp2_with fail
  refine (HL.out w2 HB.out).mono ?_
  rintro e w3 ⟨rfl, rfl⟩
  go_wp2_with fail
  go_ret2
  exact ⟨rfl, HB.out⟩

end Go.Proofs.Ytpglkgpaaflikaa
