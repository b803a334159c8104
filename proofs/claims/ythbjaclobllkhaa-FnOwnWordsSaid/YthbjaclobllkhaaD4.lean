/- The program's lengths of a word: an array in a box. -/
import Derived.Test.YthbjaclobllkhaaD1
import Derived.Test.YthbjaclobllkhaaI2
import Derived.Test.YthbjaclobllkhaaK13
import Derived.Laws.Rows
import Derived.Laws.Tables
import Derived.Deep.RegionHeld
namespace Go.Proofs.Ythbjaclobllkhaa
open Go.RowKit Go.BigFrame Go.Shelf
set_option linter.unusedSimpArgs false
set_option linter.unusedVariables false
set_option maxRecDepth 4000
attribute [local go_sem] Oper.semAt_some

theorem info_arr : (Try.prog.info? 70).map (fun i => (i.zero, i.size)) = some (some (.agg (Array.replicate 400 (.int .u8 0))), 400) := by kernel_rfl
theorem built_arr : Try.prog.built 70 [] = some (Array.replicate 400 (.int .u8 0)) := by kernel_rfl

theorem setRow_id (w : World) (g : Nat) (cs : Array Value) (t : TypeId) (fr : Nat × Nat) (h : w.heap[g]? = some (.cells cs t fr)) : w.setRow g cs = w := by
  have hh : (w.setRow g cs).heap = w.heap := by
    apply Array.ext_getElem?
    intro i
    by_cases e : i = g
    · subst e; rw [setRow_heap w i cs cs t fr h, h]
    · exact setRow_other w g i cs e
  have e : w.setRow g cs = { w with heap := (w.setRow g cs).heap } := rfl
  rw [e, hh]
/-- An array of four hundred signs: those of lengths, then zeros. -/
def lenA (rs : List (UInt8 × Nat)) : Array Value := ((rs.map fun p => Value.int .u8 (48 + (p.2 : Int))) ++ List.replicate (400 - rs.length) (Value.int .u8 0)).toArray
theorem lenA_nil : lenA [] = Array.replicate 400 (Value.int .u8 0) := by unfold lenA; rw [List.map_nil, List.nil_append, List.length_nil, Nat.sub_zero]; exact List.toArray_replicate _ _
theorem lenA_size (rs : List (UInt8 × Nat)) (h : rs.length ≤ 400) : (lenA rs).size = 400 := by simp [lenA]; omega
theorem lenA_set (rs : List (UInt8 × Nat)) (p : UInt8 × Nat) (h : rs.length < 400) : (lenA rs).setIfInBounds rs.length (.int .u8 (48 + (p.2 : Int))) = lenA (rs ++ [p]) := by
  unfold lenA
  obtain ⟨m, hm⟩ : ∃ m, 400 - rs.length = m + 1 := ⟨399 - rs.length, by omega⟩
  have hm2 : 400 - (rs ++ [p]).length = m := by simp; omega
  rw [hm, hm2, List.setIfInBounds_toArray, List.replicate_succ]
  congr 1
  rw [List.set_append_right _ _ (by simp)]
  simp
theorem lenA_get (rs : List (UInt8 × Nat)) (i : Nat) (h : i < rs.length) : (lenA rs)[i]? = some (.int .u8 (48 + (rs[i].2 : Int))) := by
  simp [lenA, List.getElem?_append_left, h]
theorem under_arr : Try.prog.underlying 70 = some (.array 400 5) := by kernel_rfl
theorem run_sliceA (W : World) (b n : Nat) (hn : n ≤ 400) : (Instr.sliceAt 70 (.pointer (some ⟨b, 0, none⟩)) none (some (.int .i64 (n : Int))) none).run Try.prog W = .ok (.slice (some ⟨b, 0, none⟩) n 400) W := by
  obtain ⟨i0, hi, hz0, hz1, hz2⟩ := info_parts info_byte
  have hsz : (sizeOf 5).run Try.prog W = .ok 1 W := by simp [sizeOf, typeInfo, hi, hz1]
  have ha : (⟨b, 0, none⟩ : Addr).add 0 = ⟨b, 0, none⟩ := by simp [Addr.add]
  simp [Instr.sliceAt, Instr.sureAddr, run_underlying under_arr, Instr.sliceBounds, run_sliceBound, hsz, ha, (by omega : n ≤ 400), (by omega : (n : Int) ≤ 400), (by omega : (0 : Int) ≤ n)]
theorem conv_len (W : World) (g : Nat) (rs : List (UInt8 × Nat)) (h : W.heap[g]? = some (.cells (lenA rs) 70 (0, 0))) (hl : rs.length ≤ 400) (h9 : ∀ p ∈ rs, p.2 ≤ 9) :
    (convert 22 9 (.slice (some ⟨g, 0, none⟩) rs.length 400)).run Try.prog W = .ok (.string (bs (lensR rs))) W := by
  have := run_convert_bytes_arg (P := Try.prog) W 22 5 Try.underlying22 Try.underlying5 g 0 rs.length 400 (rs.map (fun p => (48 + (p.2 : Int)))) (by simp) (fun i hi => by
    rw [Nat.zero_add]
    simp only [World.cell?, h]
    rw [lenA_get rs i hi]
    simp [List.getD, hi]) 9 Try.underlying9
  rw [this]
  congr 2
  apply bs_eq
  rw [strOfNums_data, List.map_map]
  unfold lensR
  apply List.map_congr_left
  intro p hp
  have := h9 p hp
  simp only [Function.comp, nDig]
  rw [show (48 + (p.2 : Int)).toNat = 48 + p.2 by omega]
set_option maxRecDepth 100000 in
set_option maxHeartbeats 1000000 in
theorem lengthsText_any (s : ByteArray) (w : World) (hs : s.size ≤ 400) (hd : s.data.toList.all digB = true) (h9 : longL s.data.toList ≤ 9) :
    Calls Try.prog 34 #[.string s] w fun e w' => e = .returned (.string (bs (lensL s.data.toList))) ∧ Below w.heap.size w w' := by
  refine calls_marks Try.func34 rfl fun Q hQ => ?_
  simp only [Try.ntmps34, List.size_toArray, List.length_cons, List.length_nil, Nat.reduceAdd, Nat.reduceSub, Array.replicate_succ, Array.replicate_zero, List.push_toArray, List.append_toArray, List.nil_append, List.cons_append]
  obtain ⟨i4, hi4, hb4⟩ := Option.map_eq_some_iff.1 info_arr
  simp only [Prod.mk.injEq] at hb4
  obtain ⟨hz4, hs4⟩ := hb4
  obtain ⟨Z, hZ⟩ : ∃ Z, Z = Array.replicate 400 (Value.int .u8 0) := ⟨_, rfl⟩
  have hbu := built_arr
  rw [← hZ] at hz4 hbu
  have HZ := Lib.hid hZ; clear hZ
  have hzv : ∀ W : World, (zeroValue 70).run Try.prog W = .ok (.agg Z) W := fun W => by simp [zeroValue, typeInfo, hi4, hz4]
  have hZs : Z.size = 400 := by rw [HZ.out]; simp
  have hZ1 : Z.all (·.oneCell') = true := by rw [HZ.out, Array.all_eq_true]; intro i hi; simp [Value.oneCell']
  have hst : (Try.prog.info? 70).map (·.size) = some Z.size := by rw [hi4, hZs]; simp [hs4]
  go_wp2_with (first
    | (refine wpList_build rfl 70 _ rfl (by simp [hbu]) ?_; simp only [List.map_toArray, List.map_nil, hbu, Option.getD_some])
    | (refine wpList_store_row rfl 70 _ _ rfl w.heap.size Z rfl rfl 70 Z (heap_alloc2_old _ _ _) hst rfl hZ1 ?_; rw [setRow_id _ _ _ _ _ (heap_alloc2_old _ _ _)])
    | (refine wpList_bytes _ rfl 9 22 _ rfl 5 Try.underlying9 Try.underlying22 Try.underlying5 s rfl (by unfold maxLen; omega) ?_; intro w1 cap hb hsz hcap hcm hcell hfr))
  have HC := Lib.hid hcell; have HB := Lib.hid hb
  clear hcell hfr hb
  refine (runParts_is _ _ _ _).mono ?_
  rintro e w2 ⟨rfl, hw2⟩
  have HW2 := Lib.hid hw2; clear hw2
  have hz : s.size = s.data.toList.length := by simp
  obtain ⟨rs, hrs⟩ : ∃ rs, rs = runsL s.data.toList := ⟨_, rfl⟩
  have hlens : lensL s.data.toList = lensR rs := by rw [hrs]; rfl
  have hbd : ∀ p ∈ rs, p.2 ≤ 9 := fun p hp => Nat.le_trans (le_longR' (by rw [← hrs]; exact hp)) h9
  have hrl : rs.length ≤ 400 := by rw [hrs]; exact Nat.le_trans (runsL_len _) (by simpa using hs)
  have hsz' : w.heap.size + 2 < w1.heap.size := by simpa using hsz
  have hva : w1.heap[w.heap.size]? = some (.cells (lenA []) 70 (0, 0)) := by
    rw [lenA_nil, ← HZ.out]
    exact (HB.out.block w.heap.size (by simp; omega)).trans (heap_alloc2_old _ _ _)
  have hvc : w1.heap[w.heap.size + 1]? = some (.cells #[.int .i64 ((([] : List (UInt8 × Nat)).length : Nat) : Int)] 3 (0, 0)) :=
    (HB.out.block (w.heap.size + 1) (by simp)).trans (by have := heap_alloc_new (w.alloc (.cells Z 70)) (.cells #[.int .i64 0] 3); simpa using this)
  have hB1 : Below w.heap.size w w1 := (below_trans (below_alloc w _) (below_alloc _ _)).trans (HB.out.mono (by simp; omega))
  have hcell : ∀ i (h : i < s.data.toList.length), w2.cell? ⟨w.heap.size + 2, i, none⟩ = some (.int .u8 (s.data.toList[i].toNat : Int)) := by
    intro i h
    have := HC.out i (by rw [hz]; exact h)
    rw [Go.Deep.nblk_alloc, Go.Deep.nblk_alloc] at this
    rw [HW2.out]
    exact ((below_alloc w1 _).cell (p := ⟨w.heap.size + 2, i, none⟩) (by exact hsz')).trans this
  have hva2 : w2.heap[w.heap.size]? = some (.cells (lenA []) 70 (0, 0)) := by rw [HW2.out]; exact ((below_alloc w1 _).block _ (by omega)).trans hva
  have hvc2 : w2.heap[w.heap.size + 1]? = some (.cells #[.int .i64 ((([] : List (UInt8 × Nat)).length : Nat) : Int)] 3 (0, 0)) := by rw [HW2.out]; exact ((below_alloc w1 _).block _ (by omega)).trans hvc
  have hbox2 : w2.cell? ⟨w1.heap.size, 0, none⟩ = some (.slice (some ⟨w.heap.size + 2, 0, none⟩) s.size cap) := by rw [HW2.out]; simp [go_sem]
  have hB2 : Below w.heap.size w w2 := by rw [HW2.out]; exact hB1.trans ((below_alloc w1 _).mono hB1.size)
  have hs2 : w2.heap.size = w1.heap.size + 1 := by rw [HW2.out]; simp
  have HL := Lib.hid hlens; have HBD := Lib.hid hbd; have HVA := Lib.hid hva2; have HVC := Lib.hid hvc2; have HX := Lib.hid hbox2; have HB2 := Lib.hid hB2; have HCE := Lib.hid hcell; have HS2 := Lib.hid hs2
  have HZ2 := Lib.hid hz; have HRS := Lib.hid hrs; have HRL := Lib.hid hrl
  clear hlens hbd hva hva2 hvc hvc2 hbox2 hB2 hB1 hcell hs2 HW2 HB HC hz hrs hrl hzv hbu hst hZ1 hi4 hz4 hs4
  go_wp2_with fail
  have hz := HZ2.out
  obtain ⟨ag, hag⟩ : ∃ ag, ag = Value.agg Z := ⟨_, rfl⟩
  rw [← hag]
  clear hag hZs HZ
  refine wp_parts0 s.data.toList rs HRS.out w1.heap.size (w.heap.size + 2) cap (by rw [← hz]; omega) (by rw [← hz]; exact hcap) hcm (by rw [HS2.out]; omega) (by rw [HS2.out]; omega) (by rw [← hz]; exact HX.out) HCE.out rfl
    (fun got W => W.heap[w.heap.size]? = some (.cells (lenA got) 70 (0, 0)) ∧ W.heap[w.heap.size + 1]? = some (.cells #[.int .i64 (got.length : Int)] 3 (0, 0)) ∧ Below w.heap.size w W ∧ (∀ p ∈ got, p ∈ rs) ∧ got.length ≤ rs.length)
    (OwnFrom.and (ownFrom_block _ (by rw [HS2.out]; omega)) (OwnFrom.and (ownFrom_block _ (by rw [HS2.out]; omega)) (OwnFrom.and (ownFrom_below (Nat.le_refl _) (by rw [HS2.out]; omega)) (fun _ _ _ _ h _ _ => h))))
    ⟨HVA.out, HVC.out, HB2.out, (fun p h => by simp at h), Nat.zero_le _⟩
    (fun x => { tmps := #[.string s, undef, .string ⟨#[]⟩, .pointer (some ⟨w.heap.size, 0, none⟩), .pointer (some ⟨w.heap.size + 1, 0, none⟩), .slice (some ⟨w.heap.size + 2, cntR (rs.take x), none⟩) rs[x].2 rs[x].2, ag, .string s, .slice (some ⟨w.heap.size + 2, 0, none⟩) s.size cap, .func (.func 56) #[] #[.pointer (some ⟨w1.heap.size, 0, none⟩)], .slice (some ⟨w.heap.size + 2, cntR (rs.take x), none⟩) rs[x].2 rs[x].2, undef, undef, undef, undef, undef, undef, undef, undef, undef, undef], defers := [] }) ?assign ?body ?done
  case assign =>
    intro lp x W K hK
    simp only [List.setIfInBounds_toArray, List.set_cons_succ, List.set_cons_zero]
    gi_wp2
    exact hK
  case body =>
    clear hz
    rintro lp pre x W Q2 hno hQ2 ⟨hva, hvc, hbw, hmem, hgl⟩ hlt
    have hq9 : rs[x].2 ≤ 9 := HBD.out _ (List.getElem_mem _)
    have hk4 : (gotR rs pre).length < 400 := by have := HRL.out; simp [gotR]; omega
    have hgl2 : (gotR rs pre).length < rs.length := by simpa [gotR] using hlt
    have hset := lenA_set (gotR rs pre) rs[x] hk4
    have hasz := lenA_size (gotR rs pre) (by omega)
    have HIN := Lib.hid (show ∀ p ∈ gotR rs pre ++ [rs[x]], p ∈ rs from fun p hp => by
      rw [List.mem_append] at hp
      rcases hp with hp | hp
      · exact hmem p hp
      · simp at hp; subst hp; exact List.getElem_mem _)
    obtain ⟨k, hk⟩ : ∃ k, k = (gotR rs pre).length := ⟨_, rfl⟩
    rw [← hk] at hvc hk4 hgl2 hset
    have hk1 : (gotR rs pre ++ [rs[x]]).length = k + 1 := by simp [hk]
    have hlenb : (gotR rs pre ++ [rs[x]]).length ≤ rs.length := by rw [hk1]; exact hgl2
    have HVA := Lib.hid hva; have HVC := Lib.hid hvc; have HBW := Lib.hid hbw; have HSET := Lib.hid hset; have HASZ := Lib.hid hasz; have HK1 := Lib.hid hk1; have HLB := Lib.hid hlenb
    clear hva hvc hbw hset hasz hmem hgl hk hk1 hlenb
    generalize lenA (gotR rs pre) = A at *
    generalize rs[x].2 = q at *
    have hc1 : W.cell? ⟨w.heap.size + 1, 0, none⟩ = some (.int .i64 (k : Int)) := by simp [World.cell?, HVC.out]
    gi_wp2_with fail
    refine region_round (by kernel_rfl) (fun ⟨a, w, h⟩ => hno.1 ⟨a, w, h⟩) ?_
    have hHeld : W.drew.cell? ⟨w.heap.size + 1, 0, none⟩ = some (.int .i64 (k : Int)) := hc1
    refine wpAny_of_held (S := fun w' => w'.cell? ⟨w.heap.size + 1, 0, none⟩ = some (.int .i64 (k : Int))) _ _ _ _ ?_
    refine wpAnyH_take (i := 0) (v := .int .i64 (k : Int)) rfl (by kernel_rfl) (by kernel_rfl) (by kernel_rfl) (fun _ _ _ h => (hno.2 _ _ _ h).elim) (Or.inl ⟨by kernel_rfl, fun w hw => by have h := hw; first | (go_simp; done) | (go_simp; rfl)⟩) hHeld ?_
    simp only [Act.put, List.setIfInBounds_toArray, List.set_cons_zero, List.set_cons_succ]
    refine wpAnyH_take (i := 1) (v := .slice (some ⟨w.heap.size + 2, cntR (rs.take x), none⟩) q q) rfl (by kernel_rfl) (by kernel_rfl) (by kernel_rfl) (fun _ _ _ h => (hno.2 _ _ _ h).elim) (Or.inl ⟨by kernel_rfl, fun w hw => by first | rfl | (go_simp; done) | (go_simp; rfl)⟩) hHeld ?_
    simp only [Act.put, List.setIfInBounds_toArray, List.set_cons_zero, List.set_cons_succ]
    refine wpAnyH_take (i := 2) (v := .int .i64 (q : Int)) rfl (by kernel_rfl) (by kernel_rfl) (by kernel_rfl) (fun _ _ _ h => (hno.2 _ _ _ h).elim) (Or.inl ⟨by kernel_rfl, fun w hw => by first | rfl | (go_simp; done) | (go_simp; rfl)⟩) hHeld ?_
    simp only [Act.put, List.setIfInBounds_toArray, List.set_cons_zero, List.set_cons_succ]
    refine wpAnyH_ready (rs := [3]) (by kernel_rfl) (by simp) (AllReadyH.cons rfl (fun K hK => ?_) AllReadyH.nil)
    go_simp
    go_at_call 42
    refine (signOf_is _ _ (by omega) (by omega)).mono ?_
    rintro e w3 ⟨rfl, rfl⟩
    refine hK.out _ _ hHeld (fun _ => ?_)
    clear hK K
    try simp only [Act.put, List.setIfInBounds_toArray, List.set_cons_zero, List.set_cons_succ]
    have hk5 : ¬ ((400 : Int) ≤ (k : Int)) := by omega
    refine wpAnyH_take (i := 4) (v := .pointer (some ⟨w.heap.size, k, none⟩)) rfl (by kernel_rfl) (by kernel_rfl) (by kernel_rfl) (fun _ _ _ h => (hno.2 _ _ _ h).elim) (Or.inl ⟨by kernel_rfl, fun w hw => by first | rfl | (go_simp; done) | (go_simp; rfl)⟩) hHeld ?_
    simp only [Act.put, List.setIfInBounds_toArray, List.set_cons_zero, List.set_cons_succ]
    obtain ⟨z0, hz0⟩ : ∃ z0, A[k]? = some z0 := ⟨_, Array.getElem?_eq_getElem (by have := HASZ.out; omega)⟩
    have hca : W.drew.cell? ⟨w.heap.size, k, none⟩ = some z0 := by show W.cell? _ = _; simp [World.cell?, HVA.out, hz0]
    have hfa : W.drew.frozen? ⟨w.heap.size, k, none⟩ = false := by show W.frozen? _ = _; simp [World.frozen?, HVA.out]
    refine wpAnyH_ready (rs := [5]) (by kernel_rfl) (by simp) (AllReadyH.cons rfl (fun K hK => ?_) AllReadyH.nil)
    go_simp
    obtain ⟨W4, hW4⟩ : ∃ W4, W4 = (W.setCell ⟨w.heap.size, k, none⟩ (.int .u8 (48 + (q : Int)))).drew := ⟨_, rfl⟩
    rw [← hW4]
    have hc4 : W4.heap[w.heap.size + 1]? = some (.cells #[.int .i64 (k : Int)] 3 (0, 0)) := by rw [hW4]; exact (Below.heap_setCell _ _ _ _ (by show w.heap.size + 1 ≠ w.heap.size; omega)).trans HVC.out
    have ha4 : W4.heap[w.heap.size]? = some (.cells (lenA (gotR rs pre ++ [rs[x]])) 70 (0, 0)) := by
      rw [hW4, setCell_eq_setRow W w.heap.size k A 70 (0, 0) _ HVA.out, HSET.out]
      exact setRow_heap W w.heap.size A _ _ _ HVA.out
    have hb4 : Below w.heap.size w W4 := by rw [hW4]; exact (HBW.out.setCell (Nat.le_refl _) _).drew
    have ho4 : ∀ i, i ≠ w.heap.size → W4.heap[i]? = W.heap[i]? := fun i hi => by rw [hW4]; exact Below.heap_setCell _ _ _ _ hi
    have hs4 : W4.heap.size = W.heap.size := by rw [hW4]; simp [World.setCell]
    have hc5 : W4.cell? ⟨w.heap.size + 1, 0, none⟩ = some (.int .i64 (k : Int)) := by simp [World.cell?, hc4]
    have hf5 : W4.frozen? ⟨w.heap.size + 1, 0, none⟩ = false := by simp [World.frozen?, hc4]
    have HC4 := Lib.hid hc4; have HA4 := Lib.hid ha4; have HB4 := Lib.hid hb4; have HO4 := Lib.hid ho4; have HS4 := Lib.hid hs4
    clear hc4 ha4 hb4 ho4 hs4 hW4 hca hfa hz0
    refine hK.out _ _ hc5 (fun _ => ?_)
    clear hK K
    try simp only [Act.put, List.setIfInBounds_toArray, List.set_cons_zero, List.set_cons_succ]
    refine wpAnyH_done (by kernel_rfl) ?_ _
    try simp only [List.getElem_toArray, List.getElem_cons_succ, List.getElem_cons_zero, List.set_cons_zero, List.set_cons_succ]
    gi_wp2_with fail
    (try simp only [Exit.inBlock, Exit.then])
    refine hQ2 _ _ ⟨by simp [HS4.out], fun k o hkk hk _ => ?_⟩ ⟨?_, ?_⟩ ⟨?_, ?_, HB4.out.setCell (by show w.heap.size ≤ w.heap.size + 1; omega) _, HIN.out, HLB.out⟩
    · exact (Below.heap_setCell _ _ _ _ (by have := HS2.out; show _ ≠ w.heap.size + 1; omega)).trans ((HO4.out _ (by have := HS2.out; omega)).trans hk)
    · exact (Below.heap_setCell _ _ _ _ (by show _ ≠ w.heap.size + 1; omega)).trans (HO4.out _ (by omega))
    · exact (Below.heap_setCell _ _ _ _ (by show _ ≠ w.heap.size + 1; omega)).trans (HO4.out _ (by omega))
    · exact (Below.heap_setCell _ _ _ _ (by show _ ≠ w.heap.size + 1; omega)).trans HA4.out
    · have h := Boxed.set (.int .i64 ((k : Int) + 1)) HC4.out
      unfold Boxed at h
      rw [HK1.out]
      simpa using h
  case done =>
    clear hz
    rintro D W hD ⟨hva, hvc, hbw, _⟩ hK
    have HBW := Lib.hid hbw; have HL2 := Lib.hid hK; have HVA2 := Lib.hid hva
    have hc0 : W.cell? ⟨w.heap.size + 1, 0, none⟩ = some (.int .i64 (rs.length : Int)) := by simp [World.cell?, hvc]
    have hrl := HRL.out
    have hconv := conv_len W w.heap.size rs hva hrl (fun p hp => HBD.out p hp)
    clear hva hvc hbw hK
    obtain ⟨N, hN⟩ : ∃ N, N = rs.length := ⟨_, rfl⟩
    rw [← hN] at hc0 hrl hconv
    clear hN
    have hsl := run_sliceA W w.heap.size N hrl
    go_wp2_with fail
    (try simp only [Exit.inBlock, Exit.then])
    have hD2 : w.heap.size ≤ D := by have := HS2.out; omega
    refine hQ.marked _ _ D _ rfl HL2.out (results_tmp rfl _ _ _) ⟨?_, below_mark HBW.out hD2 HL2.out⟩
    rw [HL.out]; rfl
end Go.Proofs.Ythbjaclobllkhaa
