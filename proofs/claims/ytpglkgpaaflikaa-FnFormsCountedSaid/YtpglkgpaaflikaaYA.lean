/- Chapter 6: the program's forms. -/
import Derived.Test.YtpglkgpaaflikaaY9
namespace Go.Proofs.Ytpglkgpaaflikaa
open Go.RowKit Go.BigFrame Go.Maps
set_option linter.unusedSimpArgs false
set_option linter.unusedVariables false
set_option maxRecDepth 4000

def okB (ds : List Int) : Bool := decide (∀ k : Fin ds.length, ds[k] ≤ ((k : Nat) : Int))
theorem okB_true {ds : List Int} (h : okB ds = true) (hp : plL ds = true) : okD (sq ds) ds.length := fun k hk => by
  have h1 := of_decide_eq_true h ⟨k, hk⟩
  have h2 := (plL_sq hp k).1
  refine ⟨h2, ?_⟩
  rw [sq_at hk]; exact h1
theorem okB_of {ds : List Int} (h : okD (sq ds) ds.length) : okB ds = true := decide_eq_true (fun k => by
  have := (h k k.2).2
  rw [sq_at k.2] at this
  exact this)
theorem okB_bad {ds : List Int} {k : Nat} (hk : k < ds.length) (h : ds[k] > (k : Int)) : okB ds = false := decide_eq_false (fun h2 => by have := h2 ⟨k, hk⟩; simp at this; omega)
theorem okB_all {ds : List Int} (h : ∀ k (hk : k < ds.length), ds[k] ≤ (k : Int)) : okB ds = true := decide_eq_true (fun k => h k k.2)

set_option maxHeartbeats 4000000 in
theorem formBy_any (w : World) (B : Nat) (v : Value) (ds : List Int) (ha : IntsA w B v ds) (hp : plL ds = true) :
    Calls Try.prog 57 #[v] w fun e w' => e = .returned (.tuple #[aggF (if okB ds = true then padF (fmL ds) else zF), .bool (okB ds)]) ∧ Below w.heap.size w w' := by
  obtain ⟨h1, h60, hin⟩ := plL_open hp
  obtain ⟨g, cap, rfl, hc1, hc2, _, hg, hce⟩ := intsA_at ha h1
  have HC := Lib.hid hce; have HIN := Lib.hid hin
  obtain ⟨N, hN⟩ : ∃ N, N = ds.length := ⟨_, rfl⟩
  have HN := Lib.hid hN
  rw [← hN] at hc1 h1 h60 ⊢
  have hzf := zero_form
  obtain ⟨Z, hZ⟩ : ∃ Z, Z = fvA zF := ⟨_, rfl⟩
  have hbu : Try.prog.built 51 [] = some Z := by rw [hZ, fvA_zero]; exact built_form
  have hst : (Try.prog.info? 51).map (·.size) = some Z.size := by rw [hZ, fvA_size]; exact info_form
  have hZ1 : Z.all (·.oneCell') = true := by rw [hZ]; exact fvA_one _
  rw [← hZ] at hzf
  have HZ := Lib.hid hZ
  obtain ⟨R, hR⟩ : ∃ R, R = if okB ds = true then padF (fmL ds) else zF := ⟨_, rfl⟩
  obtain ⟨b, hb⟩ : ∃ b, b = okB ds := ⟨_, rfl⟩
  rw [← hR, ← hb]
  have hRb : okB ds = false → R = zF ∧ b = false := fun h => by rw [hR, hb, h]; exact ⟨rfl, rfl⟩
  have hRg : okB ds = true → R = padF (fmS (sq ds) N).1 ∧ b = true := fun h => by rw [hR, hb, h, hN]; exact ⟨rfl, rfl⟩
  have HRB := Lib.hid hRb; have HRG := Lib.hid hRg
  clear ha hce hN hin hp hZ hR hb hRb hRg
  go_enter Try.func57, Try.ntmps57
  go_wp2_with (first
    | (refine wpList_build rfl 51 _ rfl (by simp [hbu]) ?_; simp only [List.map_toArray, List.map_nil, hbu, Option.getD_some])
    | (refine wpList_store_row rfl 51 _ _ rfl (w.heap.size + 1) Z rfl rfl 51 Z (heap_alloc2_new _ _ _) hst rfl hZ1 ?_; rw [setRow_self _ _ _ _ _ (heap_alloc2_new _ _ _)]))
  go_loopw [5, 11] (fun mv iv wr => ∃ k m : Nat, k ≤ N ∧ m ≤ k ∧ iv = .int .i64 k ∧ mv = .int .i64 m ∧ Hid (m = (fmS (sq ds) k).2) ∧ Hid (BlkF wr (w.heap.size + 1) (padF (fmS (sq ds) k).1) ∧ BlkF wr w.heap.size zF ∧ (∀ i (hi : i < ds.length), i < k → ds[i] ≤ (i : Int)) ∧ Below w.heap.size w wr)) (fun _ iv _ => N - (intOf iv).toNat)
  case atStart =>
    refine ⟨0, 0, Nat.zero_le _, Nat.le_refl _, rfl, rfl, Lib.hid rfl, ⟨?_, rfl⟩, ⟨?_, rfl⟩, fun i _ h => by omega, below_trans (below_alloc _ _) (below_alloc _ _)⟩
    · rw [show padF (fmS (sq ds) 0).1 = zF from rfl, ← HZ.out]; exact heap_alloc2_new _ _ _
    · rw [← HZ.out]; exact heap_alloc2_old _ _ _
  case round =>
    obtain ⟨k, m, hk, hmk, rfl, rfl, HM, HX⟩ := hrel
    by_cases hlt : k < N
    · have hk' : k < ds.length := by rw [← HN.out]; exact hlt
      obtain ⟨d0, d9⟩ := HIN.out k hk'
      have h2 : wr.cell? ⟨g, k, none⟩ = some (.int .i64 ds[k]) := (HX.out.2.2.2.cell (p := ⟨g, k, none⟩) hg).trans (HC.out k hk')
      have hsx := sq_at hk'
      have hstep : fmS (sq ds) (k + 1) = if sq ds k > 0 then ((fmS (sq ds) k).1 ++ [(fmS (sq ds) k).1.getD (k - (sq ds k).toNat) 0], (fmS (sq ds) k).2) else ((fmS (sq ds) k).1 ++ [((fmS (sq ds) k).2 : Int) + 1], (fmS (sq ds) k).2 + 1) := rfl
      rw [hsx] at hstep
      have hlen := fmS_len (sq ds) k
      have hnew : ds[k] ≤ (k : Int) → ∀ i (hi : i < ds.length), i < k + 1 → ds[i] ≤ (i : Int) := fun h i hi hik => by
        by_cases e : i = k
        · subst e; exact h
        · exact HX.out.2.2.1 i hi (by omega)
      have hbad : ds[k] > (k : Int) → okB ds = false := fun h => okB_bad hk' h
      obtain ⟨x, hx⟩ : ∃ x, x = ds[k] := ⟨_, rfl⟩
      rw [← hx] at h2 hstep d0 d9 hnew hbad
      obtain ⟨yo, hyo⟩ : ∃ y, (padF (fmS (sq ds) k).1)[k]? = some y := by
        have := padF_end (xs := (fmS (sq ds) k).1) (by rw [hlen]; omega)
        rwa [hlen] at this
      have h4 := blkF_cell HX.out.1 hyo
      have h5 : wr.frozen? ⟨w.heap.size + 1, k, none⟩ = false := blkF_frozen HX.out.1 k
      have HSTEP := Lib.hid hstep; have HLEN := Lib.hid hlen; have HNEW := Lib.hid hnew; have HBAD := Lib.hid hbad
      clear hsx hx hstep hlen hnew hbad hyo
      by_cases hbig : x > (k : Int)
      · obtain ⟨rfl, rfl⟩ := HRB.out (HBAD.out hbig)
        go_wp2_with (first
          | (refine wpList_build rfl 51 _ rfl (by simp [hbu]) ?_; simp only [List.map_toArray, List.map_nil, hbu, Option.getD_some])
          | (refine wpList_putF rfl _ _ rfl w.heap.size rfl zF zF (by show Value.agg Z = aggF zF; rw [HZ.out]; rfl) HX.out.2.1 rfl ?_; intro w2 hB2 _ hbb _; have hbel := HX.out.2.2.2.trans (hbb _ (Nat.le_refl _))))
        refine bodyPost_ret (results_formT rfl _ _ _ zF rfl hB2) rfl ?_
        exact ⟨rfl, hbel⟩
      · have hnew := HNEW.out (by omega)
        have HNEW2 := Lib.hid hnew
        clear hnew
        by_cases h0 : x > 0
        · have hst := HSTEP.out
          rw [if_pos h0] at hst
          obtain ⟨j, hj⟩ : ∃ j, j = k - x.toNat := ⟨_, rfl⟩
          have hjk : j < k := by omega
          have hjl : j < (fmS (sq ds) k).1.length := by rw [HLEN.out]; exact hjk
          rw [← hj, List.getD_eq_getElem?_getD, List.getElem?_eq_getElem hjl, Option.getD_some] at hst
          obtain ⟨y, hy⟩ : ∃ y, y = (fmS (sq ds) k).1[j] := ⟨_, rfl⟩
          have h3 := blkF_cell HX.out.1 (padF_at hjl)
          rw [← hy] at hst h3
          have he : (k : Int) - x = (j : Int) := by omega
          have hx0 : (x == 0) = false := by simp; omega
          have hset := padF_snoc (xs := (fmS (sq ds) k).1) y (by rw [HLEN.out]; omega)
          rw [HLEN.out] at hset
          have HS := Lib.hid hst; have HSET := Lib.hid hset
          clear hst hj hy hset hjl
          go_wp2_with fail
          go_roundw
          case rel =>
            refine ⟨k + 1, m, by omega, by omega, by go_num, rfl, Lib.hid (by rw [HS.out]; exact HM.out), ?_, ?_, HNEW2.out, HX.out.2.2.2.setCell (by simp) _⟩
            · rw [HS.out, ← HSET.out]; exact blkF_set HX.out.1 k y
            · exact blkF_keep HX.out.2.1 (Below.heap_setCell _ _ _ _ (by simp))
          case measure => simp [intOf] <;> omega
        · have hst := HSTEP.out
          rw [if_neg h0, ← HM.out] at hst
          obtain rfl : x = 0 := by omega
          have hset := padF_snoc (xs := (fmS (sq ds) k).1) ((m : Int) + 1) (by rw [HLEN.out]; omega)
          rw [HLEN.out] at hset
          have HS := Lib.hid hst; have HSET := Lib.hid hset
          clear hst hset
          go_wp2_with fail
          go_roundw
          case rel =>
            refine ⟨k + 1, m + 1, by omega, by omega, by go_num, by go_num, Lib.hid (by rw [HS.out]), ?_, ?_, HNEW2.out, HX.out.2.2.2.setCell (by simp) _⟩
            · rw [HS.out, ← HSET.out]; exact blkF_set HX.out.1 k _
            · exact blkF_keep HX.out.2.1 (Below.heap_setCell _ _ _ _ (by simp))
          case measure => simp [intOf] <;> omega
    · obtain rfl : k = N := by omega
      obtain ⟨rfl, rfl⟩ := HRG.out (okB_all (fun i hi => HX.out.2.2.1 i hi (by rw [HN.out]; exact hi)))
      go_wp2_with (first
        | refine wpList_getF rfl _ rfl (w.heap.size + 1) rfl _ HX.out.1 ?_
        | (refine wpList_putF rfl _ _ rfl w.heap.size rfl _ _ rfl HX.out.2.1 HX.out.1.2 ?_; intro w2 hB2 _ hbb _; have hbel := HX.out.2.2.2.trans (hbb _ (Nat.le_refl _))))
      refine bodyPost_ret (results_formT rfl _ _ _ _ rfl hB2) rfl ?_
      exact ⟨rfl, hbel⟩

theorem run_sliceF (w : World) (b n : Nat) (hn : n ≤ 60) : (Instr.sliceAt 51 (.pointer (some ⟨b, 0, none⟩)) none (some (.int .i64 (n : Int))) (some (.int .i64 (n : Int)))).run Try.prog w = .ok (.slice (some ⟨b, 0, none⟩) n n) w := by
  obtain ⟨i0, hi, hz0, hz1, hz2⟩ := info_parts info_intT
  have hsz : (sizeOf 3).run Try.prog w = .ok 1 w := by simp [sizeOf, typeInfo, hi, hz1]
  have ha : (⟨b, 0, none⟩ : Addr).add 0 = ⟨b, 0, none⟩ := by simp [Addr.add]
  simp [Instr.sliceAt, Instr.sureAddr, run_underlying under_form, Instr.sliceBounds, run_sliceBound, hsz, ha, (by omega : n ≤ 60), (by omega : (n : Int) ≤ 60), (by omega : (0 : Int) ≤ n)]

set_option maxHeartbeats 1000000 in
theorem formList_any (ts : List Int) (n : Nat) (w : World) (h6 : ts.length = 60) (hn : n ≤ 60) :
    Calls Try.prog 58 #[aggF ts, .int .i64 n] w fun e w' => ∃ u, e = .returned u ∧ IntsA w' w.heap.size u (ts.take n) ∧ Below w.heap.size w w' ∧ ∃ g c, u = .slice g n c := by
  have hsl := fun (W : World) (b : Nat) => run_sliceF W b n hn
  unfold aggF
  go_enter Try.func58, Try.ntmps58
  go_wp2_with fail
  go_ret
  refine ⟨_, rfl, .inr ⟨w.heap.size, n, 51, ivs (ts.drop n), by simp [h6]; omega, Nat.le_refl _, ?_, by simp [h6]; omega, by omega⟩, below_alloc _ _, _, _, rfl⟩
  rw [heap_alloc_new]
  congr 2
  apply Array.ext'
  simp only [fvA, ivs, List.map_take, List.map_drop, List.take_append_drop]
end Go.Proofs.Ytpglkgpaaflikaa
