/- The program's countElements and CountsLater. -/
import Derived.Test.YtgmknehioadjhaaM5
import Derived.Test.YtgmknehioadjhaaM4
import Derived.Test.YtgmknehioadjhaaN9
namespace Go.Proofs.Ytgmknehioadjhaa
open Go.RowKit Go.BigFrame Go.Maps
set_option linter.unusedSimpArgs false
set_option linter.unusedVariables false
set_option maxRecDepth 4000

theorem RowsX.keep2 {T E : TypeId} {enc : Nat → List Nat → List Value} {W W' : World} {n₀ top K : Nat} {v : Value} {ns : List (List UInt8)} (h : RowsX T E enc W n₀ top v K ns) (hk : ∀ g, n₀ ≤ g → g < W.heap.size → W'.heap[g]? = W.heap[g]?) (htop : W.heap.size ≤ W'.heap.size) (ht : top ≤ W.heap.size) : RowsX T E enc W' n₀ W'.heap.size v K ns := by
  obtain ⟨xd, h1, h2⟩ := h
  refine ⟨xd, own_block h1 (fun g e => hk g (h1.lt g e).1 (h1.lt g e).2), fun k hk' => ?_⟩
  obtain ⟨p, u, e1, e2, ⟨g, c, cur, e5, e6, e7, e8, e9⟩, e4⟩ := h2 k hk'
  exact ⟨p, u, e1, e2, ⟨g, c, cur, e5, e6, by omega, (hk g e6 (by omega)).trans e8, e9⟩, e4⟩
theorem FeTab.kept {W W' : World} {n₀ mb : Nat} {P ns : List (List UInt8)} {vE vT vP vD : Value} {ts : List Nat} (h : FeTab W n₀ P ns vE mb vT vP vD ts) (hk : ∀ g, n₀ ≤ g → g < W.heap.size → W'.heap[g]? = W.heap[g]?) (hs : W.heap.size ≤ W'.heap.size) : FeTab W' n₀ P ns vE mb vT vP vD ts := by
  obtain ⟨D, ⟨es, clock, hb, rest⟩, hN⟩ := h.map
  exact ⟨own_block h.names (fun g e => hk g (h.names.lt g e).1 (h.names.lt g e).2), ⟨D, ⟨es, clock, (hk mb h.lowM (Array.getElem?_eq_some_iff.1 hb).1).trans hb, rest⟩, hN⟩, h.lowM, own_block h.times (fun g e => hk g (h.times.lt g e).1 (h.times.lt g e).2), h.shP, h.shD, h.rows.keep2 hk hs (Nat.le_refl _), own_block h.parts (fun g e => hk g (h.parts.lt g e).1 (h.parts.lt g e).2), h.mem, h.tms⟩
theorem FeTab.mono {W : World} {n₀ B mb : Nat} {P ns : List (List UInt8)} {vE vT vP vD : Value} {ts : List Nat} (h : FeTab W n₀ P ns vE mb vT vP vD ts) (hB : B ≤ n₀) : FeTab W B P ns vE mb vT vP vD ts :=
  ⟨own_mono h.names hB, h.map, Nat.le_trans hB h.lowM, own_mono h.times hB, h.shP, h.shD, RowsX.mono h.rows hB, own_mono h.parts hB, h.mem, h.tms⟩
/-- Its slices, open. -/
theorem FeTab.open_ {W : World} {n₀ mb : Nat} {P ns : List (List UInt8)} {vE vT vP vD : Value} {ts : List Nat} (h : FeTab W n₀ P ns vE mb vT vP vD ts) (h0 : ns ≠ []) (hP0 : P ≠ []) :
    ∃ gE cE aT cT gp cp gD cD, vE = .slice (some ⟨gE, 0, none⟩) ns.length cE ∧ vT = .slice aT (natsI ts).length cT ∧ vP = .slice (some ⟨gp, 0, none⟩) P.length cp ∧ vD = .slice (some ⟨gD, 0, none⟩) ns.length cD ∧ gp < W.heap.size ∧ gE < W.heap.size := by
  obtain ⟨gE, cE, rfl, _, hgE, _⟩ := strs_pos h.names h0
  obtain ⟨aT, cT, rfl⟩ := own_slice h.times
  obtain ⟨gp, cp, hp, _, hgp⟩ := ints_posI h.parts (by intro e; have := congrArg List.length e; rw [natsI_len] at this; simp at this; exact hP0 this)
  obtain ⟨gD, cD, _, _, hd, _⟩ := RowsX.rowD h.rows (k := 0) (Nat.pos_of_ne_zero (fun e => h0 (List.eq_nil_of_length_eq_zero e)))
  refine ⟨gE, cE, aT, cT, gp, cp, gD, cD, rfl, rfl, ?_, hd, hgp, hgE⟩
  rw [hp, natsI_len]; simp

theorem five_obj {W : World} {fr : Nat} {T : TypeId} {b0 b1 b2 b3 b4 : Value} (a0 a1 a2 a3 a4 : Value) (h : W.heap[fr]? = some (.cells #[b0, b1, b2, b3, b4] T (0, 0))) :
    (((((W.setCell ⟨fr, 0, none⟩ a0).setCell ⟨fr, 1, none⟩ a1).setCell ⟨fr, 2, none⟩ a2).setCell ⟨fr, 3, none⟩ a3).setCell ⟨fr, 4, none⟩ a4).heap[fr]? = some (.cells #[a0, a1, a2, a3, a4] T (0, 0)) :=
  set_obj (set_obj (set_obj (set_obj (set_obj h))))
theorem cells_of {V : World} {fr : Nat} {T : TypeId} {a0 a1 a2 a3 a4 : Value} (h : V.heap[fr]? = some (.cells #[a0, a1, a2, a3, a4] T (0, 0))) :
    V.cell? ⟨fr, 0, none⟩ = some a0 ∧ V.cell? ⟨fr, 1, none⟩ = some a1 ∧ V.cell? ⟨fr, 2, none⟩ = some a2 ∧ V.cell? ⟨fr, 3, none⟩ = some a3 ∧ V.cell? ⟨fr, 4, none⟩ = some a4 ∧ ∀ i, V.frozen? ⟨fr, i, none⟩ = false :=
  ⟨by simp [World.cell?, h], by simp [World.cell?, h], by simp [World.cell?, h], by simp [World.cell?, h], by simp [World.cell?, h], fun i => by simp [World.frozen?, h]⟩
set_option maxHeartbeats 8000000 in
theorem countElements_any (s : ByteArray) (n : Int) (w : World) (hs : s.size ≤ maxLen) :
    Calls Try.prog 41 #[.string s, .int .i64 n] w fun e w' => CePost (partsL s.data.toList) (ltQ s.data.toList n) n.toNat w w' e := by
  obtain ⟨i0, hi, hz0, hz1, hz2⟩ := info_parts info_int5
  have HA := Lib.hid (fun (W : World) => findElements_q s W hs)
  obtain ⟨l, hl⟩ : ∃ l, l = s.data.toList := ⟨_, rfl⟩
  rw [← hl] at HA ⊢
  clear hl
  cases hT : inT n with
  | false =>
    have HE := Lib.hid (fun W => isWithin_is false n 0 80 W hT)
    have HQ : Hid (ltQ l n = none) := Lib.hid (by unfold ltQ; rw [hT]; rfl)
    clear hT
    go_enter Try.func41, Try.ntmps41
    go_wp2_with fail
    refine (HE.out _).mono ?_
    rintro e w1 ⟨rfl, rfl⟩
    go_wp2_with fail
    refine bodyPost_ret (v := .tuple #[.agg zeroF, .slice none 0 0, .bool false]) ?_ rfl ⟨fun _ => rfl, fun ns h => (by rw [HQ.out] at h; cases h), ?_⟩
    · simp [results, Try.results41, go_sem]
    · exact below_alloc _ _
  | true =>
    have HE := Lib.hid (fun W => isWithin_is true n 0 80 W hT)
    cases hR : tabQ l with
    | none =>
      rw [hR] at HA
      have HQ : Hid (ltQ l n = none) := Lib.hid (by unfold ltQ; rw [hT]; exact hR)
      clear hT hR
      go_enter Try.func41, Try.ntmps41
      go_wp2_with fail
      refine (HE.out _).mono ?_
      rintro e w0 ⟨rfl, rfl⟩
      go_wp2_with fail
      refine (HA.out _).mono ?_
      rintro e w1 hpost
      have hB1 := hpost.2.2
      obtain rfl := hpost.1 rfl
      have hs1 := hB1.size
      rw [World.size_alloc] at hs1
      have hlt1 : w.heap.size < w1.heap.size := hs1
      have hob : w1.heap[w.heap.size]? = some (.cells zeroF 54 (0, 0)) := by rw [hB1.block w.heap.size (by simp)]; exact heap_alloc_new w _
      have k0 : w1.cell? ⟨w.heap.size, 0, none⟩ = some (.slice none 0 0) := by simp only [World.cell?, hob]; rfl
      have k1 : w1.cell? ⟨w.heap.size, 1, none⟩ = some (.map none) := by simp only [World.cell?, hob]; rfl
      have k2 : w1.cell? ⟨w.heap.size, 2, none⟩ = some (.slice none 0 0) := by simp only [World.cell?, hob]; rfl
      have k3 : w1.cell? ⟨w.heap.size, 3, none⟩ = some (.slice none 0 0) := by simp only [World.cell?, hob]; rfl
      have k4 : w1.cell? ⟨w.heap.size, 4, none⟩ = some (.slice none 0 0) := by simp only [World.cell?, hob]; rfl
      have f0 : w1.frozen? ⟨w.heap.size, 0, none⟩ = false := by simp only [World.frozen?, hob]; simp
      have f1 : w1.frozen? ⟨w.heap.size, 1, none⟩ = false := by simp only [World.frozen?, hob]; simp
      have f2 : w1.frozen? ⟨w.heap.size, 2, none⟩ = false := by simp only [World.frozen?, hob]; simp
      have f3 : w1.frozen? ⟨w.heap.size, 3, none⟩ = false := by simp only [World.frozen?, hob]; simp
      have f4 : w1.frozen? ⟨w.heap.size, 4, none⟩ = false := by simp only [World.frozen?, hob]; simp
      have HB1 := Lib.hid hB1; have HOB := Lib.hid hob
      clear hpost hB1 HA hob hs1
      go_wp2_with fail
      generalize hV : World.alloc _ _ = V
      obtain ⟨q0, q1, q2, q3, q4, _⟩ : V.cell? ⟨w.heap.size, 0, none⟩ = some (.slice none 0 0) ∧ V.cell? ⟨w.heap.size, 1, none⟩ = some (.map none) ∧ V.cell? ⟨w.heap.size, 2, none⟩ = some (.slice none 0 0) ∧ V.cell? ⟨w.heap.size, 3, none⟩ = some (.slice none 0 0) ∧ V.cell? ⟨w.heap.size, 4, none⟩ = some (.slice none 0 0) ∧ ∀ i, V.frozen? ⟨w.heap.size, i, none⟩ = false :=
        cells_of (T := 54) (by rw [← hV, heap_alloc_old _ _ (by simp; omega)]; exact five_obj _ _ _ _ _ HOB.out)
      refine bodyPost_ret (v := .tuple #[.agg zeroF, .slice none 0 0, .bool false]) ?_ rfl ⟨fun _ => rfl, fun ns h => (by rw [HQ.out] at h; cases h), ?_⟩
      · simp [results, Try.results41, go_sem, q0, q1, q2, q3, q4]
      · rw [← hV]
        exact (((((((below_alloc w _).trans (HB1.out.mono (by simp))).setCell (by simp) _).setCell (by simp) _).setCell (by simp) _).setCell (by simp) _).setCell (by simp) _).alloc (by simp; omega) _
    | some ns =>
      rw [hR] at HA
      have h0 := tabQ_ok hR
      have h1 := tabQ_le hR
      have h2 := tabQ_parts hR
      have HQ : Hid (ltQ l n = some ns) := Lib.hid (by unfold ltQ; rw [hT]; exact hR)
      obtain ⟨t, rfl⟩ : ∃ t : Nat, n = t := ⟨n.toNat, by unfold inT at hT; simp at hT; omega⟩
      have ht9 : t ≤ 80 := by unfold inT at hT; simp at hT; omega
      rw [Int.toNat_natCast]
      obtain ⟨P, hP⟩ : ∃ P, P = partsL l := ⟨_, rfl⟩
      rw [← hP] at h2 HA ⊢
      clear hT hR hP
      go_enter Try.func41, Try.ntmps41
      go_wp2_with fail
      refine (HE.out _).mono ?_
      rintro e w0 ⟨rfl, rfl⟩
      go_wp2_with fail
      refine (HA.out _).mono ?_
      rintro e w1 hpost
      have hB1 := hpost.2.2
      obtain ⟨vE, mb, vT, vP, vD, ts, rfl, hF⟩ := hpost.2.1 ns rfl
      obtain ⟨gE, cE, aT, cT, gp, cp, gD, cD, rfl, rfl, rfl, rfl, hgp, hgE⟩ := hF.open_ h0.2 h2.1
      have hs1 := hB1.size
      rw [World.size_alloc] at hs1
      have hlt1 : w.heap.size < w1.heap.size := hs1
      have hob : w1.heap[w.heap.size]? = some (.cells zeroF 54 (0, 0)) := by rw [hB1.block w.heap.size (by simp)]; exact heap_alloc_new w _
      have HMEM := Lib.hid hF.mem
      have hparts := hF.parts
      have hrows := hF.rows
      obtain ⟨m, hm⟩ : ∃ m, m = ns.length := ⟨_, rfl⟩
      obtain ⟨M, hM⟩ : ∃ M, M = P.length := ⟨_, rfl⟩
      obtain ⟨nt, hnt⟩ : ∃ nt, nt = (natsI ts).length := ⟨_, rfl⟩
      have hm0 : 0 < m := by rw [hm]; exact Nat.pos_of_ne_zero (fun e => h0.2 (List.eq_nil_of_length_eq_zero e))
      have hbl : (begN P ns).length = M := by unfold begN; rw [hM]; simp
      have hbp : Ints w1 (w.heap.size + 1) (.slice (some ⟨gp, 0, none⟩) M cp) (natsI (begN P ns)) := by
        have h := hparts
        rw [World.size_alloc, ← hM] at h
        exact h
      have hblt := beg_lt hF.mem
      rw [← hm, ← hnt, ← hM] at hF
      rw [← hm] at hrows h1 hblt
      rw [← hm, ← hnt, ← hM]
      obtain ⟨wA, hwA⟩ : ∃ wA, wA = w1.alloc (.cells #[.slice (some ⟨gE, 0, none⟩) m cE, .map (some mb), .slice aT nt cT, .slice (some ⟨gp, 0, none⟩) M cp, .slice (some ⟨gD, 0, none⟩) m cD] 54 (0, 0)) := ⟨_, rfl⟩
      have hsA : wA.heap.size = w1.heap.size + 1 := by rw [hwA]; simp
      have hbA : Below w1.heap.size w1 wA := by rw [hwA]; exact below_alloc _ _
      have hrA : RowsD wA (w.heap.size + 1) w1.heap.size (.slice (some ⟨gD, 0, none⟩) m cD) m ns := by
        have h := hrows
        rw [World.size_alloc] at h
        exact h.below hbA
      have hcA : ∀ k (hk : k < (begN P ns).length), wA.cell? ⟨gp, k, none⟩ = some (.int .i64 ((begN P ns)[k] : Nat)) := fun k hk => by
        have := (ints_at (own_below hbp hbA) (j := k) (by omega)).1
        rw [this]
        simp [natsI, List.getD, List.getElem?_eq_getElem hk]
      have hoA : wA.heap[w1.heap.size]? = some (.cells #[.slice (some ⟨gE, 0, none⟩) m cE, .map (some mb), .slice aT nt cT, .slice (some ⟨gp, 0, none⟩) M cp, .slice (some ⟨gD, 0, none⟩) m cD] 54 (0, 0)) := by rw [hwA]; exact heap_alloc_new _ _
      have hobA : wA.heap[w.heap.size]? = some (.cells zeroF 54 (0, 0)) := by rw [hbA.block _ hlt1]; exact hob
      have hM9 : M ≤ 61 := by rw [hM]; exact h2.2
      have HF := Lib.hid hF; have HB1 := Lib.hid hB1; have HM := Lib.hid hm; have HWA := Lib.hid hwA; have HSA := Lib.hid hsA; have HBA := Lib.hid hbA; have HRA := Lib.hid hrA; have HCA := Lib.hid hcA; have HOA := Lib.hid hoA; have HOBA := Lib.hid hobA
      have HBL := Lib.hid hbl; have HBLT := Lib.hid hblt; have H0 := Lib.hid h0
      clear hpost hF hB1 hm hwA hsA hbA hrA hcA hoA hobA hob hrows hparts hbp hbl hblt h0 h2 hM hnt HA hs1
      go_wp2_with (refine wpList_make_full _ rfl _ _ 30 rfl (w1.heap.size + 1) 3 i0 (.int .i64 0) 1 Try.underlying30 hi hz0 hz1 .i64 .i64 (m : Int) (m : Int) m rfl rfl rfl rfl (by rw [hz2]; omega) (by unfold maxLen; omega) (by simp) ?_; intro w2 hrow hgr; rw [World.size_alloc] at hrow; have hb2 : Below (w1.heap.size + 1) wA w2 := (by rw [HWA.out]; exact below_grown (by simp) hgr (fun g e => by cases e)); have y3 : w2.cell? ⟨w1.heap.size, 3, none⟩ = some (.slice (some ⟨gp, 0, none⟩) M cp) := (hb2.cell (p := ⟨w1.heap.size, 3, none⟩) (Nat.lt_succ_self _)).trans (cells_of HOA.out).2.2.2.1; have HB2 := Lib.hid hb2; have HR2 := Lib.hid (ints_made hrow); clear hrow hgr hb2)
      go_loopw [31] (fun kv wr => ∃ k : Nat, k ≤ M ∧ kv = .int .i64 k ∧ Hid (Ints wr (w1.heap.size + 1) (.slice (some ⟨w1.heap.size + 1, 0, none⟩) m m) (addRow (List.replicate m 0) ((begN P ns).take k) 1) ∧ Below (w1.heap.size + 1) wA wr)) (fun kv _ => M - (intOf kv).toNat)
      case atStart => exact ⟨0, by omega, rfl, Lib.hid ⟨HR2.out, HB2.out⟩⟩
      case round =>
        obtain ⟨k, hk, rfl, HX⟩ := hrel
        obtain ⟨hc, hb⟩ := HX.out
        by_cases hkm : k < M
        · have hkx : k < (begN P ns).length := by rw [HBL.out]; exact hkm
          have hq := HBLT.out _ (List.getElem_mem hkx)
          have yk := (hb.cell (p := ⟨gp, k, none⟩) (show gp < w1.heap.size + 1 by omega)).trans (HCA.out k hkx)
          have HAT : Hid (addRow (List.replicate m 0) ((begN P ns).take (k + 1)) 1 = bumpL (addRow (List.replicate m 0) ((begN P ns).take k) 1) (begN P ns)[k] 1) := Lib.hid (addRow_take _ _ _ hkx)
          obtain ⟨q, hqe⟩ : ∃ q, q = (begN P ns)[k] := ⟨_, rfl⟩
          rw [← hqe] at hq yk HAT
          obtain ⟨c, hce⟩ : ∃ c, c = addRow (List.replicate m 0) ((begN P ns).take k) 1 := ⟨_, rfl⟩
          rw [← hce] at hc HAT
          obtain ⟨yq, fq⟩ := ints_at hc hq
          obtain ⟨cv, hcv⟩ : ∃ cv, cv = c.getD q 0 := ⟨_, rfl⟩
          rw [← hcv] at yq
          have HC := Lib.hid hc; have HB := Lib.hid hb; have HCV := Lib.hid hcv
          clear HX hc hb hqe hce hcv hkx
          go_wp2_with fail
          go_roundw
          case rel =>
            refine ⟨k + 1, by omega, by go_num, Lib.hid ⟨?_, HB.out.setCell (Nat.le_refl _) _⟩⟩
            rw [HAT.out]
            unfold bumpL
            rw [← HCV.out]
            exact ints_put HC.out _ _
          case measure => simp [intOf] <;> omega
        · obtain rfl : k = M := by omega
          rw [show (begN P ns).take k = begN P ns from List.take_of_length_le (by rw [HBL.out]; exact Nat.le_refl _)] at hc
          have hcl : (addRow (List.replicate m 0) (begN P ns) 1).length = m := by rw [addRow_len]; simp
          have hc0e : addRow (List.replicate m 0) (begN P ns) 1 = cnt0 ns.length (begN P ns) := by rw [← HM.out]; rfl
          obtain ⟨c0, hc0⟩ : ∃ c0, c0 = addRow (List.replicate m 0) (begN P ns) 1 := ⟨_, rfl⟩
          rw [← hc0] at hc hcl hc0e
          have HC := Lib.hid hc; have HB := Lib.hid hb; have HC0E := Lib.hid hc0e; have HCL := Lib.hid hcl
          clear HX hc hb hc0 hcl hc0e
          go_wp2_with fail
          go_loopw [9, 43] (fun cv iv wr => ∃ r g : Nat, r ≤ t ∧ iv = .int .i64 r ∧ cv = .slice (some ⟨g, 0, none⟩) m m ∧ Hid (Ints wr (w1.heap.size + 1) (.slice (some ⟨g, 0, none⟩) m m) (laterC (rowN ns) c0 r) ∧ Below (w1.heap.size + 1) wA wr)) (fun _ iv _ => t - (intOf iv).toNat)
          case atStart => exact ⟨0, w1.heap.size + 1, by omega, rfl, rfl, Lib.hid ⟨HC.out, HB.out⟩⟩
          case round =>
            obtain ⟨r, g, hr, rfl, rfl, HX⟩ := hrel
            obtain ⟨hc, hb⟩ := HX.out
            have hszr := hb.size
            rw [HSA.out] at hszr
            by_cases hrt : r < t
            · have hcall := countsDecayed_any wr (w.heap.size + 1) w1.heap.size w1.heap.size m g m gD cD ns (laterC (rowN ns) c0 r) HM.out h1 hm0 H0.out.1 ((hb.cell (p := ⟨w1.heap.size, 4, none⟩) (Nat.lt_succ_self _)).trans (cells_of HOA.out).2.2.2.2.1) (by omega) (HRA.out.below (by rw [HSA.out]; exact hb)) hc
              have HCALL := Lib.hid hcall; have HB := Lib.hid hb
              clear HX hc hb hcall
              go_wp2_with fail
              refine HCALL.out.mono ?_
              rintro e w5 ⟨rfl, hv5, hb5⟩
              have HV5 := Lib.hid hv5; have HB5 := Lib.hid hb5
              clear hv5 hb5 HCALL
              go_wp2_with fail
              go_roundw
              case rel => exact ⟨r + 1, wr.heap.size, by omega, by go_num, rfl, Lib.hid ⟨own_mono HV5.out (by omega), HB.out.trans (HB5.out.mono (by omega))⟩⟩
              case measure => simp [intOf] <;> omega
            · obtain rfl : r = t := by omega
              have hob : wr.heap[w.heap.size]? = some (.cells zeroF 54 (0, 0)) := by rw [hb.block _ (by omega)]; exact HOBA.out
              have hoA : wr.heap[w1.heap.size]? = some (.cells #[.slice (some ⟨gE, 0, none⟩) m cE, .map (some mb), .slice aT nt cT, .slice (some ⟨gp, 0, none⟩) k cp, .slice (some ⟨gD, 0, none⟩) m cD] 54 (0, 0)) := by rw [hb.block _ (by omega)]; exact HOA.out
              obtain ⟨k0, k1, k2, k3, k4, kf⟩ := cells_of hob
              have f0 := kf 0; have f1 := kf 1; have f2 := kf 2; have f3 := kf 3; have f4 := kf 4
              obtain ⟨j0, j1, j2, j3, j4, _⟩ := cells_of hoA
              have HC := Lib.hid hc; have HB := Lib.hid hb; have HK := Lib.hid (five_sets wr w.heap.size (.slice (some ⟨gE, 0, none⟩) m cE) (.map (some mb)) (.slice aT nt cT) (.slice (some ⟨gp, 0, none⟩) k cp) (.slice (some ⟨gD, 0, none⟩) m cD))
              clear HX hc hb hob hoA kf
              go_wp2_with fail
              refine bodyPost_ret (v := .tuple #[.agg #[.slice (some ⟨gE, 0, none⟩) m cE, .map (some mb), .slice aT nt cT, .slice (some ⟨gp, 0, none⟩) k cp, .slice (some ⟨gD, 0, none⟩) m cD], .slice (some ⟨g, 0, none⟩) m m, .bool true]) ?_ rfl ⟨fun h => (by rw [HQ.out] at h; cases h), fun ns' h => ?_, ?_⟩
              · simp [results, Try.results41, go_sem, k0, k1, k2, k3, k4]
              · rw [HQ.out] at h
                cases h
                refine ⟨_, _, _, _, _, ts, _, rfl, FeTab.mono (FeTab.kept HF.out (fun g' h3 h4 => ?_) ?_) (by simp), ?_⟩
                · rw [World.size_alloc] at h3
                  exact (HK.out.block g' (by omega) (fun e => by have := Option.some.inj e; omega)).trans ((HB.out.block g' (by omega)).trans (HBA.out.block g' h4))
                · have := HK.out.size; omega
                · have e : cntsL P ns r = laterC (rowN ns) c0 r := by unfold cntsL; rw [HC0E.out]
                  rw [e]
                  exact own_mono (own_block HC.out (fun g' e2 => HK.out.block g' (HC.out.lt g' e2).2 (fun e3 => by have := (HC.out.lt g' e2).1; have := Option.some.inj e3; omega))) (by omega)
              · have hb0 : Below w.heap.size w w1 := (below_alloc w _).trans (HB1.out.mono (by simp))
                exact ((hb0.trans (HBA.out.mono (by omega))).trans (HB.out.mono (by omega))).trans (below_grown (by omega) HK.out (fun g' e => by have := Option.some.inj e; omega))
end Go.Proofs.Ytgmknehioadjhaa
