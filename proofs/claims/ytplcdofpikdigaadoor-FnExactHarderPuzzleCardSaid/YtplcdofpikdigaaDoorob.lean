/- Chapter 9: the model's pzFits, pzIs. -/
import Derived.Test.YtplcdofpikdigaaDooro7
import Derived.Test.YtplcdofpikdigaaDoorA5
import Derived.StillTailTactics
import Derived.Deep.RegionHeld3
namespace Go.Proofs.YtplcdofpikdigaaDoor
open Go.RowKit Go.BigFrame
set_option linter.unusedSimpArgs false
set_option linter.unusedVariables false
set_option maxRecDepth 4000
attribute [local irreducible] wpStill wpAny wpList

theorem fits_step {s g : List UInt8} {k : Nat} (hl : s.length = g.length) (hk : k < s.length) (h : ∀ i, i < k → agB (g.getD i 0) (s.getD i 0) = true) (hb : agB (g.getD k 0) (s.getD k 0) = false) : fitsB s g = false :=
  bool_false (fun h2 => by have := (fitsB_iff.1 h2).2 k hk; rw [hb] at this; cases this)
set_option maxHeartbeats 2000000 in
theorem pzFits_any (s g : List UInt8) (w : World) (hs : s.length ≤ maxLen) (hg : g.length ≤ maxLen) :
    Calls Tryd.prog 82 #[.string (bs s), .string (bs g)] w fun e w' => e = .returned (.bool (fitsB s g)) ∧ Below w.heap.size w w' := by
  unfold maxLen at hs hg
  obtain ⟨t, ht⟩ : ∃ t, t = bs s := ⟨_, rfl⟩
  obtain ⟨u, hu⟩ : ∃ u, u = bs g := ⟨_, rfl⟩
  have htn : t.size = s.length := by rw [ht, bs_size]
  have hun : u.size = g.length := by rw [hu, bs_size]
  have htk : ∀ k (h : k < t.size), t[k] = s.getD k 0 := fun k h => by
    subst ht; rw [getD_lt (by rw [bs_size] at h; exact h)]; rfl
  have huk : ∀ k (h : k < u.size), u[k] = g.getD k 0 := fun k h => by
    subst hu; rw [getD_lt (by rw [bs_size] at h; exact h)]; rfl
  obtain ⟨R, hR⟩ : ∃ R, R = fitsB s g := ⟨_, rfl⟩
  rw [← ht, ← hu, ← hR]
  have HT := Lib.hid htk; have HU := Lib.hid huk; have HR := Lib.hid hR; have HTN := Lib.hid htn; have HUN := Lib.hid hun
  obtain ⟨n, hn⟩ : ∃ n, n = t.size := ⟨_, rfl⟩
  have hn1 : n ≤ 9223372036854775807 := by omega
  have hu1 : u.size ≤ 9223372036854775807 := by omega
  clear htk huk hR ht hu htn hun
  by_cases hl : n = u.size
  · have hln : ((n : Int) != (u.size : Int)) = false := by simp; omega
    have hbase : s.length = g.length := by have := HTN.out; have := HUN.out; omega
    have HB := Lib.hid hbase
    clear hbase
    have hnt : t.size = n := hn.symm
    have hut : u.size = n := hl.symm
    clear hn hl
    go_enter Tryd.func82, Tryd.ntmps82
    go_wp2_with fail
    go_loopw [5] (fun iv wr => ∃ k : Nat, k ≤ n ∧ iv = .int .i64 (k : Int) ∧ Hid ((∀ i, i < k → agB (g.getD i 0) (s.getD i 0) = true) ∧ Below w.heap.size w wr)) (fun iv _ => n - (intOf iv).toNat)
    case atStart => exact ⟨0, Nat.zero_le _, rfl, fun i hi => by omega, Below.refl _ _⟩
    case round =>
      obtain ⟨k, hk, rfl, HX⟩ := hrel
      by_cases hlt : k < n
      · obtain ⟨x, hx⟩ : ∃ x, x = g.getD k 0 := ⟨_, rfl⟩
        obtain ⟨y, hy⟩ : ∃ y, y = s.getD k 0 := ⟨_, rfl⟩
        have hkt : k < t.size := by omega
        have hku : k < u.size := by omega
        have ey : t[k] = y := by rw [hy]; exact HT.out k hkt
        have ex : u[k] = x := by rw [hx]; exact HU.out k hku
        have HNX : Hid (agB x y = true → ∀ i, i < k + 1 → agB (g.getD i 0) (s.getD i 0) = true) := Lib.hid (fun h i hi => by
          by_cases hik : i < k
          · exact HX.out.1 i hik
          · have e : i = k := by omega
            rw [e, ← hx, ← hy]; exact h)
        have HNO : Hid (agB x y = false → R = false) := Lib.hid (fun h => by
          rw [HR.out]
          exact fits_step HB.out (by have := HTN.out; omega) HX.out.1 (by rw [← hx, ← hy]; exact h))
        have HBX := Lib.hid HX.out.2
        clear hx hy HX
        have h46 : (46 : UInt8).toNat = 46 := rfl
        by_cases hg1 : x = 46
        · have hcb : ((x.toNat : Int) != 46) = false := by rw [hg1]; rfl
          have HN := Lib.hid (HNX.out (by unfold agB; simp [hg1]))
          clear hg1
          go_wp2_with fail
          refine wp_region_still_lit (by kernel_rfl) (by kernel_rfl) ?_
          repeat still_step
          refine wpStill_nil ?_
          change (Exit.then _ _) Exit.normal _ wr.drew
          have HB2 : Hid (Below w.heap.size w wr.drew) := Lib.hid HBX.out.drew
          generalize wr.drew = w2 at *
          go_wp2_with fail
          go_roundw
          case rel => exact ⟨k + 1, by omega, by go_num, HN.out, HB2.out⟩
          case measure => simp [intOf] <;> omega
        · have hcb : ((x.toNat : Int) != 46) = true := by
            simp only [bne_iff_ne, ne_eq]
            intro h; exact hg1 (UInt8.toNat_inj.1 (by omega))
          by_cases hxy : x = y
          · have hcb2 : ((x.toNat : Int) != (y.toNat : Int)) = false := by rw [hxy]; simp
            have HN := Lib.hid (HNX.out (by unfold agB; simp [hxy]))
            clear hg1 hxy
            go_wp2_with fail
            refine wp_region_still_lit (by kernel_rfl) (by kernel_rfl) ?_
            repeat still_step
            refine wpStill_nil ?_
            change (Exit.then _ _) Exit.normal _ wr.drew
            have HB2 : Hid (Below w.heap.size w wr.drew) := Lib.hid HBX.out.drew
            generalize wr.drew = w2 at *
            go_wp2_with fail
            go_roundw
            case rel => exact ⟨k + 1, by omega, by go_num, HN.out, HB2.out⟩
            case measure => simp [intOf] <;> omega
          · have hcb2 : ((x.toNat : Int) != (y.toNat : Int)) = true := by
              simp only [bne_iff_ne, ne_eq]
              intro h; exact hxy (UInt8.toNat_inj.1 (by omega))
            have HF := Lib.hid (HNO.out (by unfold agB; simp [hg1, hxy]))
            clear hg1 hxy
            go_wp2_with fail
            refine wp_region_still_lit (by kernel_rfl) (by kernel_rfl) ?_
            repeat still_step
            refine wpStill_nil ?_
            change (Exit.then _ _) Exit.normal _ wr.drew
            have HB2 : Hid (Below w.heap.size w wr.drew) := Lib.hid HBX.out.drew
            generalize wr.drew = w2 at *
            go_wp2_with fail
            go_ret
            exact ⟨ret_bool HF.out.symm, HB2.out⟩
      · have HF : Hid (R = true) := Lib.hid (by
          rw [HR.out]
          exact fitsB_iff.2 ⟨HB.out, fun i hi => HX.out.1 i (by have := HTN.out; omega)⟩)
        have HBX := Lib.hid HX.out.2
        clear HX
        go_wp2_with fail
        go_ret
        exact ⟨ret_bool HF.out.symm, HBX.out⟩
  · have HF : Hid (R = false) := Lib.hid (by
      rw [HR.out]
      exact bool_false (fun h => hl (by have := (fitsB_iff.1 h).1; have := HTN.out; have := HUN.out; omega)))
    have hln : ((n : Int) != (u.size : Int)) = true := by simp; omega
    have hnt : t.size = n := hn.symm
    clear hn
    go_enter Tryd.func82, Tryd.ntmps82
    go_wp2_with fail
    go_ret
    exact ⟨ret_bool HF.out.symm, Below.refl _ _⟩

set_option maxHeartbeats 2000000 in
theorem pzIs_any (l W S : List UInt8) (D : Int) (w : World) (h1 : 1 ≤ l.length) (h8 : l.length ≤ 400) (hW : W.length ≤ maxLen) (hS : S.length ≤ maxLen) (hd : l.all digB = true) :
    Calls Tryd.prog 75 #[pzV W S D, .string (bs l)] w fun e w' => e = .returned (.bool (solB W S D l)) ∧ Below w.heap.size w w' := by
  obtain ⟨t, ht⟩ : ∃ t, t = bs l := ⟨_, rfl⟩
  obtain ⟨u, hu⟩ : ∃ u, u = bs W := ⟨_, rfl⟩
  obtain ⟨v, hv⟩ : ∃ v, v = bs S := ⟨_, rfl⟩
  obtain ⟨R, hR⟩ : ∃ R, R = solB W S D l := ⟨_, rfl⟩
  unfold pzV
  have HF1 : Hid (∀ W0, Calls Tryd.prog 82 #[.string t, .string u] W0 fun e w' => e = .returned (.bool (fitsB l W)) ∧ Below W0.heap.size W0 w') := Lib.hid (fun W0 => by
    rw [ht, hu]; exact pzFits_any l W W0 (by unfold maxLen; omega) hW)
  obtain ⟨sd, hsd⟩ : ∃ sd, sd = bs (sayL l) := ⟨_, rfl⟩
  have HSY : Hid (∀ W0, Calls Tryd.prog 38 #[.string t] W0 fun e w' => e = .returned (.string sd) ∧ Below W0.heap.size W0 w') := Lib.hid (fun W0 => by
    have := woSay_any t W0 (by rw [ht, bs_size]; exact h1) (by rw [ht, bs_size]; exact h8) (by rw [ht, bs_list]; exact hd)
    rw [ht, bs_list, ← hsd] at this
    rw [ht]; exact this)
  have hsl : (sayL l).length ≤ 40 * 400 := by
    have := sayR_len (runsL l) (fun p hp => by obtain ⟨k, hk, rfl⟩ := List.getElem_of_mem hp; exact Nat.le_trans (runs_cnt hk) h8)
    have h2 := runs_len_le l
    show (sayR (runsL l)).length ≤ _
    omega
  have HF2 : Hid (∀ W0, Calls Tryd.prog 82 #[.string sd, .string v] W0 fun e w' => e = .returned (.bool (fitsB (sayL l) S)) ∧ Below W0.heap.size W0 w') := Lib.hid (fun W0 => by
    rw [hsd, hv]; exact pzFits_any (sayL l) S W0 (by unfold maxLen; omega) hS)
  have htn : t.size = l.length := by rw [ht, bs_size]
  have htk : ∀ k (h : k < t.size), t[k] = l.getD k 0 := fun k h => by
    subst ht; rw [getD_lt (by rw [bs_size] at h; exact h)]; rfl
  have hdk : ∀ k, k < l.length → 49 ≤ (l.getD k 0).toNat ∧ (l.getD k 0).toNat ≤ 57 := fun k hk => by
    have := List.all_eq_true.1 hd _ (List.getElem_mem hk)
    rw [getD_lt hk]
    unfold digB at this
    simpa using this
  have hRs : smallB D l = false → R = false := fun h => by rw [hR]; unfold solB; rw [h]; simp
  have hR1 : fitsB l W = false → R = false := fun h => by rw [hR]; unfold solB; rw [h]; simp
  have hR2 : smallB D l = true → fitsB l W = true → R = fitsB (sayL l) S := fun h1 h2 => by rw [hR]; unfold solB; rw [h1, h2]; simp
  have HT := Lib.hid htk; have HD := Lib.hid hdk; have HRS := Lib.hid hRs; have HR1 := Lib.hid hR1; have HR2 := Lib.hid hR2
  rw [← ht, ← hu, ← hv, ← hR]
  obtain ⟨n, hn⟩ : ∃ n, n = l.length := ⟨_, rfl⟩
  rw [← hn] at htn h8
  have HN := Lib.hid hn
  clear htk hdk hRs hR1 hR2 ht hu hv hR hsd hsl h1 hd hW hS hn
  go_enter Tryd.func75, Tryd.ntmps75
  go_wp2_with fail
  go_loopw [5] (fun iv wr => ∃ k : Nat, k ≤ n ∧ iv = .int .i64 (k : Int) ∧ Hid ((∀ i, i < k → ((l.getD i 0).toNat : Int) - 48 ≤ D) ∧ BoxP w (.string u) (.string v) (.int .i64 D) 28 wr)) (fun iv _ => n - (intOf iv).toNat)
  case atStart => exact ⟨0, Nat.zero_le _, rfl, fun i hi => by omega, boxP_new _ _ _ _ _⟩
  case round =>
    obtain ⟨k, hk, rfl, HX⟩ := hrel
    obtain ⟨c0, c1, c2, _, _, _⟩ := HX.out.2.at.cells
    by_cases hlt : k < n
    · obtain ⟨y, hy⟩ : ∃ y, y = l.getD k 0 := ⟨_, rfl⟩
      have hkt : k < t.size := by omega
      have ey : t[k] = y := by rw [hy]; exact HT.out k hkt
      have hyr := HD.out k (by rw [← HN.out]; exact hlt)
      rw [← hy] at hyr
      have hw1 : IntKind.u8.wrap ((y.toNat : Int) - 48) = (y.toNat : Int) - 48 := by rw [IntKind.wrap_u8]; omega
      have hw2 : IntKind.i64.wrap ((y.toNat : Int) - 48) = (y.toNat : Int) - 48 := by rw [IntKind.wrap_i64]; omega
      have HBX := Lib.hid HX.out.2
      by_cases hle : (y.toNat : Int) - 48 ≤ D
      · have hgt : ¬ (D < (y.toNat : Int) - 48) := by omega
        have HNX : Hid (∀ i, i < k + 1 → ((l.getD i 0).toNat : Int) - 48 ≤ D) := Lib.hid (fun i hi => by
          by_cases hik : i < k
          · exact HX.out.1 i hik
          · have e : i = k := by omega
            rw [e, ← hy]; exact hle)
        clear hy HX
        go_wp2_with fail
        refine wp_region_still_lit (by kernel_rfl) (by kernel_rfl) ?_
        repeat still_step
        refine wpStill_nil ?_
        change (Exit.then _ _) Exit.normal _ wr.drew
        have HB2 : Hid (BoxP w (.string u) (.string v) (.int .i64 D) 28 wr.drew) := Lib.hid (HBX.out.drewN 1)
        generalize wr.drew = w2 at *
        go_wp2_with fail
        go_roundw
        case rel => exact ⟨k + 1, by omega, by go_num, HNX.out, HB2.out⟩
        case measure => simp [intOf] <;> omega
      · have hgt : D < (y.toNat : Int) - 48 := by omega
        have HF : Hid (R = false) := Lib.hid (HRS.out (bool_false (fun h => by
          have := smallB_iff.1 h k (by rw [← HN.out]; exact hlt)
          rw [← hy] at this
          exact hle this)))
        clear hy HX hle
        go_wp2_with fail
        refine wp_region_still_lit (by kernel_rfl) (by kernel_rfl) ?_
        repeat still_step
        refine wpStill_nil ?_
        change (Exit.then _ _) Exit.normal _ wr.drew
        have HB2 : Hid (BoxP w (.string u) (.string v) (.int .i64 D) 28 wr.drew) := Lib.hid (HBX.out.drewN 1)
        generalize wr.drew = w2 at *
        go_wp2_with fail
        go_ret
        exact ⟨ret_bool HF.out.symm, HB2.out.below⟩
    · have hkn : k = n := by omega
      subst hkn
      have HSM : Hid (smallB D l = true) := Lib.hid (smallB_iff.2 (fun i hi => HX.out.1 i (by rw [HN.out]; exact hi)))
      have HBX := Lib.hid HX.out.2
      have hS : ∀ W0 : World, Below wr.heap.size wr W0 → W0.cell? ⟨w.heap.size, 0, none⟩ = some (.string u) ∧ W0.cell? ⟨w.heap.size, 1, none⟩ = some (.string v) := fun W0 h => by
        obtain ⟨c0, c1, c2, _, _, _⟩ := (HBX.out.at.below h).cells
        exact ⟨c0, c1⟩
      have HS := Lib.hid hS
      clear HX hS c0 c1 c2
      obtain ⟨b1, hb1⟩ : ∃ b1, b1 = fitsB l W := ⟨_, rfl⟩
      obtain ⟨b2, hb2⟩ : ∃ b2, b2 = fitsB (sayL l) S := ⟨_, rfl⟩
      rw [← hb1] at HF1 HR1 HR2
      rw [← hb2] at HF2 HR2
      clear hb1 hb2
      cases b1 with
      | false =>
        have HF := Lib.hid (HR1.out (by simp))
        have hc0 : wr.drew.cell? ⟨w.heap.size, 0, none⟩ = some (.string u) := (HS.out _ (below_drew _)).1
        have HFIN : Hid (∀ w5, Below wr.drew.heap.size wr.drew w5 → Below w.heap.size w w5) := Lib.hid (fun w5 h => HBX.out.below.trans ((below_trans (below_drew _) h).mono HBX.out.below.size))
        go_wp2_with fail
        refine wp_region_any (by kernel_rfl) ?_
        change wpAny _ _ _ _ _ _ _ wr.drew
        refine wpAny_ready (rs := [0, 1]) (by kernel_rfl) (by simp) (AllReady.cons rfl (fun K hK => ?_) (AllReady.cons rfl (fun K hK => ?_) AllReady.nil))
        · go_simp
          (first | (refine hK _ _ ?_; clear hK K) | skip)
          refine wpAny_ready (rs := [1]) (by kernel_rfl) (by simp) (AllReady.cons rfl (fun K hK => ?_) AllReady.nil)
          go_simp
          (first | (refine hK _ _ ?_; clear hK K) | skip)
          refine wpAny_ready (rs := [2]) (by kernel_rfl) (by simp) (AllReady.cons rfl (fun K hK => ?_) AllReady.nil)
          go_simp
          (first | (refine hK _ _ ?_; clear hK K) | skip)
          refine wpAny_ready (rs := [3]) (by kernel_rfl) (by simp) (AllReady.cons rfl (fun K hK => ?_) AllReady.nil)
          go_simp
          refine (HF1.out _).mono ?_
          rintro e w5 ⟨rfl, hb5⟩
          have hc5 := (HS.out _ (below_trans (below_drew _) hb5)).2
          have HB5 := Lib.hid hb5; clear hb5
          dsimp only
          refine hK _ _ ?_; clear hK K
          refine wpAny_ready (rs := [4]) (by kernel_rfl) (by simp) (AllReady.cons rfl (fun K hK => ?_) AllReady.nil)
          go_simp
          (first | (refine hK _ _ ?_; clear hK K) | skip)
          refine wpAny_ready (rs := [5, 7]) (by kernel_rfl) (by simp) (AllReady.cons rfl (fun K hK => ?_) (AllReady.cons rfl (fun K hK => ?_) AllReady.nil))
          · go_simp
            (first | (refine hK _ _ ?_; clear hK K) | skip)
            refine wpAny_ready (rs := [6, 7]) (by kernel_rfl) (by simp) (AllReady.cons rfl (fun K hK => ?_) (AllReady.cons rfl (fun K hK => ?_) AllReady.nil))
            · go_simp
              (first | (refine hK _ _ ?_; clear hK K) | skip)
              refine wpAny_ready (rs := [7]) (by kernel_rfl) (by simp) (AllReady.cons rfl (fun K hK => ?_) AllReady.nil)
              go_simp
              (first | (refine hK _ _ ?_; clear hK K) | skip)
              refine wpAny_ready (rs := [8]) (by kernel_rfl) (by simp) (AllReady.cons rfl (fun K hK => ?_) AllReady.nil)
              go_simp
              (first | (refine hK _ _ ?_; clear hK K) | skip)
              refine wpAny_ready (rs := [9]) (by kernel_rfl) (by simp) (AllReady.cons rfl (fun K hK => ?_) AllReady.nil)
              go_simp
              (first | (refine hK _ _ ?_; clear hK K) | skip)
              refine wpAny_ready (rs := [10]) (by kernel_rfl) (by simp) (AllReady.cons rfl (fun K hK => ?_) AllReady.nil)
              go_simp
              (first | (refine hK _ _ ?_; clear hK K) | skip)
              refine wpAny_ready (rs := [11]) (by kernel_rfl) (by simp) (AllReady.cons rfl (fun K hK => ?_) AllReady.nil)
              go_simp
              (first | (refine hK _ _ ?_; clear hK K) | skip)
              refine wpAny_done (by kernel_rfl) ?_ _
              (go_wp2_with fail; go_ret; exact ⟨ret_bool HF.out.symm, HFIN.out _ HB5.out⟩)
            · go_simp
              (first | (refine hK _ _ ?_; clear hK K) | skip)
              refine wpAny_ready (rs := [6, 8]) (by kernel_rfl) (by simp) (AllReady.cons rfl (fun K hK => ?_) (AllReady.cons rfl (fun K hK => ?_) AllReady.nil))
              · go_simp
                (first | (refine hK _ _ ?_; clear hK K) | skip)
                refine wpAny_ready (rs := [8]) (by kernel_rfl) (by simp) (AllReady.cons rfl (fun K hK => ?_) AllReady.nil)
                go_simp
                (first | (refine hK _ _ ?_; clear hK K) | skip)
                refine wpAny_ready (rs := [9]) (by kernel_rfl) (by simp) (AllReady.cons rfl (fun K hK => ?_) AllReady.nil)
                go_simp
                (first | (refine hK _ _ ?_; clear hK K) | skip)
                refine wpAny_ready (rs := [10]) (by kernel_rfl) (by simp) (AllReady.cons rfl (fun K hK => ?_) AllReady.nil)
                go_simp
                (first | (refine hK _ _ ?_; clear hK K) | skip)
                refine wpAny_ready (rs := [11]) (by kernel_rfl) (by simp) (AllReady.cons rfl (fun K hK => ?_) AllReady.nil)
                go_simp
                (first | (refine hK _ _ ?_; clear hK K) | skip)
                refine wpAny_done (by kernel_rfl) ?_ _
                (go_wp2_with fail; go_ret; exact ⟨ret_bool HF.out.symm, HFIN.out _ HB5.out⟩)
              · go_simp
                (first | (refine hK _ _ ?_; clear hK K) | skip)
                refine wpAny_ready (rs := [6]) (by kernel_rfl) (by simp) (AllReady.cons rfl (fun K hK => ?_) AllReady.nil)
                go_simp
                (first | (refine hK _ _ ?_; clear hK K) | skip)
                refine wpAny_ready (rs := [9]) (by kernel_rfl) (by simp) (AllReady.cons rfl (fun K hK => ?_) AllReady.nil)
                go_simp
                (first | (refine hK _ _ ?_; clear hK K) | skip)
                refine wpAny_ready (rs := [10]) (by kernel_rfl) (by simp) (AllReady.cons rfl (fun K hK => ?_) AllReady.nil)
                go_simp
                (first | (refine hK _ _ ?_; clear hK K) | skip)
                refine wpAny_ready (rs := [11]) (by kernel_rfl) (by simp) (AllReady.cons rfl (fun K hK => ?_) AllReady.nil)
                go_simp
                (first | (refine hK _ _ ?_; clear hK K) | skip)
                refine wpAny_done (by kernel_rfl) ?_ _
                (go_wp2_with fail; go_ret; exact ⟨ret_bool HF.out.symm, HFIN.out _ HB5.out⟩)
          · go_simp
            (first | (refine hK _ _ ?_; clear hK K) | skip)
            refine wpAny_ready (rs := [5, 8]) (by kernel_rfl) (by simp) (AllReady.cons rfl (fun K hK => ?_) (AllReady.cons rfl (fun K hK => ?_) AllReady.nil))
            · go_simp
              (first | (refine hK _ _ ?_; clear hK K) | skip)
              refine wpAny_ready (rs := [6, 8]) (by kernel_rfl) (by simp) (AllReady.cons rfl (fun K hK => ?_) (AllReady.cons rfl (fun K hK => ?_) AllReady.nil))
              · go_simp
                (first | (refine hK _ _ ?_; clear hK K) | skip)
                refine wpAny_ready (rs := [8]) (by kernel_rfl) (by simp) (AllReady.cons rfl (fun K hK => ?_) AllReady.nil)
                go_simp
                (first | (refine hK _ _ ?_; clear hK K) | skip)
                refine wpAny_ready (rs := [9]) (by kernel_rfl) (by simp) (AllReady.cons rfl (fun K hK => ?_) AllReady.nil)
                go_simp
                (first | (refine hK _ _ ?_; clear hK K) | skip)
                refine wpAny_ready (rs := [10]) (by kernel_rfl) (by simp) (AllReady.cons rfl (fun K hK => ?_) AllReady.nil)
                go_simp
                (first | (refine hK _ _ ?_; clear hK K) | skip)
                refine wpAny_ready (rs := [11]) (by kernel_rfl) (by simp) (AllReady.cons rfl (fun K hK => ?_) AllReady.nil)
                go_simp
                (first | (refine hK _ _ ?_; clear hK K) | skip)
                refine wpAny_done (by kernel_rfl) ?_ _
                (go_wp2_with fail; go_ret; exact ⟨ret_bool HF.out.symm, HFIN.out _ HB5.out⟩)
              · go_simp
                (first | (refine hK _ _ ?_; clear hK K) | skip)
                refine wpAny_ready (rs := [6]) (by kernel_rfl) (by simp) (AllReady.cons rfl (fun K hK => ?_) AllReady.nil)
                go_simp
                (first | (refine hK _ _ ?_; clear hK K) | skip)
                refine wpAny_ready (rs := [9]) (by kernel_rfl) (by simp) (AllReady.cons rfl (fun K hK => ?_) AllReady.nil)
                go_simp
                (first | (refine hK _ _ ?_; clear hK K) | skip)
                refine wpAny_ready (rs := [10]) (by kernel_rfl) (by simp) (AllReady.cons rfl (fun K hK => ?_) AllReady.nil)
                go_simp
                (first | (refine hK _ _ ?_; clear hK K) | skip)
                refine wpAny_ready (rs := [11]) (by kernel_rfl) (by simp) (AllReady.cons rfl (fun K hK => ?_) AllReady.nil)
                go_simp
                (first | (refine hK _ _ ?_; clear hK K) | skip)
                refine wpAny_done (by kernel_rfl) ?_ _
                (go_wp2_with fail; go_ret; exact ⟨ret_bool HF.out.symm, HFIN.out _ HB5.out⟩)
            · go_simp
              (first | (refine hK _ _ ?_; clear hK K) | skip)
              refine wpAny_ready (rs := [5]) (by kernel_rfl) (by simp) (AllReady.cons rfl (fun K hK => ?_) AllReady.nil)
              go_simp
              (first | (refine hK _ _ ?_; clear hK K) | skip)
              refine wpAny_ready (rs := [6]) (by kernel_rfl) (by simp) (AllReady.cons rfl (fun K hK => ?_) AllReady.nil)
              go_simp
              (first | (refine hK _ _ ?_; clear hK K) | skip)
              refine wpAny_ready (rs := [9]) (by kernel_rfl) (by simp) (AllReady.cons rfl (fun K hK => ?_) AllReady.nil)
              go_simp
              (first | (refine hK _ _ ?_; clear hK K) | skip)
              refine wpAny_ready (rs := [10]) (by kernel_rfl) (by simp) (AllReady.cons rfl (fun K hK => ?_) AllReady.nil)
              go_simp
              (first | (refine hK _ _ ?_; clear hK K) | skip)
              refine wpAny_ready (rs := [11]) (by kernel_rfl) (by simp) (AllReady.cons rfl (fun K hK => ?_) AllReady.nil)
              go_simp
              (first | (refine hK _ _ ?_; clear hK K) | skip)
              refine wpAny_done (by kernel_rfl) ?_ _
              (go_wp2_with fail; go_ret; exact ⟨ret_bool HF.out.symm, HFIN.out _ HB5.out⟩)
        · go_simp
          (first | (refine hK _ _ ?_; clear hK K) | skip)
          refine wpAny_ready (rs := [0, 2]) (by kernel_rfl) (by simp) (AllReady.cons rfl (fun K hK => ?_) (AllReady.cons rfl (fun K hK => ?_) AllReady.nil))
          · go_simp
            (first | (refine hK _ _ ?_; clear hK K) | skip)
            refine wpAny_ready (rs := [2]) (by kernel_rfl) (by simp) (AllReady.cons rfl (fun K hK => ?_) AllReady.nil)
            go_simp
            (first | (refine hK _ _ ?_; clear hK K) | skip)
            refine wpAny_ready (rs := [3]) (by kernel_rfl) (by simp) (AllReady.cons rfl (fun K hK => ?_) AllReady.nil)
            go_simp
            refine (HF1.out _).mono ?_
            rintro e w5 ⟨rfl, hb5⟩
            have hc5 := (HS.out _ (below_trans (below_drew _) hb5)).2
            have HB5 := Lib.hid hb5; clear hb5
            dsimp only
            refine hK _ _ ?_; clear hK K
            refine wpAny_ready (rs := [4]) (by kernel_rfl) (by simp) (AllReady.cons rfl (fun K hK => ?_) AllReady.nil)
            go_simp
            (first | (refine hK _ _ ?_; clear hK K) | skip)
            refine wpAny_ready (rs := [5, 7]) (by kernel_rfl) (by simp) (AllReady.cons rfl (fun K hK => ?_) (AllReady.cons rfl (fun K hK => ?_) AllReady.nil))
            · go_simp
              (first | (refine hK _ _ ?_; clear hK K) | skip)
              refine wpAny_ready (rs := [6, 7]) (by kernel_rfl) (by simp) (AllReady.cons rfl (fun K hK => ?_) (AllReady.cons rfl (fun K hK => ?_) AllReady.nil))
              · go_simp
                (first | (refine hK _ _ ?_; clear hK K) | skip)
                refine wpAny_ready (rs := [7]) (by kernel_rfl) (by simp) (AllReady.cons rfl (fun K hK => ?_) AllReady.nil)
                go_simp
                (first | (refine hK _ _ ?_; clear hK K) | skip)
                refine wpAny_ready (rs := [8]) (by kernel_rfl) (by simp) (AllReady.cons rfl (fun K hK => ?_) AllReady.nil)
                go_simp
                (first | (refine hK _ _ ?_; clear hK K) | skip)
                refine wpAny_ready (rs := [9]) (by kernel_rfl) (by simp) (AllReady.cons rfl (fun K hK => ?_) AllReady.nil)
                go_simp
                (first | (refine hK _ _ ?_; clear hK K) | skip)
                refine wpAny_ready (rs := [10]) (by kernel_rfl) (by simp) (AllReady.cons rfl (fun K hK => ?_) AllReady.nil)
                go_simp
                (first | (refine hK _ _ ?_; clear hK K) | skip)
                refine wpAny_ready (rs := [11]) (by kernel_rfl) (by simp) (AllReady.cons rfl (fun K hK => ?_) AllReady.nil)
                go_simp
                (first | (refine hK _ _ ?_; clear hK K) | skip)
                refine wpAny_done (by kernel_rfl) ?_ _
                (go_wp2_with fail; go_ret; exact ⟨ret_bool HF.out.symm, HFIN.out _ HB5.out⟩)
              · go_simp
                (first | (refine hK _ _ ?_; clear hK K) | skip)
                refine wpAny_ready (rs := [6, 8]) (by kernel_rfl) (by simp) (AllReady.cons rfl (fun K hK => ?_) (AllReady.cons rfl (fun K hK => ?_) AllReady.nil))
                · go_simp
                  (first | (refine hK _ _ ?_; clear hK K) | skip)
                  refine wpAny_ready (rs := [8]) (by kernel_rfl) (by simp) (AllReady.cons rfl (fun K hK => ?_) AllReady.nil)
                  go_simp
                  (first | (refine hK _ _ ?_; clear hK K) | skip)
                  refine wpAny_ready (rs := [9]) (by kernel_rfl) (by simp) (AllReady.cons rfl (fun K hK => ?_) AllReady.nil)
                  go_simp
                  (first | (refine hK _ _ ?_; clear hK K) | skip)
                  refine wpAny_ready (rs := [10]) (by kernel_rfl) (by simp) (AllReady.cons rfl (fun K hK => ?_) AllReady.nil)
                  go_simp
                  (first | (refine hK _ _ ?_; clear hK K) | skip)
                  refine wpAny_ready (rs := [11]) (by kernel_rfl) (by simp) (AllReady.cons rfl (fun K hK => ?_) AllReady.nil)
                  go_simp
                  (first | (refine hK _ _ ?_; clear hK K) | skip)
                  refine wpAny_done (by kernel_rfl) ?_ _
                  (go_wp2_with fail; go_ret; exact ⟨ret_bool HF.out.symm, HFIN.out _ HB5.out⟩)
                · go_simp
                  (first | (refine hK _ _ ?_; clear hK K) | skip)
                  refine wpAny_ready (rs := [6]) (by kernel_rfl) (by simp) (AllReady.cons rfl (fun K hK => ?_) AllReady.nil)
                  go_simp
                  (first | (refine hK _ _ ?_; clear hK K) | skip)
                  refine wpAny_ready (rs := [9]) (by kernel_rfl) (by simp) (AllReady.cons rfl (fun K hK => ?_) AllReady.nil)
                  go_simp
                  (first | (refine hK _ _ ?_; clear hK K) | skip)
                  refine wpAny_ready (rs := [10]) (by kernel_rfl) (by simp) (AllReady.cons rfl (fun K hK => ?_) AllReady.nil)
                  go_simp
                  (first | (refine hK _ _ ?_; clear hK K) | skip)
                  refine wpAny_ready (rs := [11]) (by kernel_rfl) (by simp) (AllReady.cons rfl (fun K hK => ?_) AllReady.nil)
                  go_simp
                  (first | (refine hK _ _ ?_; clear hK K) | skip)
                  refine wpAny_done (by kernel_rfl) ?_ _
                  (go_wp2_with fail; go_ret; exact ⟨ret_bool HF.out.symm, HFIN.out _ HB5.out⟩)
            · go_simp
              (first | (refine hK _ _ ?_; clear hK K) | skip)
              refine wpAny_ready (rs := [5, 8]) (by kernel_rfl) (by simp) (AllReady.cons rfl (fun K hK => ?_) (AllReady.cons rfl (fun K hK => ?_) AllReady.nil))
              · go_simp
                (first | (refine hK _ _ ?_; clear hK K) | skip)
                refine wpAny_ready (rs := [6, 8]) (by kernel_rfl) (by simp) (AllReady.cons rfl (fun K hK => ?_) (AllReady.cons rfl (fun K hK => ?_) AllReady.nil))
                · go_simp
                  (first | (refine hK _ _ ?_; clear hK K) | skip)
                  refine wpAny_ready (rs := [8]) (by kernel_rfl) (by simp) (AllReady.cons rfl (fun K hK => ?_) AllReady.nil)
                  go_simp
                  (first | (refine hK _ _ ?_; clear hK K) | skip)
                  refine wpAny_ready (rs := [9]) (by kernel_rfl) (by simp) (AllReady.cons rfl (fun K hK => ?_) AllReady.nil)
                  go_simp
                  (first | (refine hK _ _ ?_; clear hK K) | skip)
                  refine wpAny_ready (rs := [10]) (by kernel_rfl) (by simp) (AllReady.cons rfl (fun K hK => ?_) AllReady.nil)
                  go_simp
                  (first | (refine hK _ _ ?_; clear hK K) | skip)
                  refine wpAny_ready (rs := [11]) (by kernel_rfl) (by simp) (AllReady.cons rfl (fun K hK => ?_) AllReady.nil)
                  go_simp
                  (first | (refine hK _ _ ?_; clear hK K) | skip)
                  refine wpAny_done (by kernel_rfl) ?_ _
                  (go_wp2_with fail; go_ret; exact ⟨ret_bool HF.out.symm, HFIN.out _ HB5.out⟩)
                · go_simp
                  (first | (refine hK _ _ ?_; clear hK K) | skip)
                  refine wpAny_ready (rs := [6]) (by kernel_rfl) (by simp) (AllReady.cons rfl (fun K hK => ?_) AllReady.nil)
                  go_simp
                  (first | (refine hK _ _ ?_; clear hK K) | skip)
                  refine wpAny_ready (rs := [9]) (by kernel_rfl) (by simp) (AllReady.cons rfl (fun K hK => ?_) AllReady.nil)
                  go_simp
                  (first | (refine hK _ _ ?_; clear hK K) | skip)
                  refine wpAny_ready (rs := [10]) (by kernel_rfl) (by simp) (AllReady.cons rfl (fun K hK => ?_) AllReady.nil)
                  go_simp
                  (first | (refine hK _ _ ?_; clear hK K) | skip)
                  refine wpAny_ready (rs := [11]) (by kernel_rfl) (by simp) (AllReady.cons rfl (fun K hK => ?_) AllReady.nil)
                  go_simp
                  (first | (refine hK _ _ ?_; clear hK K) | skip)
                  refine wpAny_done (by kernel_rfl) ?_ _
                  (go_wp2_with fail; go_ret; exact ⟨ret_bool HF.out.symm, HFIN.out _ HB5.out⟩)
              · go_simp
                (first | (refine hK _ _ ?_; clear hK K) | skip)
                refine wpAny_ready (rs := [5]) (by kernel_rfl) (by simp) (AllReady.cons rfl (fun K hK => ?_) AllReady.nil)
                go_simp
                (first | (refine hK _ _ ?_; clear hK K) | skip)
                refine wpAny_ready (rs := [6]) (by kernel_rfl) (by simp) (AllReady.cons rfl (fun K hK => ?_) AllReady.nil)
                go_simp
                (first | (refine hK _ _ ?_; clear hK K) | skip)
                refine wpAny_ready (rs := [9]) (by kernel_rfl) (by simp) (AllReady.cons rfl (fun K hK => ?_) AllReady.nil)
                go_simp
                (first | (refine hK _ _ ?_; clear hK K) | skip)
                refine wpAny_ready (rs := [10]) (by kernel_rfl) (by simp) (AllReady.cons rfl (fun K hK => ?_) AllReady.nil)
                go_simp
                (first | (refine hK _ _ ?_; clear hK K) | skip)
                refine wpAny_ready (rs := [11]) (by kernel_rfl) (by simp) (AllReady.cons rfl (fun K hK => ?_) AllReady.nil)
                go_simp
                (first | (refine hK _ _ ?_; clear hK K) | skip)
                refine wpAny_done (by kernel_rfl) ?_ _
                (go_wp2_with fail; go_ret; exact ⟨ret_bool HF.out.symm, HFIN.out _ HB5.out⟩)
          · go_simp
            (first | (refine hK _ _ ?_; clear hK K) | skip)
            refine wpAny_ready (rs := [0]) (by kernel_rfl) (by simp) (AllReady.cons rfl (fun K hK => ?_) AllReady.nil)
            go_simp
            (first | (refine hK _ _ ?_; clear hK K) | skip)
            refine wpAny_ready (rs := [3]) (by kernel_rfl) (by simp) (AllReady.cons rfl (fun K hK => ?_) AllReady.nil)
            go_simp
            refine (HF1.out _).mono ?_
            rintro e w5 ⟨rfl, hb5⟩
            have hc5 := (HS.out _ (below_trans (below_drew _) hb5)).2
            have HB5 := Lib.hid hb5; clear hb5
            dsimp only
            refine hK _ _ ?_; clear hK K
            refine wpAny_ready (rs := [4]) (by kernel_rfl) (by simp) (AllReady.cons rfl (fun K hK => ?_) AllReady.nil)
            go_simp
            (first | (refine hK _ _ ?_; clear hK K) | skip)
            refine wpAny_ready (rs := [5, 7]) (by kernel_rfl) (by simp) (AllReady.cons rfl (fun K hK => ?_) (AllReady.cons rfl (fun K hK => ?_) AllReady.nil))
            · go_simp
              (first | (refine hK _ _ ?_; clear hK K) | skip)
              refine wpAny_ready (rs := [6, 7]) (by kernel_rfl) (by simp) (AllReady.cons rfl (fun K hK => ?_) (AllReady.cons rfl (fun K hK => ?_) AllReady.nil))
              · go_simp
                (first | (refine hK _ _ ?_; clear hK K) | skip)
                refine wpAny_ready (rs := [7]) (by kernel_rfl) (by simp) (AllReady.cons rfl (fun K hK => ?_) AllReady.nil)
                go_simp
                (first | (refine hK _ _ ?_; clear hK K) | skip)
                refine wpAny_ready (rs := [8]) (by kernel_rfl) (by simp) (AllReady.cons rfl (fun K hK => ?_) AllReady.nil)
                go_simp
                (first | (refine hK _ _ ?_; clear hK K) | skip)
                refine wpAny_ready (rs := [9]) (by kernel_rfl) (by simp) (AllReady.cons rfl (fun K hK => ?_) AllReady.nil)
                go_simp
                (first | (refine hK _ _ ?_; clear hK K) | skip)
                refine wpAny_ready (rs := [10]) (by kernel_rfl) (by simp) (AllReady.cons rfl (fun K hK => ?_) AllReady.nil)
                go_simp
                (first | (refine hK _ _ ?_; clear hK K) | skip)
                refine wpAny_ready (rs := [11]) (by kernel_rfl) (by simp) (AllReady.cons rfl (fun K hK => ?_) AllReady.nil)
                go_simp
                (first | (refine hK _ _ ?_; clear hK K) | skip)
                refine wpAny_done (by kernel_rfl) ?_ _
                (go_wp2_with fail; go_ret; exact ⟨ret_bool HF.out.symm, HFIN.out _ HB5.out⟩)
              · go_simp
                (first | (refine hK _ _ ?_; clear hK K) | skip)
                refine wpAny_ready (rs := [6, 8]) (by kernel_rfl) (by simp) (AllReady.cons rfl (fun K hK => ?_) (AllReady.cons rfl (fun K hK => ?_) AllReady.nil))
                · go_simp
                  (first | (refine hK _ _ ?_; clear hK K) | skip)
                  refine wpAny_ready (rs := [8]) (by kernel_rfl) (by simp) (AllReady.cons rfl (fun K hK => ?_) AllReady.nil)
                  go_simp
                  (first | (refine hK _ _ ?_; clear hK K) | skip)
                  refine wpAny_ready (rs := [9]) (by kernel_rfl) (by simp) (AllReady.cons rfl (fun K hK => ?_) AllReady.nil)
                  go_simp
                  (first | (refine hK _ _ ?_; clear hK K) | skip)
                  refine wpAny_ready (rs := [10]) (by kernel_rfl) (by simp) (AllReady.cons rfl (fun K hK => ?_) AllReady.nil)
                  go_simp
                  (first | (refine hK _ _ ?_; clear hK K) | skip)
                  refine wpAny_ready (rs := [11]) (by kernel_rfl) (by simp) (AllReady.cons rfl (fun K hK => ?_) AllReady.nil)
                  go_simp
                  (first | (refine hK _ _ ?_; clear hK K) | skip)
                  refine wpAny_done (by kernel_rfl) ?_ _
                  (go_wp2_with fail; go_ret; exact ⟨ret_bool HF.out.symm, HFIN.out _ HB5.out⟩)
                · go_simp
                  (first | (refine hK _ _ ?_; clear hK K) | skip)
                  refine wpAny_ready (rs := [6]) (by kernel_rfl) (by simp) (AllReady.cons rfl (fun K hK => ?_) AllReady.nil)
                  go_simp
                  (first | (refine hK _ _ ?_; clear hK K) | skip)
                  refine wpAny_ready (rs := [9]) (by kernel_rfl) (by simp) (AllReady.cons rfl (fun K hK => ?_) AllReady.nil)
                  go_simp
                  (first | (refine hK _ _ ?_; clear hK K) | skip)
                  refine wpAny_ready (rs := [10]) (by kernel_rfl) (by simp) (AllReady.cons rfl (fun K hK => ?_) AllReady.nil)
                  go_simp
                  (first | (refine hK _ _ ?_; clear hK K) | skip)
                  refine wpAny_ready (rs := [11]) (by kernel_rfl) (by simp) (AllReady.cons rfl (fun K hK => ?_) AllReady.nil)
                  go_simp
                  (first | (refine hK _ _ ?_; clear hK K) | skip)
                  refine wpAny_done (by kernel_rfl) ?_ _
                  (go_wp2_with fail; go_ret; exact ⟨ret_bool HF.out.symm, HFIN.out _ HB5.out⟩)
            · go_simp
              (first | (refine hK _ _ ?_; clear hK K) | skip)
              refine wpAny_ready (rs := [5, 8]) (by kernel_rfl) (by simp) (AllReady.cons rfl (fun K hK => ?_) (AllReady.cons rfl (fun K hK => ?_) AllReady.nil))
              · go_simp
                (first | (refine hK _ _ ?_; clear hK K) | skip)
                refine wpAny_ready (rs := [6, 8]) (by kernel_rfl) (by simp) (AllReady.cons rfl (fun K hK => ?_) (AllReady.cons rfl (fun K hK => ?_) AllReady.nil))
                · go_simp
                  (first | (refine hK _ _ ?_; clear hK K) | skip)
                  refine wpAny_ready (rs := [8]) (by kernel_rfl) (by simp) (AllReady.cons rfl (fun K hK => ?_) AllReady.nil)
                  go_simp
                  (first | (refine hK _ _ ?_; clear hK K) | skip)
                  refine wpAny_ready (rs := [9]) (by kernel_rfl) (by simp) (AllReady.cons rfl (fun K hK => ?_) AllReady.nil)
                  go_simp
                  (first | (refine hK _ _ ?_; clear hK K) | skip)
                  refine wpAny_ready (rs := [10]) (by kernel_rfl) (by simp) (AllReady.cons rfl (fun K hK => ?_) AllReady.nil)
                  go_simp
                  (first | (refine hK _ _ ?_; clear hK K) | skip)
                  refine wpAny_ready (rs := [11]) (by kernel_rfl) (by simp) (AllReady.cons rfl (fun K hK => ?_) AllReady.nil)
                  go_simp
                  (first | (refine hK _ _ ?_; clear hK K) | skip)
                  refine wpAny_done (by kernel_rfl) ?_ _
                  (go_wp2_with fail; go_ret; exact ⟨ret_bool HF.out.symm, HFIN.out _ HB5.out⟩)
                · go_simp
                  (first | (refine hK _ _ ?_; clear hK K) | skip)
                  refine wpAny_ready (rs := [6]) (by kernel_rfl) (by simp) (AllReady.cons rfl (fun K hK => ?_) AllReady.nil)
                  go_simp
                  (first | (refine hK _ _ ?_; clear hK K) | skip)
                  refine wpAny_ready (rs := [9]) (by kernel_rfl) (by simp) (AllReady.cons rfl (fun K hK => ?_) AllReady.nil)
                  go_simp
                  (first | (refine hK _ _ ?_; clear hK K) | skip)
                  refine wpAny_ready (rs := [10]) (by kernel_rfl) (by simp) (AllReady.cons rfl (fun K hK => ?_) AllReady.nil)
                  go_simp
                  (first | (refine hK _ _ ?_; clear hK K) | skip)
                  refine wpAny_ready (rs := [11]) (by kernel_rfl) (by simp) (AllReady.cons rfl (fun K hK => ?_) AllReady.nil)
                  go_simp
                  (first | (refine hK _ _ ?_; clear hK K) | skip)
                  refine wpAny_done (by kernel_rfl) ?_ _
                  (go_wp2_with fail; go_ret; exact ⟨ret_bool HF.out.symm, HFIN.out _ HB5.out⟩)
              · go_simp
                (first | (refine hK _ _ ?_; clear hK K) | skip)
                refine wpAny_ready (rs := [5]) (by kernel_rfl) (by simp) (AllReady.cons rfl (fun K hK => ?_) AllReady.nil)
                go_simp
                (first | (refine hK _ _ ?_; clear hK K) | skip)
                refine wpAny_ready (rs := [6]) (by kernel_rfl) (by simp) (AllReady.cons rfl (fun K hK => ?_) AllReady.nil)
                go_simp
                (first | (refine hK _ _ ?_; clear hK K) | skip)
                refine wpAny_ready (rs := [9]) (by kernel_rfl) (by simp) (AllReady.cons rfl (fun K hK => ?_) AllReady.nil)
                go_simp
                (first | (refine hK _ _ ?_; clear hK K) | skip)
                refine wpAny_ready (rs := [10]) (by kernel_rfl) (by simp) (AllReady.cons rfl (fun K hK => ?_) AllReady.nil)
                go_simp
                (first | (refine hK _ _ ?_; clear hK K) | skip)
                refine wpAny_ready (rs := [11]) (by kernel_rfl) (by simp) (AllReady.cons rfl (fun K hK => ?_) AllReady.nil)
                go_simp
                (first | (refine hK _ _ ?_; clear hK K) | skip)
                refine wpAny_done (by kernel_rfl) ?_ _
                (go_wp2_with fail; go_ret; exact ⟨ret_bool HF.out.symm, HFIN.out _ HB5.out⟩)
      | true =>
        have HF := Lib.hid (HR2.out HSM.out (by simp))
        have hc0 : wr.drew.cell? ⟨w.heap.size, 0, none⟩ = some (.string u) := (HS.out _ (below_drew _)).1
        have HFIN : Hid (∀ w5, Below wr.drew.heap.size wr.drew w5 → Below w.heap.size w w5) := Lib.hid (fun w5 h => HBX.out.below.trans ((below_trans (below_drew _) h).mono HBX.out.below.size))
        go_wp2_with fail
        refine wp_region_any (by kernel_rfl) ?_
        change wpAny _ _ _ _ _ _ _ wr.drew
        refine wpAny_ready (rs := [0, 1]) (by kernel_rfl) (by simp) (AllReady.cons rfl (fun K hK => ?_) (AllReady.cons rfl (fun K hK => ?_) AllReady.nil))
        · go_simp
          (first | (refine hK _ _ ?_; clear hK K) | skip)
          refine wpAny_ready (rs := [1]) (by kernel_rfl) (by simp) (AllReady.cons rfl (fun K hK => ?_) AllReady.nil)
          go_simp
          (first | (refine hK _ _ ?_; clear hK K) | skip)
          refine wpAny_ready (rs := [2]) (by kernel_rfl) (by simp) (AllReady.cons rfl (fun K hK => ?_) AllReady.nil)
          go_simp
          (first | (refine hK _ _ ?_; clear hK K) | skip)
          refine wpAny_ready (rs := [3]) (by kernel_rfl) (by simp) (AllReady.cons rfl (fun K hK => ?_) AllReady.nil)
          go_simp
          refine (HF1.out _).mono ?_
          rintro e w5 ⟨rfl, hb5⟩
          have hc5 := (HS.out _ (below_trans (below_drew _) hb5)).2
          have HB5 := Lib.hid hb5; clear hb5
          dsimp only
          refine hK _ _ ?_; clear hK K
          refine wpAny_ready (rs := [4]) (by kernel_rfl) (by simp) (AllReady.cons rfl (fun K hK => ?_) AllReady.nil)
          go_simp
          (first | (refine hK _ _ ?_; clear hK K) | skip)
          refine wpAny_ready (rs := [5, 7]) (by kernel_rfl) (by simp) (AllReady.cons rfl (fun K hK => ?_) (AllReady.cons rfl (fun K hK => ?_) AllReady.nil))
          · go_simp
            (first | (refine hK _ _ ?_; clear hK K) | skip)
            refine wpAny_ready (rs := [6, 7]) (by kernel_rfl) (by simp) (AllReady.cons rfl (fun K hK => ?_) (AllReady.cons rfl (fun K hK => ?_) AllReady.nil))
            · go_simp
              refine (HSY.out _).mono ?_
              rintro e w6 ⟨rfl, hb6⟩
              have hc6 := (HS.out _ (below_trans (below_trans (below_drew _) HB5.out) hb6)).2
              have HB6 := Lib.hid hb6; clear hb6
              dsimp only
              refine hK _ _ ?_; clear hK K
              refine wpAny_ready (rs := [7]) (by kernel_rfl) (by simp) (AllReady.cons rfl (fun K hK => ?_) AllReady.nil)
              go_simp
              (first | (refine hK _ _ ?_; clear hK K) | skip)
              refine wpAny_ready (rs := [8]) (by kernel_rfl) (by simp) (AllReady.cons rfl (fun K hK => ?_) AllReady.nil)
              go_simp
              (first | (refine hK _ _ ?_; clear hK K) | skip)
              refine wpAny_ready (rs := [9]) (by kernel_rfl) (by simp) (AllReady.cons rfl (fun K hK => ?_) AllReady.nil)
              go_simp
              refine (HF2.out _).mono ?_
              rintro e w7 ⟨rfl, hb7⟩
              have HB7 := Lib.hid hb7; clear hb7
              dsimp only
              refine hK _ _ ?_; clear hK K
              refine wpAny_ready (rs := [10]) (by kernel_rfl) (by simp) (AllReady.cons rfl (fun K hK => ?_) AllReady.nil)
              go_simp
              (first | (refine hK _ _ ?_; clear hK K) | skip)
              refine wpAny_ready (rs := [11]) (by kernel_rfl) (by simp) (AllReady.cons rfl (fun K hK => ?_) AllReady.nil)
              go_simp
              (first | (refine hK _ _ ?_; clear hK K) | skip)
              refine wpAny_done (by kernel_rfl) ?_ _
              (go_wp2_with fail; go_ret; exact ⟨ret_bool HF.out.symm, HFIN.out _ (below_trans (below_trans HB5.out HB6.out) HB7.out)⟩)
            · go_simp
              (first | (refine hK _ _ ?_; clear hK K) | skip)
              refine wpAny_ready (rs := [6, 8]) (by kernel_rfl) (by simp) (AllReady.cons rfl (fun K hK => ?_) (AllReady.cons rfl (fun K hK => ?_) AllReady.nil))
              · go_simp
                refine (HSY.out _).mono ?_
                rintro e w6 ⟨rfl, hb6⟩
                have hc6 := (HS.out _ (below_trans (below_trans (below_drew _) HB5.out) hb6)).2
                have HB6 := Lib.hid hb6; clear hb6
                dsimp only
                refine hK _ _ ?_; clear hK K
                refine wpAny_ready (rs := [8]) (by kernel_rfl) (by simp) (AllReady.cons rfl (fun K hK => ?_) AllReady.nil)
                go_simp
                (first | (refine hK _ _ ?_; clear hK K) | skip)
                refine wpAny_ready (rs := [9]) (by kernel_rfl) (by simp) (AllReady.cons rfl (fun K hK => ?_) AllReady.nil)
                go_simp
                refine (HF2.out _).mono ?_
                rintro e w7 ⟨rfl, hb7⟩
                have HB7 := Lib.hid hb7; clear hb7
                dsimp only
                refine hK _ _ ?_; clear hK K
                refine wpAny_ready (rs := [10]) (by kernel_rfl) (by simp) (AllReady.cons rfl (fun K hK => ?_) AllReady.nil)
                go_simp
                (first | (refine hK _ _ ?_; clear hK K) | skip)
                refine wpAny_ready (rs := [11]) (by kernel_rfl) (by simp) (AllReady.cons rfl (fun K hK => ?_) AllReady.nil)
                go_simp
                (first | (refine hK _ _ ?_; clear hK K) | skip)
                refine wpAny_done (by kernel_rfl) ?_ _
                (go_wp2_with fail; go_ret; exact ⟨ret_bool HF.out.symm, HFIN.out _ (below_trans (below_trans HB5.out HB6.out) HB7.out)⟩)
              · go_simp
                (first | (refine hK _ _ ?_; clear hK K) | skip)
                refine wpAny_ready (rs := [6]) (by kernel_rfl) (by simp) (AllReady.cons rfl (fun K hK => ?_) AllReady.nil)
                go_simp
                refine (HSY.out _).mono ?_
                rintro e w6 ⟨rfl, hb6⟩
                have hc6 := (HS.out _ (below_trans (below_trans (below_drew _) HB5.out) hb6)).2
                have HB6 := Lib.hid hb6; clear hb6
                dsimp only
                refine hK _ _ ?_; clear hK K
                refine wpAny_ready (rs := [9]) (by kernel_rfl) (by simp) (AllReady.cons rfl (fun K hK => ?_) AllReady.nil)
                go_simp
                refine (HF2.out _).mono ?_
                rintro e w7 ⟨rfl, hb7⟩
                have HB7 := Lib.hid hb7; clear hb7
                dsimp only
                refine hK _ _ ?_; clear hK K
                refine wpAny_ready (rs := [10]) (by kernel_rfl) (by simp) (AllReady.cons rfl (fun K hK => ?_) AllReady.nil)
                go_simp
                (first | (refine hK _ _ ?_; clear hK K) | skip)
                refine wpAny_ready (rs := [11]) (by kernel_rfl) (by simp) (AllReady.cons rfl (fun K hK => ?_) AllReady.nil)
                go_simp
                (first | (refine hK _ _ ?_; clear hK K) | skip)
                refine wpAny_done (by kernel_rfl) ?_ _
                (go_wp2_with fail; go_ret; exact ⟨ret_bool HF.out.symm, HFIN.out _ (below_trans (below_trans HB5.out HB6.out) HB7.out)⟩)
          · go_simp
            (first | (refine hK _ _ ?_; clear hK K) | skip)
            refine wpAny_ready (rs := [5, 8]) (by kernel_rfl) (by simp) (AllReady.cons rfl (fun K hK => ?_) (AllReady.cons rfl (fun K hK => ?_) AllReady.nil))
            · go_simp
              (first | (refine hK _ _ ?_; clear hK K) | skip)
              refine wpAny_ready (rs := [6, 8]) (by kernel_rfl) (by simp) (AllReady.cons rfl (fun K hK => ?_) (AllReady.cons rfl (fun K hK => ?_) AllReady.nil))
              · go_simp
                refine (HSY.out _).mono ?_
                rintro e w6 ⟨rfl, hb6⟩
                have hc6 := (HS.out _ (below_trans (below_trans (below_drew _) HB5.out) hb6)).2
                have HB6 := Lib.hid hb6; clear hb6
                dsimp only
                refine hK _ _ ?_; clear hK K
                refine wpAny_ready (rs := [8]) (by kernel_rfl) (by simp) (AllReady.cons rfl (fun K hK => ?_) AllReady.nil)
                go_simp
                (first | (refine hK _ _ ?_; clear hK K) | skip)
                refine wpAny_ready (rs := [9]) (by kernel_rfl) (by simp) (AllReady.cons rfl (fun K hK => ?_) AllReady.nil)
                go_simp
                refine (HF2.out _).mono ?_
                rintro e w7 ⟨rfl, hb7⟩
                have HB7 := Lib.hid hb7; clear hb7
                dsimp only
                refine hK _ _ ?_; clear hK K
                refine wpAny_ready (rs := [10]) (by kernel_rfl) (by simp) (AllReady.cons rfl (fun K hK => ?_) AllReady.nil)
                go_simp
                (first | (refine hK _ _ ?_; clear hK K) | skip)
                refine wpAny_ready (rs := [11]) (by kernel_rfl) (by simp) (AllReady.cons rfl (fun K hK => ?_) AllReady.nil)
                go_simp
                (first | (refine hK _ _ ?_; clear hK K) | skip)
                refine wpAny_done (by kernel_rfl) ?_ _
                (go_wp2_with fail; go_ret; exact ⟨ret_bool HF.out.symm, HFIN.out _ (below_trans (below_trans HB5.out HB6.out) HB7.out)⟩)
              · go_simp
                (first | (refine hK _ _ ?_; clear hK K) | skip)
                refine wpAny_ready (rs := [6]) (by kernel_rfl) (by simp) (AllReady.cons rfl (fun K hK => ?_) AllReady.nil)
                go_simp
                refine (HSY.out _).mono ?_
                rintro e w6 ⟨rfl, hb6⟩
                have hc6 := (HS.out _ (below_trans (below_trans (below_drew _) HB5.out) hb6)).2
                have HB6 := Lib.hid hb6; clear hb6
                dsimp only
                refine hK _ _ ?_; clear hK K
                refine wpAny_ready (rs := [9]) (by kernel_rfl) (by simp) (AllReady.cons rfl (fun K hK => ?_) AllReady.nil)
                go_simp
                refine (HF2.out _).mono ?_
                rintro e w7 ⟨rfl, hb7⟩
                have HB7 := Lib.hid hb7; clear hb7
                dsimp only
                refine hK _ _ ?_; clear hK K
                refine wpAny_ready (rs := [10]) (by kernel_rfl) (by simp) (AllReady.cons rfl (fun K hK => ?_) AllReady.nil)
                go_simp
                (first | (refine hK _ _ ?_; clear hK K) | skip)
                refine wpAny_ready (rs := [11]) (by kernel_rfl) (by simp) (AllReady.cons rfl (fun K hK => ?_) AllReady.nil)
                go_simp
                (first | (refine hK _ _ ?_; clear hK K) | skip)
                refine wpAny_done (by kernel_rfl) ?_ _
                (go_wp2_with fail; go_ret; exact ⟨ret_bool HF.out.symm, HFIN.out _ (below_trans (below_trans HB5.out HB6.out) HB7.out)⟩)
            · go_simp
              (first | (refine hK _ _ ?_; clear hK K) | skip)
              refine wpAny_ready (rs := [5]) (by kernel_rfl) (by simp) (AllReady.cons rfl (fun K hK => ?_) AllReady.nil)
              go_simp
              (first | (refine hK _ _ ?_; clear hK K) | skip)
              refine wpAny_ready (rs := [6]) (by kernel_rfl) (by simp) (AllReady.cons rfl (fun K hK => ?_) AllReady.nil)
              go_simp
              refine (HSY.out _).mono ?_
              rintro e w6 ⟨rfl, hb6⟩
              have hc6 := (HS.out _ (below_trans (below_trans (below_drew _) HB5.out) hb6)).2
              have HB6 := Lib.hid hb6; clear hb6
              dsimp only
              refine hK _ _ ?_; clear hK K
              refine wpAny_ready (rs := [9]) (by kernel_rfl) (by simp) (AllReady.cons rfl (fun K hK => ?_) AllReady.nil)
              go_simp
              refine (HF2.out _).mono ?_
              rintro e w7 ⟨rfl, hb7⟩
              have HB7 := Lib.hid hb7; clear hb7
              dsimp only
              refine hK _ _ ?_; clear hK K
              refine wpAny_ready (rs := [10]) (by kernel_rfl) (by simp) (AllReady.cons rfl (fun K hK => ?_) AllReady.nil)
              go_simp
              (first | (refine hK _ _ ?_; clear hK K) | skip)
              refine wpAny_ready (rs := [11]) (by kernel_rfl) (by simp) (AllReady.cons rfl (fun K hK => ?_) AllReady.nil)
              go_simp
              (first | (refine hK _ _ ?_; clear hK K) | skip)
              refine wpAny_done (by kernel_rfl) ?_ _
              (go_wp2_with fail; go_ret; exact ⟨ret_bool HF.out.symm, HFIN.out _ (below_trans (below_trans HB5.out HB6.out) HB7.out)⟩)
        · go_simp
          (first | (refine hK _ _ ?_; clear hK K) | skip)
          refine wpAny_ready (rs := [0, 2]) (by kernel_rfl) (by simp) (AllReady.cons rfl (fun K hK => ?_) (AllReady.cons rfl (fun K hK => ?_) AllReady.nil))
          · go_simp
            (first | (refine hK _ _ ?_; clear hK K) | skip)
            refine wpAny_ready (rs := [2]) (by kernel_rfl) (by simp) (AllReady.cons rfl (fun K hK => ?_) AllReady.nil)
            go_simp
            (first | (refine hK _ _ ?_; clear hK K) | skip)
            refine wpAny_ready (rs := [3]) (by kernel_rfl) (by simp) (AllReady.cons rfl (fun K hK => ?_) AllReady.nil)
            go_simp
            refine (HF1.out _).mono ?_
            rintro e w5 ⟨rfl, hb5⟩
            have hc5 := (HS.out _ (below_trans (below_drew _) hb5)).2
            have HB5 := Lib.hid hb5; clear hb5
            dsimp only
            refine hK _ _ ?_; clear hK K
            refine wpAny_ready (rs := [4]) (by kernel_rfl) (by simp) (AllReady.cons rfl (fun K hK => ?_) AllReady.nil)
            go_simp
            (first | (refine hK _ _ ?_; clear hK K) | skip)
            refine wpAny_ready (rs := [5, 7]) (by kernel_rfl) (by simp) (AllReady.cons rfl (fun K hK => ?_) (AllReady.cons rfl (fun K hK => ?_) AllReady.nil))
            · go_simp
              (first | (refine hK _ _ ?_; clear hK K) | skip)
              refine wpAny_ready (rs := [6, 7]) (by kernel_rfl) (by simp) (AllReady.cons rfl (fun K hK => ?_) (AllReady.cons rfl (fun K hK => ?_) AllReady.nil))
              · go_simp
                refine (HSY.out _).mono ?_
                rintro e w6 ⟨rfl, hb6⟩
                have hc6 := (HS.out _ (below_trans (below_trans (below_drew _) HB5.out) hb6)).2
                have HB6 := Lib.hid hb6; clear hb6
                dsimp only
                refine hK _ _ ?_; clear hK K
                refine wpAny_ready (rs := [7]) (by kernel_rfl) (by simp) (AllReady.cons rfl (fun K hK => ?_) AllReady.nil)
                go_simp
                (first | (refine hK _ _ ?_; clear hK K) | skip)
                refine wpAny_ready (rs := [8]) (by kernel_rfl) (by simp) (AllReady.cons rfl (fun K hK => ?_) AllReady.nil)
                go_simp
                (first | (refine hK _ _ ?_; clear hK K) | skip)
                refine wpAny_ready (rs := [9]) (by kernel_rfl) (by simp) (AllReady.cons rfl (fun K hK => ?_) AllReady.nil)
                go_simp
                refine (HF2.out _).mono ?_
                rintro e w7 ⟨rfl, hb7⟩
                have HB7 := Lib.hid hb7; clear hb7
                dsimp only
                refine hK _ _ ?_; clear hK K
                refine wpAny_ready (rs := [10]) (by kernel_rfl) (by simp) (AllReady.cons rfl (fun K hK => ?_) AllReady.nil)
                go_simp
                (first | (refine hK _ _ ?_; clear hK K) | skip)
                refine wpAny_ready (rs := [11]) (by kernel_rfl) (by simp) (AllReady.cons rfl (fun K hK => ?_) AllReady.nil)
                go_simp
                (first | (refine hK _ _ ?_; clear hK K) | skip)
                refine wpAny_done (by kernel_rfl) ?_ _
                (go_wp2_with fail; go_ret; exact ⟨ret_bool HF.out.symm, HFIN.out _ (below_trans (below_trans HB5.out HB6.out) HB7.out)⟩)
              · go_simp
                (first | (refine hK _ _ ?_; clear hK K) | skip)
                refine wpAny_ready (rs := [6, 8]) (by kernel_rfl) (by simp) (AllReady.cons rfl (fun K hK => ?_) (AllReady.cons rfl (fun K hK => ?_) AllReady.nil))
                · go_simp
                  refine (HSY.out _).mono ?_
                  rintro e w6 ⟨rfl, hb6⟩
                  have hc6 := (HS.out _ (below_trans (below_trans (below_drew _) HB5.out) hb6)).2
                  have HB6 := Lib.hid hb6; clear hb6
                  dsimp only
                  refine hK _ _ ?_; clear hK K
                  refine wpAny_ready (rs := [8]) (by kernel_rfl) (by simp) (AllReady.cons rfl (fun K hK => ?_) AllReady.nil)
                  go_simp
                  (first | (refine hK _ _ ?_; clear hK K) | skip)
                  refine wpAny_ready (rs := [9]) (by kernel_rfl) (by simp) (AllReady.cons rfl (fun K hK => ?_) AllReady.nil)
                  go_simp
                  refine (HF2.out _).mono ?_
                  rintro e w7 ⟨rfl, hb7⟩
                  have HB7 := Lib.hid hb7; clear hb7
                  dsimp only
                  refine hK _ _ ?_; clear hK K
                  refine wpAny_ready (rs := [10]) (by kernel_rfl) (by simp) (AllReady.cons rfl (fun K hK => ?_) AllReady.nil)
                  go_simp
                  (first | (refine hK _ _ ?_; clear hK K) | skip)
                  refine wpAny_ready (rs := [11]) (by kernel_rfl) (by simp) (AllReady.cons rfl (fun K hK => ?_) AllReady.nil)
                  go_simp
                  (first | (refine hK _ _ ?_; clear hK K) | skip)
                  refine wpAny_done (by kernel_rfl) ?_ _
                  (go_wp2_with fail; go_ret; exact ⟨ret_bool HF.out.symm, HFIN.out _ (below_trans (below_trans HB5.out HB6.out) HB7.out)⟩)
                · go_simp
                  (first | (refine hK _ _ ?_; clear hK K) | skip)
                  refine wpAny_ready (rs := [6]) (by kernel_rfl) (by simp) (AllReady.cons rfl (fun K hK => ?_) AllReady.nil)
                  go_simp
                  refine (HSY.out _).mono ?_
                  rintro e w6 ⟨rfl, hb6⟩
                  have hc6 := (HS.out _ (below_trans (below_trans (below_drew _) HB5.out) hb6)).2
                  have HB6 := Lib.hid hb6; clear hb6
                  dsimp only
                  refine hK _ _ ?_; clear hK K
                  refine wpAny_ready (rs := [9]) (by kernel_rfl) (by simp) (AllReady.cons rfl (fun K hK => ?_) AllReady.nil)
                  go_simp
                  refine (HF2.out _).mono ?_
                  rintro e w7 ⟨rfl, hb7⟩
                  have HB7 := Lib.hid hb7; clear hb7
                  dsimp only
                  refine hK _ _ ?_; clear hK K
                  refine wpAny_ready (rs := [10]) (by kernel_rfl) (by simp) (AllReady.cons rfl (fun K hK => ?_) AllReady.nil)
                  go_simp
                  (first | (refine hK _ _ ?_; clear hK K) | skip)
                  refine wpAny_ready (rs := [11]) (by kernel_rfl) (by simp) (AllReady.cons rfl (fun K hK => ?_) AllReady.nil)
                  go_simp
                  (first | (refine hK _ _ ?_; clear hK K) | skip)
                  refine wpAny_done (by kernel_rfl) ?_ _
                  (go_wp2_with fail; go_ret; exact ⟨ret_bool HF.out.symm, HFIN.out _ (below_trans (below_trans HB5.out HB6.out) HB7.out)⟩)
            · go_simp
              (first | (refine hK _ _ ?_; clear hK K) | skip)
              refine wpAny_ready (rs := [5, 8]) (by kernel_rfl) (by simp) (AllReady.cons rfl (fun K hK => ?_) (AllReady.cons rfl (fun K hK => ?_) AllReady.nil))
              · go_simp
                (first | (refine hK _ _ ?_; clear hK K) | skip)
                refine wpAny_ready (rs := [6, 8]) (by kernel_rfl) (by simp) (AllReady.cons rfl (fun K hK => ?_) (AllReady.cons rfl (fun K hK => ?_) AllReady.nil))
                · go_simp
                  refine (HSY.out _).mono ?_
                  rintro e w6 ⟨rfl, hb6⟩
                  have hc6 := (HS.out _ (below_trans (below_trans (below_drew _) HB5.out) hb6)).2
                  have HB6 := Lib.hid hb6; clear hb6
                  dsimp only
                  refine hK _ _ ?_; clear hK K
                  refine wpAny_ready (rs := [8]) (by kernel_rfl) (by simp) (AllReady.cons rfl (fun K hK => ?_) AllReady.nil)
                  go_simp
                  (first | (refine hK _ _ ?_; clear hK K) | skip)
                  refine wpAny_ready (rs := [9]) (by kernel_rfl) (by simp) (AllReady.cons rfl (fun K hK => ?_) AllReady.nil)
                  go_simp
                  refine (HF2.out _).mono ?_
                  rintro e w7 ⟨rfl, hb7⟩
                  have HB7 := Lib.hid hb7; clear hb7
                  dsimp only
                  refine hK _ _ ?_; clear hK K
                  refine wpAny_ready (rs := [10]) (by kernel_rfl) (by simp) (AllReady.cons rfl (fun K hK => ?_) AllReady.nil)
                  go_simp
                  (first | (refine hK _ _ ?_; clear hK K) | skip)
                  refine wpAny_ready (rs := [11]) (by kernel_rfl) (by simp) (AllReady.cons rfl (fun K hK => ?_) AllReady.nil)
                  go_simp
                  (first | (refine hK _ _ ?_; clear hK K) | skip)
                  refine wpAny_done (by kernel_rfl) ?_ _
                  (go_wp2_with fail; go_ret; exact ⟨ret_bool HF.out.symm, HFIN.out _ (below_trans (below_trans HB5.out HB6.out) HB7.out)⟩)
                · go_simp
                  (first | (refine hK _ _ ?_; clear hK K) | skip)
                  refine wpAny_ready (rs := [6]) (by kernel_rfl) (by simp) (AllReady.cons rfl (fun K hK => ?_) AllReady.nil)
                  go_simp
                  refine (HSY.out _).mono ?_
                  rintro e w6 ⟨rfl, hb6⟩
                  have hc6 := (HS.out _ (below_trans (below_trans (below_drew _) HB5.out) hb6)).2
                  have HB6 := Lib.hid hb6; clear hb6
                  dsimp only
                  refine hK _ _ ?_; clear hK K
                  refine wpAny_ready (rs := [9]) (by kernel_rfl) (by simp) (AllReady.cons rfl (fun K hK => ?_) AllReady.nil)
                  go_simp
                  refine (HF2.out _).mono ?_
                  rintro e w7 ⟨rfl, hb7⟩
                  have HB7 := Lib.hid hb7; clear hb7
                  dsimp only
                  refine hK _ _ ?_; clear hK K
                  refine wpAny_ready (rs := [10]) (by kernel_rfl) (by simp) (AllReady.cons rfl (fun K hK => ?_) AllReady.nil)
                  go_simp
                  (first | (refine hK _ _ ?_; clear hK K) | skip)
                  refine wpAny_ready (rs := [11]) (by kernel_rfl) (by simp) (AllReady.cons rfl (fun K hK => ?_) AllReady.nil)
                  go_simp
                  (first | (refine hK _ _ ?_; clear hK K) | skip)
                  refine wpAny_done (by kernel_rfl) ?_ _
                  (go_wp2_with fail; go_ret; exact ⟨ret_bool HF.out.symm, HFIN.out _ (below_trans (below_trans HB5.out HB6.out) HB7.out)⟩)
              · go_simp
                (first | (refine hK _ _ ?_; clear hK K) | skip)
                refine wpAny_ready (rs := [5]) (by kernel_rfl) (by simp) (AllReady.cons rfl (fun K hK => ?_) AllReady.nil)
                go_simp
                (first | (refine hK _ _ ?_; clear hK K) | skip)
                refine wpAny_ready (rs := [6]) (by kernel_rfl) (by simp) (AllReady.cons rfl (fun K hK => ?_) AllReady.nil)
                go_simp
                refine (HSY.out _).mono ?_
                rintro e w6 ⟨rfl, hb6⟩
                have hc6 := (HS.out _ (below_trans (below_trans (below_drew _) HB5.out) hb6)).2
                have HB6 := Lib.hid hb6; clear hb6
                dsimp only
                refine hK _ _ ?_; clear hK K
                refine wpAny_ready (rs := [9]) (by kernel_rfl) (by simp) (AllReady.cons rfl (fun K hK => ?_) AllReady.nil)
                go_simp
                refine (HF2.out _).mono ?_
                rintro e w7 ⟨rfl, hb7⟩
                have HB7 := Lib.hid hb7; clear hb7
                dsimp only
                refine hK _ _ ?_; clear hK K
                refine wpAny_ready (rs := [10]) (by kernel_rfl) (by simp) (AllReady.cons rfl (fun K hK => ?_) AllReady.nil)
                go_simp
                (first | (refine hK _ _ ?_; clear hK K) | skip)
                refine wpAny_ready (rs := [11]) (by kernel_rfl) (by simp) (AllReady.cons rfl (fun K hK => ?_) AllReady.nil)
                go_simp
                (first | (refine hK _ _ ?_; clear hK K) | skip)
                refine wpAny_done (by kernel_rfl) ?_ _
                (go_wp2_with fail; go_ret; exact ⟨ret_bool HF.out.symm, HFIN.out _ (below_trans (below_trans HB5.out HB6.out) HB7.out)⟩)
          · go_simp
            (first | (refine hK _ _ ?_; clear hK K) | skip)
            refine wpAny_ready (rs := [0]) (by kernel_rfl) (by simp) (AllReady.cons rfl (fun K hK => ?_) AllReady.nil)
            go_simp
            (first | (refine hK _ _ ?_; clear hK K) | skip)
            refine wpAny_ready (rs := [3]) (by kernel_rfl) (by simp) (AllReady.cons rfl (fun K hK => ?_) AllReady.nil)
            go_simp
            refine (HF1.out _).mono ?_
            rintro e w5 ⟨rfl, hb5⟩
            have hc5 := (HS.out _ (below_trans (below_drew _) hb5)).2
            have HB5 := Lib.hid hb5; clear hb5
            dsimp only
            refine hK _ _ ?_; clear hK K
            refine wpAny_ready (rs := [4]) (by kernel_rfl) (by simp) (AllReady.cons rfl (fun K hK => ?_) AllReady.nil)
            go_simp
            (first | (refine hK _ _ ?_; clear hK K) | skip)
            refine wpAny_ready (rs := [5, 7]) (by kernel_rfl) (by simp) (AllReady.cons rfl (fun K hK => ?_) (AllReady.cons rfl (fun K hK => ?_) AllReady.nil))
            · go_simp
              (first | (refine hK _ _ ?_; clear hK K) | skip)
              refine wpAny_ready (rs := [6, 7]) (by kernel_rfl) (by simp) (AllReady.cons rfl (fun K hK => ?_) (AllReady.cons rfl (fun K hK => ?_) AllReady.nil))
              · go_simp
                refine (HSY.out _).mono ?_
                rintro e w6 ⟨rfl, hb6⟩
                have hc6 := (HS.out _ (below_trans (below_trans (below_drew _) HB5.out) hb6)).2
                have HB6 := Lib.hid hb6; clear hb6
                dsimp only
                refine hK _ _ ?_; clear hK K
                refine wpAny_ready (rs := [7]) (by kernel_rfl) (by simp) (AllReady.cons rfl (fun K hK => ?_) AllReady.nil)
                go_simp
                (first | (refine hK _ _ ?_; clear hK K) | skip)
                refine wpAny_ready (rs := [8]) (by kernel_rfl) (by simp) (AllReady.cons rfl (fun K hK => ?_) AllReady.nil)
                go_simp
                (first | (refine hK _ _ ?_; clear hK K) | skip)
                refine wpAny_ready (rs := [9]) (by kernel_rfl) (by simp) (AllReady.cons rfl (fun K hK => ?_) AllReady.nil)
                go_simp
                refine (HF2.out _).mono ?_
                rintro e w7 ⟨rfl, hb7⟩
                have HB7 := Lib.hid hb7; clear hb7
                dsimp only
                refine hK _ _ ?_; clear hK K
                refine wpAny_ready (rs := [10]) (by kernel_rfl) (by simp) (AllReady.cons rfl (fun K hK => ?_) AllReady.nil)
                go_simp
                (first | (refine hK _ _ ?_; clear hK K) | skip)
                refine wpAny_ready (rs := [11]) (by kernel_rfl) (by simp) (AllReady.cons rfl (fun K hK => ?_) AllReady.nil)
                go_simp
                (first | (refine hK _ _ ?_; clear hK K) | skip)
                refine wpAny_done (by kernel_rfl) ?_ _
                (go_wp2_with fail; go_ret; exact ⟨ret_bool HF.out.symm, HFIN.out _ (below_trans (below_trans HB5.out HB6.out) HB7.out)⟩)
              · go_simp
                (first | (refine hK _ _ ?_; clear hK K) | skip)
                refine wpAny_ready (rs := [6, 8]) (by kernel_rfl) (by simp) (AllReady.cons rfl (fun K hK => ?_) (AllReady.cons rfl (fun K hK => ?_) AllReady.nil))
                · go_simp
                  refine (HSY.out _).mono ?_
                  rintro e w6 ⟨rfl, hb6⟩
                  have hc6 := (HS.out _ (below_trans (below_trans (below_drew _) HB5.out) hb6)).2
                  have HB6 := Lib.hid hb6; clear hb6
                  dsimp only
                  refine hK _ _ ?_; clear hK K
                  refine wpAny_ready (rs := [8]) (by kernel_rfl) (by simp) (AllReady.cons rfl (fun K hK => ?_) AllReady.nil)
                  go_simp
                  (first | (refine hK _ _ ?_; clear hK K) | skip)
                  refine wpAny_ready (rs := [9]) (by kernel_rfl) (by simp) (AllReady.cons rfl (fun K hK => ?_) AllReady.nil)
                  go_simp
                  refine (HF2.out _).mono ?_
                  rintro e w7 ⟨rfl, hb7⟩
                  have HB7 := Lib.hid hb7; clear hb7
                  dsimp only
                  refine hK _ _ ?_; clear hK K
                  refine wpAny_ready (rs := [10]) (by kernel_rfl) (by simp) (AllReady.cons rfl (fun K hK => ?_) AllReady.nil)
                  go_simp
                  (first | (refine hK _ _ ?_; clear hK K) | skip)
                  refine wpAny_ready (rs := [11]) (by kernel_rfl) (by simp) (AllReady.cons rfl (fun K hK => ?_) AllReady.nil)
                  go_simp
                  (first | (refine hK _ _ ?_; clear hK K) | skip)
                  refine wpAny_done (by kernel_rfl) ?_ _
                  (go_wp2_with fail; go_ret; exact ⟨ret_bool HF.out.symm, HFIN.out _ (below_trans (below_trans HB5.out HB6.out) HB7.out)⟩)
                · go_simp
                  (first | (refine hK _ _ ?_; clear hK K) | skip)
                  refine wpAny_ready (rs := [6]) (by kernel_rfl) (by simp) (AllReady.cons rfl (fun K hK => ?_) AllReady.nil)
                  go_simp
                  refine (HSY.out _).mono ?_
                  rintro e w6 ⟨rfl, hb6⟩
                  have hc6 := (HS.out _ (below_trans (below_trans (below_drew _) HB5.out) hb6)).2
                  have HB6 := Lib.hid hb6; clear hb6
                  dsimp only
                  refine hK _ _ ?_; clear hK K
                  refine wpAny_ready (rs := [9]) (by kernel_rfl) (by simp) (AllReady.cons rfl (fun K hK => ?_) AllReady.nil)
                  go_simp
                  refine (HF2.out _).mono ?_
                  rintro e w7 ⟨rfl, hb7⟩
                  have HB7 := Lib.hid hb7; clear hb7
                  dsimp only
                  refine hK _ _ ?_; clear hK K
                  refine wpAny_ready (rs := [10]) (by kernel_rfl) (by simp) (AllReady.cons rfl (fun K hK => ?_) AllReady.nil)
                  go_simp
                  (first | (refine hK _ _ ?_; clear hK K) | skip)
                  refine wpAny_ready (rs := [11]) (by kernel_rfl) (by simp) (AllReady.cons rfl (fun K hK => ?_) AllReady.nil)
                  go_simp
                  (first | (refine hK _ _ ?_; clear hK K) | skip)
                  refine wpAny_done (by kernel_rfl) ?_ _
                  (go_wp2_with fail; go_ret; exact ⟨ret_bool HF.out.symm, HFIN.out _ (below_trans (below_trans HB5.out HB6.out) HB7.out)⟩)
            · go_simp
              (first | (refine hK _ _ ?_; clear hK K) | skip)
              refine wpAny_ready (rs := [5, 8]) (by kernel_rfl) (by simp) (AllReady.cons rfl (fun K hK => ?_) (AllReady.cons rfl (fun K hK => ?_) AllReady.nil))
              · go_simp
                (first | (refine hK _ _ ?_; clear hK K) | skip)
                refine wpAny_ready (rs := [6, 8]) (by kernel_rfl) (by simp) (AllReady.cons rfl (fun K hK => ?_) (AllReady.cons rfl (fun K hK => ?_) AllReady.nil))
                · go_simp
                  refine (HSY.out _).mono ?_
                  rintro e w6 ⟨rfl, hb6⟩
                  have hc6 := (HS.out _ (below_trans (below_trans (below_drew _) HB5.out) hb6)).2
                  have HB6 := Lib.hid hb6; clear hb6
                  dsimp only
                  refine hK _ _ ?_; clear hK K
                  refine wpAny_ready (rs := [8]) (by kernel_rfl) (by simp) (AllReady.cons rfl (fun K hK => ?_) AllReady.nil)
                  go_simp
                  (first | (refine hK _ _ ?_; clear hK K) | skip)
                  refine wpAny_ready (rs := [9]) (by kernel_rfl) (by simp) (AllReady.cons rfl (fun K hK => ?_) AllReady.nil)
                  go_simp
                  refine (HF2.out _).mono ?_
                  rintro e w7 ⟨rfl, hb7⟩
                  have HB7 := Lib.hid hb7; clear hb7
                  dsimp only
                  refine hK _ _ ?_; clear hK K
                  refine wpAny_ready (rs := [10]) (by kernel_rfl) (by simp) (AllReady.cons rfl (fun K hK => ?_) AllReady.nil)
                  go_simp
                  (first | (refine hK _ _ ?_; clear hK K) | skip)
                  refine wpAny_ready (rs := [11]) (by kernel_rfl) (by simp) (AllReady.cons rfl (fun K hK => ?_) AllReady.nil)
                  go_simp
                  (first | (refine hK _ _ ?_; clear hK K) | skip)
                  refine wpAny_done (by kernel_rfl) ?_ _
                  (go_wp2_with fail; go_ret; exact ⟨ret_bool HF.out.symm, HFIN.out _ (below_trans (below_trans HB5.out HB6.out) HB7.out)⟩)
                · go_simp
                  (first | (refine hK _ _ ?_; clear hK K) | skip)
                  refine wpAny_ready (rs := [6]) (by kernel_rfl) (by simp) (AllReady.cons rfl (fun K hK => ?_) AllReady.nil)
                  go_simp
                  refine (HSY.out _).mono ?_
                  rintro e w6 ⟨rfl, hb6⟩
                  have hc6 := (HS.out _ (below_trans (below_trans (below_drew _) HB5.out) hb6)).2
                  have HB6 := Lib.hid hb6; clear hb6
                  dsimp only
                  refine hK _ _ ?_; clear hK K
                  refine wpAny_ready (rs := [9]) (by kernel_rfl) (by simp) (AllReady.cons rfl (fun K hK => ?_) AllReady.nil)
                  go_simp
                  refine (HF2.out _).mono ?_
                  rintro e w7 ⟨rfl, hb7⟩
                  have HB7 := Lib.hid hb7; clear hb7
                  dsimp only
                  refine hK _ _ ?_; clear hK K
                  refine wpAny_ready (rs := [10]) (by kernel_rfl) (by simp) (AllReady.cons rfl (fun K hK => ?_) AllReady.nil)
                  go_simp
                  (first | (refine hK _ _ ?_; clear hK K) | skip)
                  refine wpAny_ready (rs := [11]) (by kernel_rfl) (by simp) (AllReady.cons rfl (fun K hK => ?_) AllReady.nil)
                  go_simp
                  (first | (refine hK _ _ ?_; clear hK K) | skip)
                  refine wpAny_done (by kernel_rfl) ?_ _
                  (go_wp2_with fail; go_ret; exact ⟨ret_bool HF.out.symm, HFIN.out _ (below_trans (below_trans HB5.out HB6.out) HB7.out)⟩)
              · go_simp
                (first | (refine hK _ _ ?_; clear hK K) | skip)
                refine wpAny_ready (rs := [5]) (by kernel_rfl) (by simp) (AllReady.cons rfl (fun K hK => ?_) AllReady.nil)
                go_simp
                (first | (refine hK _ _ ?_; clear hK K) | skip)
                refine wpAny_ready (rs := [6]) (by kernel_rfl) (by simp) (AllReady.cons rfl (fun K hK => ?_) AllReady.nil)
                go_simp
                refine (HSY.out _).mono ?_
                rintro e w6 ⟨rfl, hb6⟩
                have hc6 := (HS.out _ (below_trans (below_trans (below_drew _) HB5.out) hb6)).2
                have HB6 := Lib.hid hb6; clear hb6
                dsimp only
                refine hK _ _ ?_; clear hK K
                refine wpAny_ready (rs := [9]) (by kernel_rfl) (by simp) (AllReady.cons rfl (fun K hK => ?_) AllReady.nil)
                go_simp
                refine (HF2.out _).mono ?_
                rintro e w7 ⟨rfl, hb7⟩
                have HB7 := Lib.hid hb7; clear hb7
                dsimp only
                refine hK _ _ ?_; clear hK K
                refine wpAny_ready (rs := [10]) (by kernel_rfl) (by simp) (AllReady.cons rfl (fun K hK => ?_) AllReady.nil)
                go_simp
                (first | (refine hK _ _ ?_; clear hK K) | skip)
                refine wpAny_ready (rs := [11]) (by kernel_rfl) (by simp) (AllReady.cons rfl (fun K hK => ?_) AllReady.nil)
                go_simp
                (first | (refine hK _ _ ?_; clear hK K) | skip)
                refine wpAny_done (by kernel_rfl) ?_ _
                (go_wp2_with fail; go_ret; exact ⟨ret_bool HF.out.symm, HFIN.out _ (below_trans (below_trans HB5.out HB6.out) HB7.out)⟩)
end Go.Proofs.YtplcdofpikdigaaDoor
