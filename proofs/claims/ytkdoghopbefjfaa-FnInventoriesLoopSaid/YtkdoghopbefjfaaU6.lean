/- IsSelfTold on both sides, and the law. -/
import Derived.Test.YtkdoghopbefjfaaU5
import Derived.Deep.RegionHeld
namespace Go.Proofs.Ytkdoghopbefjfaa
open Go.RowKit Go.BigFrame
set_option linter.unusedSimpArgs false
set_option linter.unusedVariables false
set_option maxRecDepth 4000

theorem ti_inj {ps qs : List Nat} (h : ti ps = ti qs) : ps = qs := by
  have := congrArg (List.map Int.toNat) h
  simp only [ti, List.map_map] at this
  have e : ∀ l : List Nat, l.map (Int.toNat ∘ fun (n : Nat) => (n : Int)) = l := fun l => List.map_id l
  rw [e, e] at this
  exact this
/-- Is a list what is told of it? -/
def selfB (xs : List Int) : Bool := match tellO xs with
  | some t => decide (t = xs)
  | none => false
theorem selfB_ti {ns : List Nat} (h : tolL (ti ns) = true) : selfB (ti ns) = decide (tel ns.length ns = ns) := by
  unfold selfB
  rw [tellO_ti h]
  by_cases e : tel ns.length ns = ns
  · rw [decide_eq_true e]; exact decide_eq_true (by rw [e])
  · rw [decide_eq_false e]; exact decide_eq_false (fun h => e (ti_inj h))
theorem selfB_bad {xs : List Int} (h : tolL xs = false) : selfB xs = false := by
  unfold selfB tellO
  rw [if_neg (by rw [h]; simp)]

set_option maxHeartbeats 1000000 in
theorem l1Same_any (w : World) (Ba Bb : Nat) (va vb : Value) (xs ys : List Int) (ha : IntsA w Ba va xs) (hb : IntsA w Bb vb ys) (h1 : 1 ≤ xs.length) (hl : xs.length = ys.length) :
    Calls Try.prog 86 #[va, vb] w fun e w' => e = .returned (.bool (decide (xs = ys))) ∧ Below w.heap.size w w' := by
  obtain ⟨g, cap, rfl, hc1, hc2, _, hg, hca⟩ := intsA_at ha h1
  obtain ⟨g', cap', rfl, hc1', hc2', _, hg', hcb⟩ := intsA_at hb (by omega)
  have HA := Lib.hid hca; have HB := Lib.hid hcb
  obtain ⟨N, hN⟩ : ∃ N, N = xs.length := ⟨_, rfl⟩
  rw [← hl]
  rw [← hl] at hc1'
  have HN := Lib.hid hN; have HL := Lib.hid hl
  rw [← hN] at hc1 hc1' h1 ⊢
  have hne : ((N : Int) != (N : Int)) = false := by simp
  clear ha hb hca hcb hN hl
  go_enter Try.func86, Try.ntmps86
  go_wp2_with fail
  go_loopw [13] (fun i wr => ∃ (k : Nat), k ≤ N ∧ i = .int .i64 k ∧ Hid ((∀ j (hj : j < xs.length), j < k → xs[j] = ys.getD j 0) ∧ Below w.heap.size w wr)) (fun i _ => N - (intOf i).toNat)
  case atStart => exact ⟨0, Nat.zero_le _, rfl, fun j _ h => by omega, below_refl _⟩
  case round =>
    obtain ⟨k, hk, rfl, HW⟩ := hrel
    by_cases hlt : k < N
    · have hk1 : k < xs.length := by rw [← HN.out]; exact hlt
      have hk2 : k < ys.length := by rw [← HL.out]; exact hk1
      have h1 : wr.cell? ⟨g, k, none⟩ = some (.int .i64 xs[k]) := (HW.out.2.cell (p := ⟨g, k, none⟩) hg).trans (HA.out k hk1)
      have h2 : wr.cell? ⟨g', k, none⟩ = some (.int .i64 ys[k]) := (HW.out.2.cell (p := ⟨g', k, none⟩) hg').trans (HB.out k hk2)
      obtain ⟨x, hx⟩ : ∃ x, x = xs[k] := ⟨_, rfl⟩
      obtain ⟨y, hy⟩ : ∃ y, y = ys[k] := ⟨_, rfl⟩
      rw [← hx] at h1
      rw [← hy] at h2
      by_cases he : x = y
      · have hbe : (x != y) = false := by simpa using he
        have hnew : Hid (∀ j (hj : j < xs.length), j < k + 1 → xs[j] = ys.getD j 0) := fun j hj h => by
          by_cases e : j = k
          · subst e; rw [← hx, he, hy]; simp [List.getD_eq_getElem?_getD, hk2]
          · exact HW.out.1 j hj (by omega)
        clear hx hy he
        go_wp2_with fail
        go_quiet (fail)
        go_wp2_with fail
        go_roundw
        case rel => exact ⟨k + 1, by omega, by go_num, hnew.out, HW.out.2.trans (belowN _ _ _)⟩
        case measure => simp [intOf] <;> omega
      · have hbe : (x != y) = true := by simpa using he
        have hd : decide (xs = ys) = false := decide_eq_false (fun e => he (by rw [hx, hy]; subst e; rfl))
        have HD := Lib.hid hd
        clear hx hy he hd
        go_wp2_with fail
        go_quiet (fail)
        go_wp2_with fail
        go_ret
        exact ⟨by rw [HD.out]; rfl, HW.out.2.trans (belowN _ _ _)⟩
    · obtain rfl : k = N := by omega
      have hd : decide (xs = ys) = true := decide_eq_true (List.ext_getElem HL.out (fun j j1 j2 => by
        rw [HW.out.1 j j1 (by rw [HN.out]; exact j1)]
        simp [List.getD_eq_getElem?_getD, j2]))
      have HD := Lib.hid hd
      clear hd
      go_wp2_with fail
      go_ret
      exact ⟨by rw [HD.out]; rfl, HW.out.2⟩

set_option maxHeartbeats 1000000 in
theorem specIsSelfTold_any (w : World) (B : Nat) (v : Value) (xs : List Int) (ha : IntsA w B v xs) :
    Calls Try.prog 39 #[v] w fun e w' => e = .returned (.tuple #[.bool (selfB xs), .bool (tolL xs)]) ∧ Below w.heap.size w w' := by
  have hL := taList_any w B v xs ha
  cases ht : tolL xs with
  | false =>
    rw [ht] at hL
    rw [selfB_bad ht]
    obtain ⟨a, cap, rfl, _, _⟩ := intsA_slice ha
    have HL := Lib.hid hL; clear hL ha ht
    go_enter Try.func39, Try.ntmps39
    go_wp2_with fail
    refine HL.out.mono ?_
    rintro e w1 ⟨rfl, rfl⟩
    go_wp2_with fail
    go_ret2
    exact ⟨rfl, Below.refl _ _⟩
  | true =>
    rw [ht] at hL
    obtain ⟨ns, rfl, h1, h9, hle⟩ := tolL_nat ht
    have hT := taTell_any w B v ns ha h1 h9
    have hS : ∀ W v0, Below w.heap.size w W → IntsA W w.heap.size v0 (ti (tel ns.length ns)) → Calls Try.prog 86 #[v0, v] W fun e w' => e = .returned (.bool (selfB (ti ns))) ∧ Below W.heap.size W w' := by
      intro W v0 hb h0
      rw [selfB_ti ht]
      have := l1Same_any W _ _ v0 v _ _ h0 (intsA_below ha hb) (by rw [ti_len, tel_len]; exact h1) (by rw [ti_len, tel_len, ti_len])
      have e : decide (ti (tel ns.length ns) = ti ns) = decide (tel ns.length ns = ns) := by
        by_cases e : tel ns.length ns = ns
        · rw [decide_eq_true e]; exact decide_eq_true (by rw [e])
        · rw [decide_eq_false e]; exact decide_eq_false (fun h => e (ti_inj h))
      rw [e] at this
      exact this
    obtain ⟨sb, hsb⟩ : ∃ sb, sb = selfB (ti ns) := ⟨_, rfl⟩
    rw [← hsb] at hS ⊢
    obtain ⟨a, cap, rfl, _, _⟩ := intsA_slice ha
    have HL := Lib.hid hL; have HT := Lib.hid hT; have HS := Lib.hid hS; clear hL ha ht hT hS hsb
    go_enter Try.func39, Try.ntmps39
    go_wp2_with fail
    refine HL.out.mono ?_
    rintro e w1 ⟨rfl, rfl⟩
    go_wp2_with fail
    refine HT.out.mono ?_
    rintro e w1 ⟨g, rfl, ho, hb⟩
    have HO : Hid (IntsA w1 w.heap.size (.slice (some ⟨g, 0, none⟩) ns.length ns.length) (ti (tel ns.length ns))) := intsA_of (by
      rw [tvl_ti] at ho
      unfold Ints
      simpa [ti_len, tel_len] using ho)
    have HB := Lib.hid hb; clear ho hb
    go_wp2_with fail
    refine (HS.out w1 _ HB.out HO.out).mono ?_
    rintro e w2 ⟨rfl, hb⟩
    have HB2 := Lib.hid hb; clear hb
    go_wp2_with fail
    go_ret2
    exact ⟨rfl, below_trans HB.out HB2.out⟩

set_option maxHeartbeats 2000000 in
theorem implIsSelfTold_any (w : World) (B : Nat) (v : Value) (xs : List Int) (ha : IntsA w B v xs) :
    Calls Try.prog 38 #[v] w fun e w' => e = .returned (.tuple #[.bool (selfB xs), .bool (tolL xs)]) ∧ Below w.heap.size w w' := by
  have hL := tallyList_any w B v xs ha
  cases ht : tolL xs with
  | false =>
    rw [ht] at hL
    have hP : padO xs = zeros9 := by unfold padO; rw [if_neg (by rw [ht]; simp)]
    rw [hP] at hL
    rw [selfB_bad ht]
    obtain ⟨a, cap, rfl, _, _⟩ := intsA_slice ha
    have HL := Lib.hid hL; clear hL ha ht hP
    go_enter Try.func38, Try.ntmps38
    go_wp2_with fail
    refine HL.out.mono ?_
    rintro e w1 ⟨rfl, hb⟩
    have HB := Lib.hid hb; clear hb
    go_wp2_with (refine wpList_putT rfl _ _ rfl w1.heap.size rfl zeros9 zeros9 rfl ⟨heap_alloc_new _ _, rfl⟩ rfl ?_; intro w2 hB2 _ hbb _; have HB2 := Lib.hid ((below_alloc w1 _).trans (hbb _ (Nat.le_refl _))); clear hbb)
    clear hB2
    go_quiet (fail)
    go_wp2_with fail
    go_ret2
    exact ⟨rfl, below_trans HB.out (below_trans HB2.out (belowN _ _ _))⟩
  | true =>
    rw [ht] at hL
    obtain ⟨ns, rfl, h1, h9, hle⟩ := tolL_nat ht
    rw [padO_ti ht] at hL
    have hp9 := pad_len ns h9
    have hT := fun W => tellFirst_any (pad ns) ns.length W hp9 h9
    rw [pad_take] at hT
    have heq := fun W => run_eqlT W (pad ns) (telP ns.length ns) hp9 (telP_len _ _)
    have hb : decide (pad ns = telP ns.length ns) = selfB (ti ns) := by
      rw [selfB_ti ht, telP_pad ns _ h9]
      by_cases e : tel ns.length ns = ns
      · rw [decide_eq_true e]; exact decide_eq_true (by rw [e])
      · rw [decide_eq_false e]; exact decide_eq_false (fun h => e ((pad_inj (by rw [tel_len])).1 h).symm)
    rw [hb] at heq
    obtain ⟨sb, hsb⟩ : ∃ sb, sb = selfB (ti ns) := ⟨_, rfl⟩
    rw [← hsb] at heq ⊢
    obtain ⟨ts, hts⟩ : ∃ ts, ts = pad ns := ⟨_, rfl⟩
    obtain ⟨us, hus⟩ : ∃ us, us = telP ns.length ns := ⟨_, rfl⟩
    rw [← hts] at hL hT heq hp9
    rw [← hus] at hT heq
    obtain ⟨a, cap, hv, _, _⟩ := intsA_slice ha
    rw [ti_len] at hv
    subst hv
    have HL := Lib.hid hL; have HT := Lib.hid hT; have HEQ := Lib.hid heq; clear hL ha ht hT hb hsb hts hus heq
    go_enter Try.func38, Try.ntmps38
    go_wp2_with fail
    refine HL.out.mono ?_
    rintro e w1 ⟨rfl, hb⟩
    have HB := Lib.hid hb; clear hb
    go_wp2_with (refine wpList_putT rfl _ _ rfl w1.heap.size rfl zeros9 ts rfl ⟨heap_alloc_new _ _, rfl⟩ hp9 ?_; intro w2 hB2 _ hbb _; have HB2 := Lib.hid ((below_alloc w1 _).trans (hbb _ (Nat.le_refl _))); clear hbb)
    have HBT := Lib.hid hB2; clear hB2
    have hu52 := under_tally
    have hi52 : (Try.prog.info? 65).map (·.size) = some (tvl ts).length := by rw [tvl_len, HBT.out.2]; exact info_tally
    have hrg : ∀ W, BlkT W w1.heap.size ts → W.rangeAt w1.heap.size 0 (tvl ts) := fun W h j v hv => by
      rw [Nat.zero_add, cell_of_row W _ j _ _ _ h.1]; simpa [tvA] using hv
    have hs0 : w2.drew.rangeAt w1.heap.size 0 (tvl ts) := hrg _ (blkT_below HBT.out (below_drew _))
    have hs3 : ∀ w3, Below w2.drew.heap.size w2.drew w3 → w3.rangeAt w1.heap.size 0 (tvl ts) := fun w3 h => hrg _ (blkT_below HBT.out (below_trans (below_drew _) h))
    have HS3 := Lib.hid hs3; clear hrg hs3
    have heq : ∀ W, (binOp .eql 65 (.agg (tvl ts).toArray) (.agg (tvA us))).run Try.prog W = .ok (.bool sb) W := HEQ.out
    have hT : ∀ W, Calls Try.prog 83 #[.agg (tvl ts).toArray, .int .i64 ns.length] W fun e w' => e = .returned (.agg (tvA us)) ∧ Below W.heap.size W w' := HT.out
    have HT2 := Lib.hid hT; clear hT
    refine wp_region_held_drew (S := fun w' => w'.rangeAt w1.heap.size 0 (tvl ts)) (by kernel_rfl) hs0 (fun hHeld => ?_)
    refine wpAnyH_take (i := 0) (v := .bool true) rfl (by kernel_rfl) (by kernel_rfl) (by kernel_rfl) (fun _ _ _ h => h) (Or.inl ⟨by rfl, fun w hw => by first | rfl | (go_simp; done) | (go_simp; rfl)⟩) hHeld ?_
    simp only [Act.put, List.setIfInBounds_toArray, List.set_cons_zero, List.set_cons_succ]
    refine wpAnyH_take (i := 1) (v := .bool true) rfl (by kernel_rfl) (by kernel_rfl) (by kernel_rfl) (fun _ _ _ h => h) (Or.inl ⟨by rfl, fun w hw => by first | rfl | (go_simp; done) | (go_simp; rfl)⟩) hHeld ?_
    simp only [Act.put, List.setIfInBounds_toArray, List.set_cons_zero, List.set_cons_succ]
    refine wpAnyH_take (i := 2) (v := .agg (tvl ts).toArray) rfl (by kernel_rfl) (by kernel_rfl) (by kernel_rfl) (fun _ _ _ h => h) (yieldsIf_load_mid (by rfl) 65 _ rfl w1.heap.size 0 rfl (tvl ts) _ (fun w hw => hw) hu52 rfl hi52) hHeld ?_
    simp only [Act.put, List.setIfInBounds_toArray, List.set_cons_zero, List.set_cons_succ]
    refine wpAnyH_take (i := 3) (v := .agg (tvl ts).toArray) rfl (by kernel_rfl) (by kernel_rfl) (by kernel_rfl) (fun _ _ _ h => h) (yieldsIf_load_mid (by rfl) 65 _ rfl w1.heap.size 0 rfl (tvl ts) _ (fun w hw => hw) hu52 rfl hi52) hHeld ?_
    simp only [Act.put, List.setIfInBounds_toArray, List.set_cons_zero, List.set_cons_succ]
    refine wpAnyH_take (i := 4) (v := .slice a ns.length cap) rfl (by kernel_rfl) (by kernel_rfl) (by kernel_rfl) (fun _ _ _ h => h) (Or.inl ⟨by rfl, fun w hw => by first | rfl | (go_simp; done) | (go_simp; rfl)⟩) hHeld ?_
    simp only [Act.put, List.setIfInBounds_toArray, List.set_cons_zero, List.set_cons_succ]
    refine wpAnyH_take (i := 5) (v := .int .i64 (ns.length : Int)) rfl (by kernel_rfl) (by kernel_rfl) (by kernel_rfl) (fun _ _ _ h => h) (Or.inl ⟨by rfl, fun w hw => by first | rfl | (go_simp; done) | (go_simp; rfl)⟩) hHeld ?_
    simp only [Act.put, List.setIfInBounds_toArray, List.set_cons_zero, List.set_cons_succ]
    refine wpAnyH_take (i := 9) (v := .bool true) rfl (by kernel_rfl) (by kernel_rfl) (by kernel_rfl) (fun _ _ _ h => h) (Or.inl ⟨by rfl, fun w hw => by first | rfl | (go_simp; done) | (go_simp; rfl)⟩) hHeld ?_
    simp only [Act.put, List.setIfInBounds_toArray, List.set_cons_zero, List.set_cons_succ]
    refine wpAnyH_ready (rs := [6]) (by kernel_rfl) (by simp) (AllReadyH.cons rfl (fun K hK => ?_) AllReadyH.nil)
    go_simp
    go_at_call 83
    refine (HT2.out _).mono ?_
    rintro e w3 ⟨rfl, hb3⟩
    refine hK.out _ _ (HS3.out w3 hb3) (fun hHeld3 => ?_)
    clear hK K
    try simp only [Act.put, List.setIfInBounds_toArray, List.set_cons_zero, List.set_cons_succ]
    refine wpAnyH_take (i := 7) (v := .bool sb) rfl (by kernel_rfl) (by kernel_rfl) (by kernel_rfl) (fun _ _ _ h => h) (Or.inl ⟨by rfl, fun w hw => by first | rfl | (go_simp; done) | (go_simp; rfl)⟩) hHeld3 ?_
    simp only [Act.put, List.setIfInBounds_toArray, List.set_cons_zero, List.set_cons_succ]
    refine wpAnyH_take (i := 8) (v := .bool sb) rfl (by kernel_rfl) (by kernel_rfl) (by kernel_rfl) (fun _ _ _ h => h) (Or.inl ⟨by rfl, fun w hw => by first | rfl | (go_simp; done) | (go_simp; rfl)⟩) hHeld3 ?_
    simp only [Act.put, List.setIfInBounds_toArray, List.set_cons_zero, List.set_cons_succ]
    refine wpAnyH_ready (rs := [10]) (by kernel_rfl) (by simp) (AllReadyH.cons rfl (fun K hK => ?_) AllReadyH.nil)
    go_simp
    refine hK.out _ _ hHeld3 (fun _ => ?_)
    clear hK K
    try simp only [Act.put, List.setIfInBounds_toArray, List.set_cons_zero, List.set_cons_succ]
    refine wpAnyH_ready (rs := [11]) (by kernel_rfl) (by simp) (AllReadyH.cons rfl (fun K hK => ?_) AllReadyH.nil)
    go_simp
    refine hK.out _ _ hHeld3 (fun _ => ?_)
    clear hK K
    try simp only [Act.put, List.setIfInBounds_toArray, List.set_cons_zero, List.set_cons_succ]
    refine wpAnyH_done (by kernel_rfl) ?_ _
    go_wp2_with fail
    go_ret2
    exact ⟨rfl, below_trans HB.out (below_trans HB2.out (below_trans (below_drew _) hb3))⟩

end Go.Proofs.Ytkdoghopbefjfaa
