/- Chapter 6: append of one number to a row of the call's own; all distances back, on both sides. -/
import Derived.Test.YtpglkgpaaflikaaY2
namespace Go.Proofs.Ytpglkgpaaflikaa
open Go.RowKit Go.BigFrame Go.Maps
set_option linter.unusedSimpArgs false
set_option linter.unusedVariables false
set_option maxRecDepth 4000

/-- A row and whether it is one. -/
def IntsAOk (o : Option (List Int)) (w w' : World) (e : Ending) : Prop :=
  ∃ v, e = .returned (.tuple #[v, .bool o.isSome]) ∧ IntsA w' w.heap.size v (o.getD []) ∧ Below w.heap.size w w' ∧ (o = none → v = .slice none 0 0)
theorem slice_ne {g k n c : Nat} (h : g ≠ k) : (Value.slice (some ⟨g, 0, none⟩) n c).ownBlock ≠ some k := by
  intro e; exact h (Option.some.inj e)

/-- append(out, y), out a row of the call's own that may grow. -/
theorem wpI_app {ops : Array Oper} {rest : List Oper} {o : Oper} {a : Act} {Q : Exit → Act → World → Prop} (W : World) (hgd : o.guard = none) (s x : Operand)
    (ho : o.op = .call { callee := .builtin .append, args := #[s, x], argTypes := #[22, 22] })
    (n0 : World) {v : Value} {xs : List Int} (y : Int) (h : Ints W n0.heap.size v xs) (hs : a.eval s = v) (hx : a.eval x = .slice (some ⟨W.heap.size, 0, none⟩) 1 1) (hb : Below n0.heap.size n0 W) (hl : xs.length ≤ 1000000)
    (hK : ∀ v' w', Ints w' n0.heap.size v' (xs ++ [y]) → Below n0.heap.size n0 w' → (∀ g, g < W.heap.size → v.ownBlock ≠ some g → w'.heap[g]? = W.heap[g]?) → W.heap.size ≤ w'.heap.size → (v'.ownBlock = v.ownBlock ∨ ∃ g, v'.ownBlock = some g ∧ W.heap.size ≤ g) → wpList Try.prog ops Q rest (a.put o.dst v') w') :
    wpList Try.prog ops Q (o :: rest) a (W.alloc (.cells #[.int .i64 y] 3)) := by
  obtain ⟨i0, hi, hz0, hz1, hz2⟩ := info_parts info_intT
  have hsz := hb.size
  refine wpList_app _ hgd s x 22 ho n0.heap.size 3 i0 (.int .i64 0) 8 Try.underlying22 hi hz0 hz1 hz2 rfl v xs.length _ hs (World.ownsRow.alloc h _) ⟨W.heap.size, 0, none⟩ 1 1 [.int .i64 y] hx rfl (cell_one_new _ _ _) (by simp [Value.oneCell']) (by unfold maxLen; omega) (by omega) (by simp; omega) ?_
  intro v' w' ho' hgr hwh
  refine hK v' w' ?_ ((hb.alloc hb.size _).grown hgr (by simp; omega) (fun g hg => (h.lt g hg).1)) (fun g hg hne => (hgr.block g (by simp; omega) hne.symm).trans (heap_alloc_old _ _ hg)) ?_ ?_
  · unfold Ints; simpa using ho'
  · have := hgr.size; simp at this; omega
  · rcases hwh with e | e
    · exact .inl e
    · exact .inr ⟨_, e, by simp⟩
/-- append(out, y) within the capacity. -/
theorem wpI_fits {ops : Array Oper} {rest : List Oper} {o : Oper} {a : Act} {Q : Exit → Act → World → Prop} (W : World) (hgd : o.guard = none) (s x : Operand)
    (ho : o.op = .call { callee := .builtin .append, args := #[s, x], argTypes := #[22, 22] })
    (n0 : World) {g k cap : Nat} {xs : List Int} (y : Int) (h : Ints W n0.heap.size (.slice (some ⟨g, 0, none⟩) k cap) xs) (hs : a.eval s = .slice (some ⟨g, 0, none⟩) k cap) (hx : a.eval x = .slice (some ⟨W.heap.size, 0, none⟩) 1 1) (hk : xs.length = k) (hb : Below n0.heap.size n0 W) (hl : k + 1 ≤ cap)
    (hK : ∀ w', Ints w' n0.heap.size (.slice (some ⟨g, 0, none⟩) (k + 1) cap) (xs ++ [y]) → Below n0.heap.size n0 w' → (∀ j, j < W.heap.size → j ≠ g → w'.heap[j]? = W.heap[j]?) → W.heap.size ≤ w'.heap.size → wpList Try.prog ops Q rest (a.put o.dst (.slice (some ⟨g, 0, none⟩) (k + 1) cap)) w') :
    wpList Try.prog ops Q (o :: rest) a (W.alloc (.cells #[.int .i64 y] 3)) := by
  obtain ⟨i0, hi, hz0, hz1, hz2⟩ := info_parts info_intT
  have hsz := hb.size
  subst hk
  refine wpList_append_fits _ hgd s x 22 ho n0.heap.size 3 i0 1 Try.underlying22 hi hz1 g xs.length cap _ hs (World.ownsRow.alloc h _) ⟨W.heap.size, 0, none⟩ 1 1 [.int .i64 y] hx rfl (cell_one_new _ _ _) (by simp [Value.oneCell']) hl ?_
  intro w' ho' hgr
  refine hK w' ?_ ((hb.alloc hb.size _).grown hgr (by simp; omega) (fun j hj => by cases hj; exact (h.lt g rfl).1)) (fun j hj hne => (hgr.block j (by simp; omega) (fun e => hne (Option.some.inj e))).trans (heap_alloc_old _ _ hj)) ?_
  · unfold Ints; simpa using ho'
  · have := hgr.size; simp at this; omega

set_option maxHeartbeats 2000000 in
theorem distancesBack_any (w : World) (B : Nat) (v : Value) (xs : List Int) (ha : IntsA w B v xs) (hp : plL xs = true) :
    Calls Try.prog 54 #[v] w fun e w' => e = .returned (.slice (some ⟨w.heap.size, 0, none⟩) xs.length xs.length) ∧ Ints w' w.heap.size (.slice (some ⟨w.heap.size, 0, none⟩) xs.length xs.length) (bkL xs) ∧ Below w.heap.size w w' := by
  obtain ⟨i0, hi, hz0, hz1, hz2⟩ := info_parts info_intT
  obtain ⟨h1, h60, hin⟩ := plL_open hp
  obtain ⟨g, cap, rfl, hc1, hc2, _, hg, hce⟩ := intsA_at ha h1
  have HC := Lib.hid hce; have HIN := Lib.hid hin
  obtain ⟨N, hN⟩ : ∃ N, N = xs.length := ⟨_, rfl⟩
  have HN := Lib.hid hN
  rw [← hN] at hc1 h1 h60 ⊢
  clear ha hce hN hin hp
  go_enter Try.func54, Try.ntmps54
  go_wp2_with (refine wpList_make_own _ rfl _ _ 22 rfl w.heap.size 3 i0 (.int .i64 0) 1 Try.underlying22 hi hz0 hz1 .i64 .i64 (N : Int) N rfl rfl rfl (by rw [hz2]; omega) (by unfold maxLen; omega) (Nat.le_refl _) ?_; intro w1 hown hgr; have HO := Lib.hid hown; have HB := Lib.hid ((Below.refl w.heap.size w).grown hgr (Nat.le_refl _) (fun k h => by cases h)); clear hown hgr)
  refine (lastPlaces_any w1 (sq xs)).mono ?_
  rintro e w2 ⟨rfl, hl, hb⟩
  have hlt : w.heap.size < w1.heap.size := (HO.out.lt w.heap.size rfl).2
  have HO2 := Lib.hid (own_below HO.out hb); have HL2 := Lib.hid hl; have HB2 := Lib.hid (below_trans HB.out hb)
  clear hl hb
  go_wp2_with fail
  go_loopw [3, 13] (fun ov iv wr => ∃ k : Nat, k ≤ N ∧ ov = .slice (some ⟨w.heap.size, 0, none⟩) k N ∧ iv = .int .i64 k ∧ Hid (Ints wr w.heap.size (.slice (some ⟨w.heap.size, 0, none⟩) k N) (upL (bkS xs) k) ∧ LastAt wr w1.heap.size (w1.heap.size + 2) (w1.heap.size + 1) w1.heap.size k (sq xs) ∧ w1.heap.size ≤ wr.heap.size ∧ Below w.heap.size w wr)) (fun _ iv _ => N - (intOf iv).toNat)
  case atStart => exact ⟨0, Nat.zero_le _, rfl, rfl, HO2.out, HL2.out, by have := HL2.out; obtain ⟨_, _, _, _, _, h, _⟩ := this; omega, HB2.out⟩
  case round =>
    obtain ⟨k, hk, rfl, rfl, HX⟩ := hrel
    by_cases hlt2 : k < N
    · have hk' : k < xs.length := by rw [← HN.out]; exact hlt2
      obtain ⟨x0, x9⟩ := HIN.out k hk'
      have h2 : wr.cell? ⟨g, k, none⟩ = some (.int .i64 xs[k]) := (HX.out.2.2.2.cell (p := ⟨g, k, none⟩) hg).trans (HC.out k hk')
      have hsx : sq xs k = xs[k] := sq_at hk'
      obtain ⟨x, hx⟩ : ∃ x, x = xs[k] := ⟨_, rfl⟩
      rw [← hx] at h2 x0 x9 hsx
      have HSX := Lib.hid hsx
      clear hx hsx
      go_wp2_with fail
      refine (last1_any wr w1.heap.size _ _ _ k (sq xs) x HX.out.2.1 HSX.out (by omega) (by omega) (by omega) HX.out.2.2.1).mono ?_
      rintro e w3 ⟨rfl, hl3, hb3, hk3⟩
      have hrow3 : Ints w3 w.heap.size (.slice (some ⟨w.heap.size, 0, none⟩) k N) (upL (bkS xs) k) := own_block HX.out.1 (fun j hj => by
        cases hj
        exact hk3 w.heap.size (by omega) (by omega) (HX.out.1.lt w.heap.size rfl).2)
      have HL3 := Lib.hid hl3; have HR3 := Lib.hid hrow3; have HB3 := Lib.hid (HX.out.2.2.2.trans (hb3.mono (Nat.le_of_lt hlt))); have HS3 := Lib.hid (Nat.le_trans HX.out.2.2.1 hb3.size)
      clear hl3 hb3 hk3 hrow3
      go_wp2_with (at_builtin; refine wpI_fits w3 rfl _ _ rfl w ((bk (sq xs) k : Nat) : Int) HR3.out rfl rfl (upL_len _ _) HB3.out (by omega) ?_; intro w4 ho4 hb4 hk4 hs4; have HO4 := Lib.hid ho4; have HB4 := Lib.hid hb4; have HK4 := Lib.hid hk4; have HS4 := Lib.hid hs4; clear ho4 hb4 hk4 hs4)
      go_roundw
      case rel =>
        refine ⟨k + 1, by omega, rfl, by go_num, by rw [upL_succ]; exact HO4.out, HL3.out.keep HS4.out (fun j h1 h2 _ => HK4.out j h2 (by omega)), Nat.le_trans HS3.out HS4.out, HB4.out⟩
      case measure => simp [intOf] <;> omega
    · obtain rfl : k = N := by omega
      go_wp2_with fail
      go_ret
      refine ⟨rfl, ?_, HX.out.2.2.2⟩
      unfold bkL
      rw [← HN.out]
      exact HX.out.1

set_option maxHeartbeats 2000000 in
theorem plBackQ_any (w : World) (B : Nat) (v : Value) (xs : List Int) (i : Nat) (ha : IntsA w B v xs) (hi : i < xs.length) (h9 : xs.length ≤ 100000) :
    Calls Try.prog 81 #[v, .int .i64 i] w fun e w' => e = .returned (.int .i64 ((bk (sq xs) i : Nat) : Int)) ∧ ∃ m, w' = w.drewN m := by
  obtain ⟨g, cap, rfl, hc1, hc2, _, hg, hce⟩ := intsA_at ha (by omega)
  have HC := Lib.hid hce
  obtain ⟨N, hN⟩ : ∃ N, N = xs.length := ⟨_, rfl⟩
  have HN := Lib.hid hN
  have hsi : sq xs i = xs[i] := sq_at hi
  have hci := hce i hi
  obtain ⟨y, hy⟩ : ∃ y, y = xs[i] := ⟨_, rfl⟩
  rw [← hy] at hsi hci
  have HSI := Lib.hid hsi; have HCI := Lib.hid hci
  rw [← hN] at hc1 h9 hi ⊢
  clear ha hce hN hy hsi hci
  go_enter Try.func81, Try.ntmps81
  go_wp2_with fail
  go_loopw [5] (fun kv wr => ∃ k m : Nat, k ≤ i ∧ kv = .int .i64 ((k : Int) - 1) ∧ wr = w.drewN m ∧ Hid (lst (sq xs) y i = lst (sq xs) y k)) (fun kv _ => (intOf kv + 1).toNat)
  case atStart => exact ⟨i, 0, Nat.le_refl _, rfl, (World.drewN_zero w).symm, Lib.hid rfl⟩
  case round =>
    obtain ⟨k, mm, hk, rfl, rfl, HX⟩ := hrel
    rcases k with _ | k
    · have hfin : (bk (sq xs) i : Nat) = 0 := by unfold bk; rw [HSI.out, if_pos (by rw [HX.out]; rfl)]
      have HF := Lib.hid hfin; clear hfin
      go_wp2_with fail
      go_ret
      exact ⟨ret_int (by rw [HF.out]; rfl), mm, rfl⟩
    · have hk' : k < xs.length := by rw [← HN.out]; omega
      have e1 : (((k + 1 : Nat) : Int) - 1) = (k : Int) := by omega
      rw [e1]
      have h2 : w.cell? ⟨g, k, none⟩ = some (.int .i64 xs[k]) := HC.out k hk'
      have h3 : w.cell? ⟨g, i, none⟩ = some (.int .i64 y) := HCI.out
      have hsx : sq xs k = xs[k] := sq_at hk'
      obtain ⟨x, hx⟩ : ∃ x, x = xs[k] := ⟨_, rfl⟩
      rw [← hx] at h2 hsx
      clear hx e1
      by_cases he : x = y
      · have hbe : (x == y) = true := by simpa using he
        have hl : lst (sq xs) y i = k + 1 := by rw [HX.out]; unfold lst; rw [if_pos (hsx.trans he)]
        have hfin : (bk (sq xs) i : Nat) = i - k := by unfold bk; rw [HSI.out, hl, if_neg (by omega)]; omega
        have HF := Lib.hid hfin
        clear hsx he hl hfin
        go_wp2_with fail
        go_quiet (fail)
        go_wp2_with fail
        go_ret
        exact ⟨ret_int (by rw [HF.out]; omega), _, rfl⟩
      · have hbe : (x == y) = false := by simpa using he
        have hl : lst (sq xs) y i = lst (sq xs) y k := by rw [HX.out]; show (if sq xs k = y then k + 1 else lst (sq xs) y k) = _; rw [if_neg (fun e => he (hsx.symm.trans e))]
        have HL := Lib.hid hl
        clear hsx he hl
        go_wp2_with fail
        go_quiet (fail)
        go_wp2_with fail
        go_roundw
        case rel => exact ⟨k, _, by omega, by go_num, rfl, HL⟩
        case measure => simp [intOf] <;> omega

theorem plBack_any (w : World) (B : Nat) (v : Value) (xs : List Int) (i : Nat) (ha : IntsA w B v xs) (hi : i < xs.length) (h9 : xs.length ≤ 100000) :
    Calls Try.prog 81 #[v, .int .i64 i] w fun e w' => e = .returned (.int .i64 ((bk (sq xs) i : Nat) : Int)) ∧ Below w.heap.size w w' :=
  (plBackQ_any w B v xs i ha hi h9).mono fun e w' ⟨h, m, hm⟩ => ⟨h, hm ▸ belowN _ _ _⟩

set_option maxHeartbeats 2000000 in
theorem plBacks_any (w : World) (B : Nat) (v : Value) (xs : List Int) (ha : IntsA w B v xs) (h1 : 1 ≤ xs.length) (h9 : xs.length ≤ 100000) :
    Calls Try.prog 56 #[v] w fun e w' => ∃ u, e = .returned u ∧ Ints w' w.heap.size u (bkL xs) ∧ Below w.heap.size w w' := by
  obtain ⟨a, cap, hv, hcp, hn⟩ := intsA_slice ha
  have HA := Lib.hid (fun (i : Nat) (W : World) (hb : Below w.heap.size w W) (hi : i < xs.length) => plBack_any W B v xs i (intsA_below ha hb) hi h9)
  obtain ⟨N, hN⟩ : ∃ N, N = xs.length := ⟨_, rfl⟩
  have HN := Lib.hid hN
  rw [← hN] at h1 h9 hv
  subst hv
  clear ha hN
  go_enter Try.func56, Try.ntmps56
  go_wp2_with fail
  go_loopw [3, 7] (fun ov iv wr => ∃ k : Nat, k ≤ N ∧ iv = .int .i64 k ∧ Hid (Ints wr w.heap.size ov (upL (bkS xs) k) ∧ Below w.heap.size w wr)) (fun _ iv _ => N - (intOf iv).toNat)
  case atStart => exact ⟨0, Nat.zero_le _, rfl, World.ownsRow_nil _ _ _ _, Below.refl _ _⟩
  case round =>
    obtain ⟨k, hk, rfl, HX⟩ := hrel
    by_cases hlt : k < N
    · have hcall := HA.out k wr HX.out.2 (by rw [← HN.out]; exact hlt)
      have HCALL := Lib.hid hcall; clear hcall
      go_wp2_with fail
      refine HCALL.out.mono ?_
      rintro e w2 ⟨rfl, hb2⟩
      have HR2 := Lib.hid (own_below HX.out.1 hb2); have HB2 := Lib.hid (below_trans HX.out.2 hb2)
      clear hb2
      go_wp2_with (at_builtin; refine wpI_app w2 rfl _ _ rfl w ((bk (sq xs) k : Nat) : Int) HR2.out rfl rfl HB2.out (by rw [upL_len]; omega) ?_; intro v4 w4 ho4 hb4 hk4 hs4 hw4; have HO4 := Lib.hid ho4; have HB4 := Lib.hid hb4; clear ho4 hb4 hk4 hs4 hw4)
      go_roundw
      case rel => exact ⟨k + 1, by omega, by go_num, by rw [upL_succ]; exact HO4.out, HB4.out⟩
      case measure => simp [intOf] <;> omega
    · obtain rfl : k = N := by omega
      go_wp2_with fail
      go_ret
      refine ⟨_, rfl, ?_, HX.out.2⟩
      unfold bkL
      rw [← HN.out]
      exact HX.out.1
end Go.Proofs.Ytpglkgpaaflikaa
