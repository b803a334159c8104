/- The laws' helpers at rows of numbers: fSame, fSum, fLess, fLists. -/
import Derived.Test.YtkdoghopbefjfaaUa
import Derived.Test.YtkdoghopbefjfaaU7
import Derived.Deep.QuietTactic
namespace Go.Proofs.Ytkdoghopbefjfaa
open Go.RowKit Go.BigFrame
set_option linter.unusedSimpArgs false
set_option linter.unusedVariables false
set_option maxRecDepth 4000

theorem argL_open {w : World} {v : Value} {xs : List Int} (h : ArgL w v xs) : (∃ A C, v = .slice A 0 C ∧ xs = []) ∨
    ∃ g o cap, v = .slice (some ⟨g, o, none⟩) xs.length cap ∧ xs.length ≤ 9223372036854775807 ∧ cap ≤ 9223372036854775807 ∧ g < w.heap.size ∧ (∀ i (hi : i < xs.length), w.cell? ⟨g, o + i, none⟩ = some (.int .i64 xs[i])) := by
  by_cases h1 : 1 ≤ xs.length
  · obtain ⟨g, o, cap, e1, e2, e3, e4, e5⟩ := argL_at h h1
    exact .inr ⟨g, o, cap, e1, by omega, e3, e4, e5⟩
  · have h0 : xs = [] := List.eq_nil_of_length_eq_zero (by omega)
    subst h0
    obtain ⟨A, C, h2, _⟩ := argL_slice h
    exact .inl ⟨A, C, h2, rfl⟩

set_option maxHeartbeats 1000000 in
theorem fSame_any (w : World) (va vb : Value) (xs ys : List Int) (ha : ArgL w va xs) (hb : ArgL w vb ys) :
    Calls Try.prog 18 #[va, vb] w fun e w' => e = .returned (.bool (decide (xs = ys))) ∧ ∃ m, w' = w.drewN m := by
  by_cases hl : xs.length = ys.length
  · rcases argL_open ha with ⟨A0, C0, rfl, rfl⟩ | ⟨g, o, cap, rfl, hn, hcp, hg, hca⟩
    · have hy0 : ys = [] := List.eq_nil_of_length_eq_zero hl.symm
      subst hy0
      obtain ⟨A, C, rfl, _⟩ := argL_slice hb
      clear ha hb hl
      go_enter Try.func18, Try.ntmps18
      go_wp2_with fail
      refine wp_loop_rounds 1 ?_
      rw [rounds_succ]
      go_wp2
      go_ret
      exact ⟨rfl, 0, (World.drewN_zero w).symm⟩
    · rcases argL_open hb with ⟨A1, C1, rfl, h0⟩ | ⟨g', o', cap', rfl, _, hcp', hg', hcb⟩
      · subst h0
        have hx0 : xs = [] := List.eq_nil_of_length_eq_zero hl
        subst hx0
        clear ha hb hl
        go_enter Try.func18, Try.ntmps18
        go_wp2_with fail
        refine wp_loop_rounds 1 ?_
        rw [rounds_succ]
        go_wp2
        go_ret
        exact ⟨rfl, 0, (World.drewN_zero w).symm⟩
      · have HA := Lib.hid hca; have HB := Lib.hid hcb
        obtain ⟨N, hN⟩ : ∃ N, N = xs.length := ⟨_, rfl⟩
        have HN := Lib.hid hN
        have HL := Lib.hid hl
        clear ha hb hca hcb
        rw [← hl, ← hN]
        rw [← hN] at hn
        have hne : ((N : Int) != (N : Int)) = false := by simp
        clear hN hl
        go_enter Try.func18, Try.ntmps18
        go_wp2_with fail
        go_loopw [13] (fun i wr => ∃ (k m : Nat), k ≤ N ∧ i = .int .i64 k ∧ wr = w.drewN m ∧ Hid (xs.take k = ys.take k)) (fun i _ => N - (intOf i).toNat)
        case atStart => exact ⟨0, 0, Nat.zero_le _, rfl, (World.drewN_zero w).symm, Lib.hid rfl⟩
        case round =>
          obtain ⟨k, mm, hk, rfl, rfl, HT⟩ := hrel
          by_cases hlt : k < N
          · have hkx : k < xs.length := by rw [← HN.out]; exact hlt
            have hky : k < ys.length := by rw [← HL.out]; exact hkx
            have h1 : w.cell? ⟨g, o + k, none⟩ = some (.int .i64 xs[k]) := HA.out k hkx
            have h2 : w.cell? ⟨g', o' + k, none⟩ = some (.int .i64 ys[k]) := HB.out k hky
            obtain ⟨x, hx⟩ : ∃ x, x = xs[k] := ⟨_, rfl⟩
            obtain ⟨y, hy⟩ : ∃ y, y = ys[k] := ⟨_, rfl⟩
            rw [← hx] at h1
            rw [← hy] at h2
            have HX := Lib.hid hx; have HY := Lib.hid hy
            clear hx hy
            by_cases hxy : x = y
            · have hb : (x != y) = false := by simp [hxy]
              have HXY := Lib.hid hxy
              clear hxy
              go_wp2_with fail
              go_quiet (fail)
              go_wp2_with fail
              go_roundw
              case rel => exact ⟨k + 1, _, by omega, by go_num, rfl, Lib.hid (by rw [List.take_succ_eq_append_getElem hkx, List.take_succ_eq_append_getElem hky, HT.out, ← HX.out, ← HY.out, HXY.out])⟩
              case measure => simp [intOf] <;> omega
            · have hb : (x != y) = true := by simp [hxy]
              have hd : decide (xs = ys) = false := decide_eq_false (fun e => by
                apply hxy
                rw [HX.out, HY.out]
                subst e; rfl)
              have HD := Lib.hid hd
              clear hxy hd
              go_wp2_with fail
              go_quiet (fail)
              go_wp2_with fail
              go_ret
              exact ⟨congrArg (fun b => Ending.returned (.bool b)) HD.out.symm, _, World.drewN_drewN _ _ _⟩
          · obtain rfl : k = N := by omega
            have hd : decide (xs = ys) = true := decide_eq_true (by
              have := HT.out
              rw [List.take_of_length_le (by rw [HN.out]; exact Nat.le_refl _), List.take_of_length_le (by rw [HN.out, HL.out]; exact Nat.le_refl _)] at this
              exact this)
            have HD := Lib.hid hd
            clear hd
            go_wp2_with fail
            go_ret
            exact ⟨congrArg (fun b => Ending.returned (.bool b)) HD.out.symm, _, rfl⟩
  · have hd : decide (xs = ys) = false := decide_eq_false (fun e => hl (by rw [e]))
    obtain ⟨A, C, rfl, hc1, hc2⟩ := argL_slice ha
    obtain ⟨A', C', rfl, hc3, hc4⟩ := argL_slice hb
    have hne : (((xs.length : Nat) : Int) != ((ys.length : Nat) : Int)) = true := by simp; omega
    rw [hd]
    clear ha hb hd hl
    go_enter Try.func18, Try.ntmps18
    go_wp2_with fail
    go_ret
    exact ⟨rfl, 0, (World.drewN_zero w).symm⟩

def lesT : List Int → List Int → Bool
  | [], [] => false
  | [], _ :: _ => true
  | _ :: _, [] => false
  | a :: s, b :: t => if a = b then lesT s t else decide (a < b)
theorem sumN_succ (xs : List Nat) (k : Nat) (h : k < xs.length) : (xs.take (k + 1)).sum = (xs.take k).sum + xs[k] := by
  rw [List.take_succ_eq_append_getElem h, List.sum_append]; simp
theorem sumN_le (xs : List Nat) (m : Nat) (h : ∀ x ∈ xs, x ≤ m) : ∀ k, (xs.take k).sum ≤ m * k
  | 0 => by simp
  | k + 1 => by
    have ih := sumN_le xs m h k
    by_cases hk : k < xs.length
    · rw [sumN_succ xs k hk, Nat.mul_succ]
      have := h _ (List.getElem_mem hk)
      omega
    · rw [List.take_of_length_le (by omega)] at ih ⊢
      rw [Nat.mul_succ]; omega
set_option maxHeartbeats 1000000 in
theorem fSum_any (w : World) (v : Value) (ns : List Nat) (ha : ArgL w v (ti ns)) (hl : ns.length ≤ 100) (hx : ∀ x ∈ ns, x ≤ 1000) :
    Calls Try.prog 20 #[v] w fun e w' => e = .returned (.int .i64 ((ns.sum : Nat) : Int)) ∧ w = w' := by
  rcases argL_open ha with ⟨A0, C0, rfl, h0⟩ | ⟨g, o, cap, rfl, hn, hcp, hg, hca⟩
  · have h1 : ns = [] := by have := congrArg List.length h0; rw [ti_len] at this; exact List.eq_nil_of_length_eq_zero this
    subst h1
    clear ha
    go_enter Try.func20, Try.ntmps20
    go_wp2_with fail
    refine wp_loop_rounds 1 ?_
    rw [rounds_succ]
    go_wp2
    go_ret
    exact ⟨rfl, rfl⟩
  · have HA := Lib.hid hca
    rw [ti_len] at hn ⊢
    obtain ⟨N, hN⟩ : ∃ N, N = ns.length := ⟨_, rfl⟩
    have HN := Lib.hid hN; have HX := Lib.hid hx
    rw [← hN] at hn hl ⊢
    clear ha hca hN hx
    go_enter Try.func20, Try.ntmps20
    go_wp2_with fail
    go_loop [3, 8] (fun s i => ∃ k : Nat, k ≤ N ∧ i = .int .i64 k ∧ s = .int .i64 (((ns.take k).sum : Nat) : Int)) (fun _ i => N - (intOf i).toNat)
    case atStart => exact ⟨0, Nat.zero_le _, rfl, rfl⟩
    case round =>
      obtain ⟨k, hk, rfl, rfl⟩ := hrel
      by_cases hlt : k < N
      · have hk' : k < ns.length := by rw [← HN.out]; exact hlt
        have hs := sumN_succ ns k hk'
        have hb := sumN_le ns 1000 HX.out k
        have hxk := HX.out _ (List.getElem_mem hk')
        have h2 : w.cell? ⟨g, o + k, none⟩ = some (.int .i64 ((ns[k] : Nat) : Int)) := by
          have := HA.out k (by rw [ti_len]; exact hk')
          rw [this]; simp [ti]
        obtain ⟨x, hx⟩ : ∃ x, x = ns[k] := ⟨_, rfl⟩
        obtain ⟨S, hS⟩ : ∃ S, S = (ns.take k).sum := ⟨_, rfl⟩
        obtain ⟨S', hS'⟩ : ∃ S, S = (ns.take (k + 1)).sum := ⟨_, rfl⟩
        rw [← hx] at h2 hxk hs
        rw [← hS] at hs hb ⊢
        rw [← hS'] at hs
        have eS : (S : Int) + (x : Int) = (S' : Int) := by omega
        have hb9 : S' ≤ 1000000 := by omega
        have HS' := Lib.hid hS'
        clear hx hS hS' hs
        go_wp2_with fail
        go_round
        case rel => exact ⟨k + 1, by omega, by go_num, by rw [← HS'.out]⟩
        case measure => simp [intOf] <;> omega
      · obtain rfl : k = N := by omega
        have hf : (ns.take k).sum = ns.sum := by rw [List.take_of_length_le (by rw [← HN.out]; exact Nat.le_refl _)]
        rw [hf]
        obtain ⟨S, hS⟩ : ∃ S, S = ns.sum := ⟨_, rfl⟩
        rw [← hS]
        have HS := Lib.hid hS
        clear hS hf
        go_wp2_with fail
        go_ret
        exact ⟨by rw [HS.out]; rfl, rfl⟩

theorem lesT_at (xs ys : List Int) (k : Nat) (hx : k < xs.length) (hy : k < ys.length) : lesT (xs.drop k) (ys.drop k) = if xs[k] = ys[k] then lesT (xs.drop (k + 1)) (ys.drop (k + 1)) else decide (xs[k] < ys[k]) := by
  rw [List.drop_eq_getElem_cons hx, List.drop_eq_getElem_cons hy]
  rfl
set_option maxHeartbeats 2000000 in
theorem fLess_true (w : World) (va vb : Value) (xs ys : List Int) (ha : ArgL w va xs) (hb : ArgL w vb ys) (hl : xs.length = ys.length) (h : lesT xs ys = true) (h1 : 1 ≤ xs.length) :
    Calls Try.prog 49 #[va, vb] w fun e w' => e = .returned (.bool true) ∧ Below w.heap.size w w' := by
  obtain ⟨g, o, cap, rfl, hc1, hc2, hg, hca⟩ := argL_at ha h1
  obtain ⟨g', o', cap', rfl, hc1', hc2', hg', hcb⟩ := argL_at hb (by omega)
  have HA := Lib.hid hca; have HB := Lib.hid hcb
  obtain ⟨N, hN⟩ : ∃ N, N = xs.length := ⟨_, rfl⟩
  have HN := Lib.hid hN
  have HL := Lib.hid hl
  have HLE := Lib.hid h
  rw [← hl, ← hN]
  rw [← hN] at hc1
  clear ha hb hca hcb hN hl h hc1' h1
  have hn : N ≤ 9223372036854775807 := by omega
  go_enter Try.func49, Try.ntmps49
  go_wp2_with fail
  go_loopw [8] (fun i wr => ∃ (k : Nat), k ≤ N ∧ i = .int .i64 k ∧ Hid (lesT (xs.drop k) (ys.drop k) = true) ∧ Hid (Below w.heap.size w wr)) (fun i _ => N - (intOf i).toNat)
  case atStart => exact ⟨0, Nat.zero_le _, rfl, HLE, below_refl _⟩
  case round =>
    obtain ⟨k, hk, rfl, HT, HW⟩ := hrel
    by_cases hlt : k < N
    · have hkx : k < xs.length := by rw [← HN.out]; exact hlt
      have hky : k < ys.length := by rw [← HL.out]; exact hkx
      have hs := lesT_at xs ys k hkx hky
      rw [HT.out] at hs
      have h1 : wr.cell? ⟨g, o + k, none⟩ = some (.int .i64 xs[k]) := (HW.out.cell (p := ⟨g, o + k, none⟩) hg).trans (HA.out k hkx)
      have h2 : wr.cell? ⟨g', o' + k, none⟩ = some (.int .i64 ys[k]) := (HW.out.cell (p := ⟨g', o' + k, none⟩) hg').trans (HB.out k hky)
      obtain ⟨x, hx⟩ : ∃ x, x = xs[k] := ⟨_, rfl⟩
      obtain ⟨y, hy⟩ : ∃ y, y = ys[k] := ⟨_, rfl⟩
      rw [← hx] at h1 hs
      rw [← hy] at h2 hs
      clear hx hy
      by_cases hxy : x = y
      · have hb : (x != y) = false := by simp [hxy]
        rw [if_pos hxy] at hs
        have HS := Lib.hid hs.symm
        clear hxy hs
        go_wp2_with fail
        go_quiet (fail)
        go_wp2_with fail
        go_roundw
        case rel => exact ⟨k + 1, by omega, by go_num, HS, HW.out.trans (belowN _ _ _)⟩
        case measure => simp [intOf] <;> omega
      · have hb : (x != y) = true := by simp [hxy]
        rw [if_neg hxy] at hs
        have hd : x < y := of_decide_eq_true hs.symm
        have hdb : decide (x < y) = true := hs.symm
        clear hxy hs
        go_wp2_with fail
        go_quiet (fail)
        go_wp2_with fail
        go_quiet (fail)
        go_wp2_with fail
        go_ret
        exact ⟨rfl, HW.out.trans ((belowN _ _ _).trans (belowN _ _ _))⟩
    · obtain rfl : k = N := by omega
      exfalso
      have := HT.out
      rw [List.drop_of_length_le (by rw [← HN.out]; exact Nat.le_refl _), List.drop_of_length_le (by rw [← HL.out, ← HN.out]; exact Nat.le_refl _)] at this
      cases this

set_option maxHeartbeats 2000000 in
theorem fLists_same (w : World) (Ba Bb : Nat) (va vb : Value) (us vs : List Value) (nss : List (List Int)) (ha : IntsRA w Ba va us nss) (hb : IntsRA w Bb vb vs nss) :
    Calls Try.prog 48 #[va, vb] w fun e w' => e = .returned (.bool true) ∧ Below w.heap.size w w' := by
  rcases intsRA_open ha with ⟨rfl, rfl⟩ | ⟨g, cap, rfl, hn, hcp, hg, _, hca⟩
  · rcases intsRA_open hb with ⟨rfl, _⟩ | ⟨g, cap, rfl, _⟩
    all_goals
      clear ha hb
      go_enter Try.func48, Try.ntmps48
      go_wp2_with fail
      refine wp_loop_rounds 1 ?_
      rw [rounds_succ]
      go_wp2
      go_ret
      exact ⟨rfl, Below.refl _ _⟩
  · rcases intsRA_open hb with ⟨rfl, h0⟩ | ⟨g', cap', rfl, _, hcp', hg', _, hcb⟩
    · subst h0
      clear ha hb
      go_enter Try.func48, Try.ntmps48
      go_wp2_with fail
      refine wp_loop_rounds 1 ?_
      rw [rounds_succ]
      go_wp2
      go_ret
      exact ⟨rfl, Below.refl _ _⟩
    · have HA := Lib.hid hca; have HB := Lib.hid hcb
      obtain ⟨N, hN⟩ : ∃ N, N = nss.length := ⟨_, rfl⟩
      have HN := Lib.hid hN
      rw [← hN] at hn ⊢
      have hne : ((N : Int) != (N : Int)) = false := by simp
      clear ha hb hca hcb hN
      go_enter Try.func48, Try.ntmps48
      go_wp2_with fail
      go_loopw [13] (fun i wr => ∃ (k : Nat), k ≤ N ∧ i = .int .i64 k ∧ Hid (Below w.heap.size w wr)) (fun i _ => N - (intOf i).toNat)
      case atStart => exact ⟨0, Nat.zero_le _, rfl, below_refl _⟩
      case round =>
        obtain ⟨k, hk, rfl, HW⟩ := hrel
        by_cases hlt : k < N
        · obtain ⟨u, _, hu, hc1⟩ := HA.out k (by rw [← HN.out]; exact hlt)
          obtain ⟨u', _, hu', hc2⟩ := HB.out k (by rw [← HN.out]; exact hlt)
          have h1 : wr.cell? ⟨g, k, none⟩ = some u := (HW.out.cell (p := ⟨g, k, none⟩) hg).trans hc1
          have h2 : wr.cell? ⟨g', k, none⟩ = some u' := (HW.out.cell (p := ⟨g', k, none⟩) hg').trans hc2
          have he := fun (W : World) (hb : Below w.heap.size w W) => fSame_any W u u' _ _ (argL_below (argL_of_intsA hu) hb) (argL_below (argL_of_intsA hu') hb)
          rw [decide_eq_true rfl] at he
          have HE := Lib.hid he
          clear hc1 hc2 hu hu' he
          go_wp2_with fail
          go_quiet (first | (go_at_call 18; exact Calls.quiet_of (HE.out _ (HW.out.trans (belowN _ _ _)))))
          go_wp2_with fail
          go_roundw
          case rel => exact ⟨k + 1, by omega, by go_num, HW.out.trans (belowN _ _ _)⟩
          case measure => simp [intOf] <;> omega
        · obtain rfl : k = N := by omega
          go_wp2
          go_ret
          exact ⟨rfl, HW.out⟩
end Go.Proofs.Ytkdoghopbefjfaa
