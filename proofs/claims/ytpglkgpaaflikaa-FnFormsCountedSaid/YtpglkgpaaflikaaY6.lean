/- Chapter 6: rows compared, places of a number, the greatest number: program and model. -/
import Derived.Test.YtpglkgpaaflikaaY3
namespace Go.Proofs.Ytpglkgpaaflikaa
open Go.RowKit Go.BigFrame Go.Maps
set_option linter.unusedSimpArgs false
set_option linter.unusedVariables false
set_option maxRecDepth 4000

theorem argL_of_intsA {w : World} {B : Nat} {v : Value} {xs : List Int} (h : IntsA w B v xs) : ArgL w v xs := by
  rcases intsA_open h with ⟨rfl, rfl⟩ | ⟨g, cap, E, rest, rfl, hB, hg, _, hn, hcp, hcc, hce⟩
  · exact ⟨none, 0, rfl, Nat.le_refl _, by omega, fun c hc => by simp at hc⟩
  · exact ⟨_, cap, rfl, hcc, hcp, fun c hc => ⟨g, 0, rfl, hg, by rw [Nat.zero_add]; exact hce c hc⟩⟩
theorem argL_of_ints {w : World} {B : Nat} {v : Value} {xs : List Int} (h : Ints w B v xs) : ArgL w v xs := argL_of_intsA (intsA_of h)
/-- A row's part. -/
theorem argL_part {w : World} {B g n c : Nat} {xs : List Int} (h : IntsA w B (.slice (some ⟨g, 0, none⟩) n c) xs) (hn : xs.length = n) (lo hi C : Nat) (hl : lo ≤ hi) (hh : hi ≤ n) (hC : hi - lo ≤ C) (hC9 : C ≤ 9223372036854775807) :
    ArgL w (.slice (some ⟨g, lo, none⟩) (hi - lo) C) ((xs.take hi).drop lo) := by
  have hlen : ((xs.take hi).drop lo).length = hi - lo := by simp; omega
  refine ⟨_, C, by rw [hlen], by rw [hlen]; exact hC, hC9, fun k hk => ?_⟩
  rw [hlen] at hk
  rcases intsA_open h with ⟨e, _⟩ | ⟨g', cap, E, rest, e, hB, hg, _, _, hcp, hcc, hce⟩
  · cases e
  · cases e
    exact ⟨g, lo, rfl, hg, by rw [hce (lo + k) (by omega)]; simp⟩
theorem argL_nil (w : World) (A : Option Addr) (C : Nat) (h : C ≤ 9223372036854775807) : ArgL w (.slice A 0 C) [] := ⟨A, C, rfl, Nat.zero_le _, h, fun k hk => by simp at hk⟩

/-! ### Pure -/
/-- The places of a number among the first k of a sequence. -/
def pls (s : Nat → Int) (y : Int) : Nat → List Int
  | 0 => []
  | k + 1 => pls s y k ++ if s k = y then [((k : Int) + 1)] else []
theorem pls_len (s : Nat → Int) (y : Int) : ∀ k, (pls s y k).length ≤ k
  | 0 => Nat.le_refl _
  | k + 1 => by
    unfold pls
    have := pls_len s y k
    split <;> simp <;> omega
/-- The greatest of the first k of a sequence, at least 0. -/
def mxS (s : Nat → Int) : Nat → Int
  | 0 => 0
  | k + 1 => if mxS s k > s k then mxS s k else s k

set_option maxHeartbeats 2000000 in
theorem l1SameL_any (w : World) (u v : Value) (xs ys : List Int) (ha : ArgL w u xs) (hb : ArgL w v ys) (h9 : xs.length ≤ 1000000) (h9' : ys.length ≤ 1000000) :
    Calls Try.prog 84 #[u, v] w fun e w' => e = .returned (.bool (decide (xs = ys))) ∧ Below w.heap.size w w' := by
  obtain ⟨A, C, rfl, hC, hC9, hca⟩ := ha
  obtain ⟨A', C', rfl, hC', hC9', hcb⟩ := hb
  have HA := Lib.hid hca; have HB := Lib.hid hcb
  obtain ⟨N, hN⟩ : ∃ N, N = xs.length := ⟨_, rfl⟩
  obtain ⟨M, hM⟩ : ∃ M, M = ys.length := ⟨_, rfl⟩
  have HN := Lib.hid hN; have HM := Lib.hid hM
  rw [← hN] at hC h9 ⊢
  rw [← hM] at hC' h9' ⊢
  clear hca hcb hN hM
  by_cases hl : N = M
  · have HL := Lib.hid hl
    subst hl
    have hne : ((N : Int) != (N : Int)) = false := by simp
    clear HL
    go_enter Try.func84, Try.ntmps84
    go_wp2_with fail
    go_loopw [13] (fun i wr => ∃ (k : Nat), k ≤ N ∧ i = .int .i64 k ∧ Hid ((∀ j (hj : j < xs.length), j < k → xs[j] = ys.getD j 0) ∧ Below w.heap.size w wr)) (fun i _ => N - (intOf i).toNat)
    case atStart => exact ⟨0, Nat.zero_le _, rfl, fun j _ h => by omega, below_refl _⟩
    case round =>
      obtain ⟨k, hk, rfl, HW⟩ := hrel
      by_cases hlt : k < N
      · have hk1 : k < xs.length := by rw [← HN.out]; exact hlt
        have hk2 : k < ys.length := by rw [← HM.out]; exact hlt
        obtain ⟨b, o, rfl, hb1, hb2⟩ := HA.out k hk1
        obtain ⟨b', o', rfl, hb1', hb2'⟩ := HB.out k hk2
        have h1 : wr.cell? ⟨b, o + k, none⟩ = some (.int .i64 xs[k]) := (HW.out.2.cell (p := ⟨b, o + k, none⟩) hb1).trans hb2
        have h2 : wr.cell? ⟨b', o' + k, none⟩ = some (.int .i64 ys[k]) := (HW.out.2.cell (p := ⟨b', o' + k, none⟩) hb1').trans hb2'
        obtain ⟨x, hx⟩ : ∃ x, x = xs[k] := ⟨_, rfl⟩
        obtain ⟨y, hy⟩ : ∃ y, y = ys[k] := ⟨_, rfl⟩
        rw [← hx] at h1
        rw [← hy] at h2
        by_cases he : x = y
        · have hbe : (x != y) = false := by simpa using he
          have hnew : Hid (∀ j (hj : j < xs.length), j < k + 1 → xs[j] = ys.getD j 0) := fun j hj h => by
            by_cases e : j = k
            · subst e; rw [← hx, he, hy]; simp [List.getD_eq_getElem?_getD, hk2]
            · exact HW.out.1 j hj (by omega)
          clear hx hy he hb2 hb2'
          go_wp2_with fail
          go_quiet (fail)
          go_wp2_with fail
          go_roundw
          case rel => exact ⟨k + 1, by omega, by go_num, hnew.out, HW.out.2.trans (belowN _ _ _)⟩
          case measure => simp [intOf] <;> omega
        · have hbe : (x != y) = true := by simpa using he
          have hd : decide (xs = ys) = false := decide_eq_false (fun e => he (by rw [hx, hy]; subst e; rfl))
          have HD := Lib.hid hd
          clear hx hy he hd hb2 hb2'
          go_wp2_with fail
          go_quiet (fail)
          go_wp2_with fail
          go_ret
          exact ⟨by rw [HD.out]; rfl, HW.out.2.trans (belowN _ _ _)⟩
      · obtain rfl : k = N := by omega
        have hd : decide (xs = ys) = true := decide_eq_true (List.ext_getElem (HN.out.symm.trans HM.out) (fun j j1 j2 => by
          rw [HW.out.1 j j1 (by rw [HN.out]; exact j1)]
          simp [List.getD_eq_getElem?_getD, j2]))
        have HD := Lib.hid hd
        clear hd
        go_wp2_with fail
        go_ret
        exact ⟨by rw [HD.out]; rfl, HW.out.2⟩
  · have hne : ((N : Int) != (M : Int)) = true := by simp; omega
    have hd : decide (xs = ys) = false := decide_eq_false (fun e => hl (by rw [HN.out, HM.out, e]))
    have HD := Lib.hid hd
    clear hd
    go_enter Try.func84, Try.ntmps84
    go_wp2_with fail
    go_ret
    exact ⟨by rw [HD.out]; rfl, Below.refl _ _⟩

set_option maxHeartbeats 2000000 in
theorem slEqual_any (w : World) (u v : Value) (xs ys : List Int) (ha : ArgL w u xs) (hb : ArgL w v ys) (h9 : xs.length ≤ 1000000) (h9' : ys.length ≤ 1000000) :
    Calls Try.prog 63 #[u, v] w fun e w' => e = .returned (.bool (decide (xs = ys))) ∧ Below w.heap.size w w' := by
  obtain ⟨A, C, rfl, hC, hC9, hca⟩ := ha
  obtain ⟨A', C', rfl, hC', hC9', hcb⟩ := hb
  have HA := Lib.hid hca; have HB := Lib.hid hcb
  obtain ⟨N, hN⟩ : ∃ N, N = xs.length := ⟨_, rfl⟩
  obtain ⟨M, hM⟩ : ∃ M, M = ys.length := ⟨_, rfl⟩
  have HN := Lib.hid hN; have HM := Lib.hid hM
  rw [← hN] at hC h9 ⊢
  rw [← hM] at hC' h9' ⊢
  clear hca hcb hN hM
  by_cases hl : N = M
  · have HL := Lib.hid hl
    subst hl
    have hne : ((N : Int) != (N : Int)) = false := by simp
    clear HL
    go_enter Try.func63, Try.ntmps63
    go_wp2_with fail
    go_loopw [13] (fun i wr => ∃ (k : Nat), k ≤ N ∧ i = .int .i64 k ∧ Hid ((∀ j (hj : j < xs.length), j < k → xs[j] = ys.getD j 0) ∧ Below w.heap.size w wr)) (fun i _ => N - (intOf i).toNat)
    case atStart => exact ⟨0, Nat.zero_le _, rfl, fun j _ h => by omega, below_refl _⟩
    case round =>
      obtain ⟨k, hk, rfl, HW⟩ := hrel
      by_cases hlt : k < N
      · have hk1 : k < xs.length := by rw [← HN.out]; exact hlt
        have hk2 : k < ys.length := by rw [← HM.out]; exact hlt
        obtain ⟨b, o, rfl, hb1, hb2⟩ := HA.out k hk1
        obtain ⟨b', o', rfl, hb1', hb2'⟩ := HB.out k hk2
        have h1 : wr.cell? ⟨b, o + k, none⟩ = some (.int .i64 xs[k]) := (HW.out.2.cell (p := ⟨b, o + k, none⟩) hb1).trans hb2
        have h2 : wr.cell? ⟨b', o' + k, none⟩ = some (.int .i64 ys[k]) := (HW.out.2.cell (p := ⟨b', o' + k, none⟩) hb1').trans hb2'
        obtain ⟨x, hx⟩ : ∃ x, x = xs[k] := ⟨_, rfl⟩
        obtain ⟨y, hy⟩ : ∃ y, y = ys[k] := ⟨_, rfl⟩
        rw [← hx] at h1
        rw [← hy] at h2
        by_cases he : x = y
        · have hbe : (x != y) = false := by simpa using he
          have hnew : Hid (∀ j (hj : j < xs.length), j < k + 1 → xs[j] = ys.getD j 0) := fun j hj h => by
            by_cases e : j = k
            · subst e; rw [← hx, he, hy]; simp [List.getD_eq_getElem?_getD, hk2]
            · exact HW.out.1 j hj (by omega)
          clear hx hy he hb2 hb2'
          go_wp2_with fail
          go_quiet (fail)
          go_wp2_with fail
          go_roundw
          case rel => exact ⟨k + 1, by omega, by go_num, hnew.out, HW.out.2.trans (belowN _ _ _)⟩
          case measure => simp [intOf] <;> omega
        · have hbe : (x != y) = true := by simpa using he
          have hd : decide (xs = ys) = false := decide_eq_false (fun e => he (by rw [hx, hy]; subst e; rfl))
          have HD := Lib.hid hd
          clear hx hy he hd hb2 hb2'
          go_wp2_with fail
          go_quiet (fail)
          go_wp2_with fail
          go_ret
          exact ⟨by rw [HD.out]; rfl, HW.out.2.trans (belowN _ _ _)⟩
      · obtain rfl : k = N := by omega
        have hd : decide (xs = ys) = true := decide_eq_true (List.ext_getElem (HN.out.symm.trans HM.out) (fun j j1 j2 => by
          rw [HW.out.1 j j1 (by rw [HN.out]; exact j1)]
          simp [List.getD_eq_getElem?_getD, j2]))
        have HD := Lib.hid hd
        clear hd
        go_wp2_with fail
        go_ret
        exact ⟨by rw [HD.out]; rfl, HW.out.2⟩
  · have hne : ((N : Int) != (M : Int)) = true := by simp; omega
    have hd : decide (xs = ys) = false := decide_eq_false (fun e => hl (by rw [HN.out, HM.out, e]))
    have HD := Lib.hid hd
    clear hd
    go_enter Try.func63, Try.ntmps63
    go_wp2_with fail
    go_ret
    exact ⟨by rw [HD.out]; rfl, Below.refl _ _⟩

set_option maxHeartbeats 2000000 in
theorem placesOf_any (w : World) (u : Value) (xs : List Int) (y : Int) (ha : ArgL w u xs) (h9 : xs.length ≤ 1000000) :
    Calls Try.prog 60 #[u, .int .i64 y] w fun e w' => ∃ v, e = .returned v ∧ Ints w' w.heap.size v (pls (sq xs) y xs.length) ∧ Below w.heap.size w w' := by
  obtain ⟨A, C, rfl, hC, hC9, hca⟩ := ha
  have HA := Lib.hid hca
  obtain ⟨N, hN⟩ : ∃ N, N = xs.length := ⟨_, rfl⟩
  have HN := Lib.hid hN
  rw [← hN] at hC h9 ⊢
  clear hca hN
  go_enter Try.func60, Try.ntmps60
  go_wp2_with fail
  go_loopw [5, 10] (fun ov iv wr => ∃ k : Nat, k ≤ N ∧ iv = .int .i64 k ∧ Hid (Ints wr w.heap.size ov (pls (sq xs) y k) ∧ Below w.heap.size w wr)) (fun _ iv _ => N - (intOf iv).toNat)
  case atStart => exact ⟨0, Nat.zero_le _, rfl, own_lit w w.heap.size 3 [] (Nat.le_refl _) (by simp [maxLen]), below_alloc _ _⟩
  case round =>
    obtain ⟨k, hk, rfl, HX⟩ := hrel
    by_cases hlt : k < N
    · have hk1 : k < xs.length := by rw [← HN.out]; exact hlt
      obtain ⟨b, o, rfl, hb1, hb2⟩ := HA.out k hk1
      have h1 : wr.cell? ⟨b, o + k, none⟩ = some (.int .i64 xs[k]) := (HX.out.2.cell (p := ⟨b, o + k, none⟩) hb1).trans hb2
      have hstep : pls (sq xs) y (k + 1) = pls (sq xs) y k ++ if xs[k] = y then [((k : Int) + 1)] else [] := by rw [← sq_at hk1]; rfl
      have hpl := pls_len (sq xs) y k
      obtain ⟨x, hx⟩ : ∃ x, x = xs[k] := ⟨_, rfl⟩
      rw [← hx] at h1 hstep
      have HPL := Lib.hid hpl
      clear hx hb2 hpl
      by_cases he : x = y
      · rw [if_pos he] at hstep
        have hbe : (x == y) = true := by simpa using he
        have HS := Lib.hid hstep
        clear he hstep
        go_wp2_with (at_builtin; refine wpI_app wr rfl _ _ rfl w ((k : Int) + 1) HX.out.1 rfl rfl HX.out.2 (by have := HPL.out; omega) ?_; intro v4 w4 ho4 hb4 hk4 hs4 hw4; have HO4 := Lib.hid ho4; have HB4 := Lib.hid hb4; clear ho4 hb4 hk4 hs4 hw4)
        go_roundw
        case rel => exact ⟨k + 1, by omega, by go_num, by rw [HS.out]; exact HO4.out, HB4.out⟩
        case measure => simp [intOf] <;> omega
      · rw [if_neg he, List.append_nil] at hstep
        have hbe : (x == y) = false := by simpa using he
        have HS := Lib.hid hstep
        clear he hstep
        go_wp2_with fail
        go_roundw
        case rel => exact ⟨k + 1, by omega, by go_num, by rw [HS.out]; exact HX.out.1, HX.out.2⟩
        case measure => simp [intOf] <;> omega
    · obtain rfl : k = N := by omega
      go_wp2_with fail
      go_ret
      exact ⟨_, rfl, HX.out.1, HX.out.2⟩

set_option maxHeartbeats 2000000 in
theorem greatestOf_any (w : World) (u : Value) (xs : List Int) (ha : ArgL w u xs) (h9 : xs.length ≤ 1000000) :
    Calls Try.prog 61 #[u] w fun e w' => e = .returned (.int .i64 (mxS (sq xs) xs.length)) ∧ w = w' := by
  obtain ⟨A, C, rfl, hC, hC9, hca⟩ := ha
  have HA := Lib.hid hca
  obtain ⟨N, hN⟩ : ∃ N, N = xs.length := ⟨_, rfl⟩
  have HN := Lib.hid hN
  rw [← hN] at hC h9 ⊢
  clear hca hN
  go_enter Try.func61, Try.ntmps61
  go_wp2_with fail
  go_loop [3, 8] (fun mv iv => ∃ (k : Nat) (m : Int), k ≤ N ∧ iv = .int .i64 k ∧ mv = .int .i64 m ∧ Hid (m = mxS (sq xs) k)) (fun _ iv => N - (intOf iv).toNat)
  case atStart => exact ⟨0, 0, Nat.zero_le _, rfl, rfl, rfl⟩
  case round =>
    obtain ⟨k, m, hk, rfl, rfl, HX⟩ := hrel
    by_cases hlt : k < N
    · have hk1 : k < xs.length := by rw [← HN.out]; exact hlt
      obtain ⟨b, o, rfl, hb1, hb2⟩ := HA.out k hk1
      have hstep : mxS (sq xs) (k + 1) = if m > xs[k] then m else xs[k] := by rw [HX.out, ← sq_at hk1]; rfl
      obtain ⟨x, hx⟩ : ∃ x, x = xs[k] := ⟨_, rfl⟩
      rw [← hx] at hb2 hstep
      clear hx
      by_cases he : m > x
      · rw [if_pos he] at hstep
        have HS := Lib.hid hstep
        clear hstep
        go_wp2_with fail
        go_round
        case rel => exact ⟨k + 1, _, by omega, by go_num, rfl, Lib.hid (Eq.trans (by first | rfl | omega | (split <;> omega)) HS.out.symm)⟩
        case measure => simp [intOf] <;> omega
      · rw [if_neg he] at hstep
        have HS := Lib.hid hstep
        clear hstep
        go_wp2_with fail
        go_round
        case rel => exact ⟨k + 1, _, by omega, by go_num, rfl, Lib.hid (Eq.trans (by first | rfl | omega | (split <;> omega)) HS.out.symm)⟩
        case measure => simp [intOf] <;> omega
    · obtain rfl : k = N := by omega
      go_wp2_with fail
      go_ret
      exact ⟨ret_int HX.out, rfl⟩

theorem l1Most_any (w : World) (a b : Int) :
    Calls Try.prog 62 #[.int .i64 a, .int .i64 b] w fun e w' => e = .returned (.int .i64 (if a > b then a else b)) ∧ w = w' := by
  by_cases he : a > b
  · rw [if_pos he]
    go_enter Try.func62, Try.ntmps62
    go_wp2_with fail
    go_ret
    exact ⟨rfl, rfl⟩
  · rw [if_neg he]
    go_enter Try.func62, Try.ntmps62
    go_wp2_with fail
    go_ret
    exact ⟨rfl, rfl⟩
end Go.Proofs.Ytpglkgpaaflikaa
