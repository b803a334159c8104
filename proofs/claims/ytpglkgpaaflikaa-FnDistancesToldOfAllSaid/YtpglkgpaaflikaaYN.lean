/- Law FnDistancesToldOfAll. (By tools/genyn.py.) -/
import Derived.Test.YtpglkgpaaflikaaYH
import Derived.Test.YtpglkgpaaflikaaYG
import Derived.Test.YtpglkgpaaflikaaYL
import Derived.Test.YtpglkgpaaflikaaYM
import Derived.Deep.DeepCutAuto
import Derived.Deep.QuietTactic
import Derived.BigQuiet
namespace Go.Proofs.Ytpglkgpaaflikaa
open Go.RowKit Go.BigFrame Go.Deep
set_option linter.unusedSimpArgs false
set_option linter.unusedVariables false
set_option maxRecDepth 4000

theorem ahL_bd {xs : List Int} (h : plL xs = true) : ∀ x ∈ ahL xs, 0 ≤ x ∧ x ≤ 1000 := by
  intro x hx
  obtain ⟨h1, h60, _⟩ := plL_open h
  obtain ⟨j, hj, rfl⟩ := List.getElem_of_mem hx
  have hj' : j < xs.length := by rwa [ahL_len] at hj
  by_cases hex : ∃ i, i < xs.length ∧ bk (sq xs) i ≠ 0 ∧ i - bk (sq xs) i = j
  · obtain ⟨i, g1, g2, rfl⟩ := hex
    have g3 := ahL_told g1 g2
    rw [List.getElem?_eq_getElem hj, Option.some.injEq] at g3
    rw [g3]
    have := bk_le (sq xs) i
    omega
  · have g3 : (ahL xs)[j]? = some 0 := (ah_at (sq xs) xs.length xs.length (Nat.le_refl _)).2 j hj' (fun i g1 g2 g3 => hex ⟨i, g1, g2, g3⟩)
    rw [List.getElem?_eq_getElem hj, Option.some.injEq] at g3
    rw [g3]
    omega
theorem bkL_bd {xs : List Int} (h : plL xs = true) : ∀ x ∈ bkL xs, 0 ≤ x ∧ x ≤ 1000 := by
  intro x hx
  obtain ⟨j, hj, rfl⟩ := List.getElem_of_mem hx
  exact (plL_open (bkL_pl h)).2.2 j hj
theorem told_round {xs : List Int} (h : plL xs = true) {k : Nat} (hk : k < xs.length) {D : Nat} (hD : D = bk (sq xs) k) :
    D ≤ k ∧ (bkL xs)[k]? = some (D : Int) ∧ xs[k]? = some (sq xs k) ∧ (0 ≤ sq xs k ∧ sq xs k ≤ 1000) ∧ (0 < D → xs[k - D]? = some (sq xs k) ∧ (ahL xs)[k - D]? = some (D : Int)) ∧ (((k : Int) + 1) ∈ pls (bkS xs) 0 xs.length ↔ D = 0) ∧ (fmL (bkL xs))[k]? = some (vF (bkS xs) k) ∧
    (D = 0 → vF (bkS xs) k = ((fmS (bkS xs) k).2 : Int) + 1 ∧ (fmS (bkS xs) (k + 1)).2 = (fmS (bkS xs) k).2 + 1 ∧ (pls (sq xs) (sq xs k) xs.length)[0]? = some ((k : Int) + 1)) ∧ (0 < D → (fmS (bkS xs) (k + 1)).2 = (fmS (bkS xs) k).2) ∧ ((k : Int) + 1) ∈ pls (sq xs) (sq xs k) xs.length := by
  have hle : D ≤ k := by rw [hD]; exact bk_le _ _
  have hs : sq xs k = xs[k] := sq_at hk
  have hb : bkS xs k = (D : Int) := by rw [hD]; rfl
  refine ⟨hle, ?_, by rw [hs]; exact List.getElem?_eq_getElem hk, by rw [hs]; exact (plL_open h).2.2 k hk, fun h0 => ?_, ?_, ?_, fun h0 => ?_, fun h0 => ?_, ?_⟩
  · have hlb : k < (bkL xs).length := by rw [bkL_len]; exact hk
    have := sq_bkL hk
    rw [sq_at hlb, hb] at this
    rw [List.getElem?_eq_getElem hlb, this]
  · have hkd : k - D < xs.length := by omega
    obtain ⟨g1, g2⟩ := bk_pos (s := sq xs) (i := k) (by rw [← hD]; exact h0)
    rw [← hD, sq_at hkd] at g1
    have g3 := ahL_told hk (by rw [← hD]; omega)
    rw [← hD] at g3
    exact ⟨by rw [List.getElem?_eq_getElem hkd, g1], g3⟩
  · rw [pls_has, hb]
    constructor
    · rintro ⟨_, g⟩; omega
    · intro g; exact ⟨hk, by omega⟩
  · have hlf : k < (fmL (bkL xs)).length := by rw [fmL_len, bkL_len]; exact hk
    have := sq_form hk
    rw [sq_at hlf] at this
    rw [List.getElem?_eq_getElem hlf, this]
  · have hn0 : ¬ 0 < bkS xs k := by rw [hb]; omega
    refine ⟨vF_new hn0, most_new hn0, ?_⟩
    exact pls_first (sq xs) (sq xs k) k rfl (bk_zero (by rw [← hD]; exact h0)) xs.length hk
  · exact most_old (by rw [hb]; omega)
  · rw [pls_has]
    exact ⟨hk, rfl⟩
theorem mx_step (xs : List Int) (k : Nat) (m : Int) (D : Nat) (hD : D = bk (sq xs) k) (hm : m = mxS (bkS xs) k) :
    ((D : Int) > m → mxS (bkS xs) (k + 1) = (D : Int)) ∧ (¬ (D : Int) > m → mxS (bkS xs) (k + 1) = m) := by
  have hb : bkS xs k = (D : Int) := by rw [hD]; rfl
  have e : mxS (bkS xs) (k + 1) = if mxS (bkS xs) k > bkS xs k then mxS (bkS xs) k else bkS xs k := rfl
  rw [← hm, hb] at e
  constructor
  · intro g
    rw [e, if_neg (by omega)]
  · intro g
    rw [e]
    split <;> omega
theorem intsOk_some {op : Option (List Int)} {L : List Int} {w w' : World} {e : Ending} (ho : op = some L) (h : IntsAOk op w w' e) :
    ∃ v, e = .returned (.tuple #[v, .bool true]) ∧ IntsA w' w.heap.size v L ∧ Below w.heap.size w w' := by
  subst ho
  obtain ⟨v, h1, h2, h3, _⟩ := h
  exact ⟨v, h1, h2, h3⟩
theorem intsA_atN {w : World} {B N : Nat} {v : Value} {xs : List Int} (h : IntsA w B v xs) (hN : xs.length = N) (h1 : 1 ≤ N) :
    ∃ g cap, v = .slice (some ⟨g, 0, none⟩) N cap ∧ cap ≤ 9223372036854775807 ∧ N ≤ cap := by
  obtain ⟨g, cap, e1, e2, e3, _⟩ := intsA_at h (by omega)
  rw [hN] at e1 e2
  exact ⟨g, cap, e1, e3, e2⟩
theorem intsA_cellq {w : World} {B g N cap i : Nat} {xs : List Int} {x : Int} (h : IntsA w B (.slice (some ⟨g, 0, none⟩) N cap) xs) (hx : xs[i]? = some x) :
    w.cell? ⟨g, i, none⟩ = some (.int .i64 x) := by
  obtain ⟨hi, e⟩ := List.getElem?_eq_some_iff.1 hx
  obtain ⟨g', cap', e1, e2, e3, _, _, e4⟩ := intsA_at h (by omega)
  simp only [Value.slice.injEq, Option.some.injEq, Addr.mk.injEq] at e1
  obtain ⟨⟨rfl, _⟩, _⟩ := e1
  rw [e4 i hi, e]
theorem qSame_self (w : World) (Ba Bb : Nat) (va vb : Value) (xs : List Int) (ha : IntsA w Ba va xs) (hb : IntsA w Bb vb xs) :
    Calls Try.prog 16 #[va, vb] w fun e w' => e = .returned (.bool true) ∧ Below w.heap.size w w' := by
  have h := qSame_any w Ba Bb va vb xs xs ha hb
  rwa [decide_eq_true rfl] at h

theorem argL_open {w : World} {v : Value} {xs : List Int} (h : ArgL w v xs) : (∃ A C, v = .slice A 0 C ∧ xs = []) ∨
    ∃ g o cap, v = .slice (some ⟨g, o, none⟩) xs.length cap ∧ xs.length ≤ 9223372036854775807 ∧ cap ≤ 9223372036854775807 ∧ g < w.heap.size ∧ (∀ i (hi : i < xs.length), w.cell? ⟨g, o + i, none⟩ = some (.int .i64 xs[i])) := by
  by_cases h1 : 1 ≤ xs.length
  · obtain ⟨g, o, cap, e1, e2, e3, e4, e5⟩ := argL_at h h1
    exact .inr ⟨g, o, cap, e1, by omega, e3, e4, e5⟩
  · have h0 : xs = [] := List.eq_nil_of_length_eq_zero (by omega)
    subst h0
    obtain ⟨A, C, h2, _⟩ := argL_slice h
    exact .inl ⟨A, C, h2, rfl⟩
theorem argL_atN {w : World} {N : Nat} {v : Value} {xs : List Int} (h : ArgL w v xs) (hN : xs.length = N) (h1 : 1 ≤ N) :
    ∃ g o cap, v = .slice (some ⟨g, o, none⟩) N cap ∧ cap ≤ 9223372036854775807 ∧ N ≤ cap := by
  obtain ⟨g, o, cap, e1, e2, e3, _⟩ := argL_at h (by omega)
  rw [hN] at e1 e2
  exact ⟨g, o, cap, e1, e3, e2⟩
theorem argL_cellq {w : World} {g o N cap i : Nat} {xs : List Int} {x : Int} (h : ArgL w (.slice (some ⟨g, o, none⟩) N cap) xs) (hx : xs[i]? = some x) :
    w.cell? ⟨g, o + i, none⟩ = some (.int .i64 x) := by
  obtain ⟨hi, e⟩ := List.getElem?_eq_some_iff.1 hx
  obtain ⟨g', o', cap', e1, e2, e3, _, e4⟩ := argL_at h (by omega)
  simp only [Value.slice.injEq, Option.some.injEq, Addr.mk.injEq] at e1
  obtain ⟨⟨rfl, rfl, _⟩, _⟩ := e1
  rw [e4 i hi, e]
set_option maxHeartbeats 1000000 in
theorem qSame_arg (w : World) (va vb : Value) (xs ys : List Int) (ha : ArgL w va xs) (hb : ArgL w vb ys) :
    Calls Try.prog 16 #[va, vb] w fun e w' => e = .returned (.bool (decide (xs = ys))) ∧ Below w.heap.size w w' := by
  by_cases hl : xs.length = ys.length
  · rcases argL_open ha with ⟨A0, C0, rfl, rfl⟩ | ⟨g, o, cap, rfl, hn, hcp, hg, hca⟩
    · have hy0 : ys = [] := List.eq_nil_of_length_eq_zero hl.symm
      subst hy0
      have hvb : ∃ A C, vb = .slice A 0 C := by obtain ⟨A, C, h, _⟩ := argL_slice hb; exact ⟨A, C, h⟩
      obtain ⟨A, C, rfl⟩ := hvb
      clear ha hb hl
      go_enter Try.func16, Try.ntmps16
      go_wp2_with fail
      refine wp_loop_rounds 1 ?_
      rw [rounds_succ]
      go_wp2
      go_ret
      exact ⟨rfl, Below.refl _ _⟩
    · rcases argL_open hb with ⟨A1, C1, rfl, h0⟩ | ⟨g', o', cap', rfl, _, hcp', hg', hcb⟩
      · subst h0
        have hx0 : xs = [] := List.eq_nil_of_length_eq_zero hl
        subst hx0
        clear ha hb hl
        go_enter Try.func16, Try.ntmps16
        go_wp2_with fail
        refine wp_loop_rounds 1 ?_
        rw [rounds_succ]
        go_wp2
        go_ret
        exact ⟨rfl, Below.refl _ _⟩
      · have HA := Lib.hid hca; have HB := Lib.hid hcb
        obtain ⟨N, hN⟩ : ∃ N, N = xs.length := ⟨_, rfl⟩
        have HN := Lib.hid hN
        have HL := Lib.hid hl
        clear ha hb hca hcb
        rw [← hl, ← hN]
        rw [← hN] at hn
        have hne : ((N : Int) != (N : Int)) = false := by simp
        clear hN hl
        go_enter Try.func16, Try.ntmps16
        go_wp2_with fail
        go_loopw [13] (fun i wr => ∃ (k : Nat), k ≤ N ∧ i = .int .i64 k ∧ Hid (xs.take k = ys.take k) ∧ Hid (Below w.heap.size w wr)) (fun i _ => N - (intOf i).toNat)
        case atStart => exact ⟨0, Nat.zero_le _, rfl, Lib.hid rfl, below_refl _⟩
        case round =>
          obtain ⟨k, hk, rfl, HT, HW⟩ := hrel
          by_cases hlt : k < N
          · have hkx : k < xs.length := by rw [← HN.out]; exact hlt
            have hky : k < ys.length := by rw [← HL.out]; exact hkx
            have h1 : wr.cell? ⟨g, o + k, none⟩ = some (.int .i64 xs[k]) := (HW.out.cell (p := ⟨g, o + k, none⟩) hg).trans (HA.out k hkx)
            have h2 : wr.cell? ⟨g', o' + k, none⟩ = some (.int .i64 ys[k]) := (HW.out.cell (p := ⟨g', o' + k, none⟩) hg').trans (HB.out k hky)
            obtain ⟨x, hx⟩ : ∃ x, x = xs[k] := ⟨_, rfl⟩
            obtain ⟨y, hy⟩ : ∃ y, y = ys[k] := ⟨_, rfl⟩
            rw [← hx] at h1
            rw [← hy] at h2
            have HX := Lib.hid hx; have HY := Lib.hid hy
            clear hx hy
            by_cases hxy : x = y
            · have hb : (x != y) = false := by simp [hxy]
              have HXY := Lib.hid hxy
              clear hxy
              go_wp2_with fail
              go_quiet (fail)
              go_wp2_with fail
              go_roundw
              case rel => exact ⟨k + 1, by omega, by go_num, Lib.hid (by rw [List.take_succ_eq_append_getElem hkx, List.take_succ_eq_append_getElem hky, HT.out, ← HX.out, ← HY.out, HXY.out]), HW.out.trans (belowN _ _ _)⟩
              case measure => simp [intOf] <;> omega
            · have hb : (x != y) = true := by simp [hxy]
              have hd : decide (xs = ys) = false := decide_eq_false (fun e => by
                apply hxy
                rw [HX.out, HY.out]
                subst e; rfl)
              have HD := Lib.hid hd
              clear hxy hd
              go_wp2_with fail
              go_quiet (fail)
              go_wp2_with fail
              go_ret
              exact ⟨congrArg (fun b => Ending.returned (.bool b)) HD.out.symm, HW.out.trans (belowN _ _ _)⟩
          · obtain rfl : k = N := by omega
            have hd : decide (xs = ys) = true := decide_eq_true (by
              have := HT.out
              rw [List.take_of_length_le (by rw [HN.out]; exact Nat.le_refl _), List.take_of_length_le (by rw [HN.out, HL.out]; exact Nat.le_refl _)] at this
              exact this)
            have HD := Lib.hid hd
            clear hd
            go_wp2_with fail
            go_ret
            exact ⟨congrArg (fun b => Ending.returned (.bool b)) HD.out.symm, HW.out⟩
  · have hd : decide (xs = ys) = false := decide_eq_false (fun e => hl (by rw [e]))
    obtain ⟨A, C, rfl, hc1, hc2⟩ := argL_slice ha
    obtain ⟨A', C', rfl, hc3, hc4⟩ := argL_slice hb
    have hne : (((xs.length : Nat) : Int) != ((ys.length : Nat) : Int)) = true := by simp; omega
    rw [hd]
    clear ha hb hd hl
    go_enter Try.func16, Try.ntmps16
    go_wp2_with fail
    go_ret
    exact ⟨rfl, Below.refl _ _⟩

set_option maxRecDepth 100000 in
set_option maxHeartbeats 16000000 in
theorem law_FnDistancesToldOfAll (v : Value) (xs : List Int) (u1 : Value) (fs : List Int) (u2 : Value) (ds : List Int) (u3 : Value) (ls : List Int) (n : Int) (w : World) (hv : ArgL w v xs) (h1 : ArgL w u1 fs) (h2 : ArgL w u2 ds) (h3 : ArgL w u3 ls) :
    Calls Try.prog 3 #[v, u1, u2, u3, .int .i64 n] w fun e w' => e = .returned (.bool true) ∧ Below w.heap.size w w' := by
  obtain ⟨A0, T0, rfl, hT0, hl0⟩ := argL_slice hv
  obtain ⟨A1, T1, rfl, hT1, hl1⟩ := argL_slice h1
  obtain ⟨A2, T2, rfl, hT2, hl2⟩ := argL_slice h2
  obtain ⟨A3, T3, rfl, hT3, hl3⟩ := argL_slice h3
  obtain ⟨M0, hM0⟩ : ∃ N, N = xs.length := ⟨_, rfl⟩
  obtain ⟨M1, hM1⟩ : ∃ N, N = fs.length := ⟨_, rfl⟩
  obtain ⟨M2, hM2⟩ : ∃ N, N = ds.length := ⟨_, rfl⟩
  obtain ⟨M3, hM3⟩ : ∃ N, N = ls.length := ⟨_, rfl⟩
  rw [← hM0] at hl0 hv ⊢
  rw [← hM1] at hl1 h1 ⊢
  rw [← hM2] at hl2 h2 ⊢
  rw [← hM3] at hl3 h3 ⊢
  have Z := Lib.hid hv; have Z1 := Lib.hid h1; have Z2 := Lib.hid h2; have Z3 := Lib.hid h3; have HM0 := Lib.hid hM0
  clear hv h1 h2 h3 hM0 hM1 hM2 hM3
  go_enter Try.func3, Try.ntmps3
  by_cases g0 : (M0 : Int) > 10000
  · go_wp2_with fail
    go_ret
    exact ⟨rfl, Below.refl _ _⟩
  by_cases g1 : (M1 : Int) > 10000
  · go_wp2_with fail
    go_ret
    exact ⟨rfl, Below.refl _ _⟩
  by_cases g2 : (M2 : Int) > 10000
  · go_wp2_with fail
    go_ret
    exact ⟨rfl, Below.refl _ _⟩
  by_cases g3 : (M3 : Int) > 10000
  · go_wp2_with fail
    go_ret
    exact ⟨rfl, Below.refl _ _⟩
  go_wp2_with fail
  obtain ⟨x0, hx0⟩ : ∃ x, x = w := ⟨_, rfl⟩
  subst hx0
  have C0 := Lib.hid (Below.refl x0.heap.size x0)
  clear g0 g1 g2 g3 hT0 hT1 hT2 hT3
  obtain ⟨y, hy⟩ : ∃ y, y = plL xs := ⟨_, rfl⟩
  obtain ⟨Bk, hBk⟩ : ∃ L, L = (dbO xs).getD [] := ⟨_, rfl⟩
  obtain ⟨Ah, hAh⟩ : ∃ L, L = (daO xs).getD [] := ⟨_, rfl⟩
  obtain ⟨Fm, hFm⟩ : ∃ L, L = (flO xs).getD [] := ⟨_, rfl⟩
  obtain ⟨Fp, hFp⟩ : ∃ L, L = (fpO xs).getD [] := ⟨_, rfl⟩
  obtain ⟨G, hG⟩ : ∃ G, G = ggV xs := ⟨_, rfl⟩
  have sB : (dbO xs).isSome = y := by rw [hy]; unfold dbO; cases plL xs <;> rfl
  have sA : (daO xs).isSome = y := by rw [hy]; unfold daO; cases plL xs <;> rfl
  have sF : (flO xs).isSome = y := by rw [hy]; unfold flO; cases plL xs <;> rfl
  have sP : (fpO xs).isSome = y := by rw [hy]; unfold fpO; cases plL xs <;> rfl
  have k0 := fun (W : World) (u : Value) (ha : ArgL W u xs) => implDistancesBack_arg W u xs ha
  have k1 := fun (W : World) (u : Value) (ha : ArgL W u xs) => specDistancesBack_arg W u xs ha
  have k2 := fun (W : World) (u : Value) (ha : ArgL W u xs) => implDistancesAhead_arg W u xs ha
  have k3 := fun (W : World) (u : Value) (ha : ArgL W u xs) => specDistancesAhead_arg W u xs ha
  have k4 := fun (W : World) (u : Value) (ha : ArgL W u xs) => implFormOfList_arg W u xs ha
  have k5 := fun (W : World) (u : Value) (ha : ArgL W u xs) => specFormOfList_arg W u xs ha
  have k6 := fun (W : World) (u : Value) (ha : ArgL W u xs) => implFirstPlaces_arg W u xs ha
  have k7 := fun (W : World) (u : Value) (ha : ArgL W u xs) => specFirstPlaces_arg W u xs ha
  unfold IntsAOk at k0 k1 k2 k3 k4 k5 k6 k7
  rw [sB, ← hBk] at k0
  rw [sB, ← hBk] at k1
  rw [sA, ← hAh] at k2
  rw [sA, ← hAh] at k3
  rw [sF, ← hFm] at k4
  rw [sF, ← hFm] at k5
  rw [sP, ← hFp] at k6
  rw [sP, ← hFp] at k7
  have k8 := fun (W : World) (u : Value) (ha : ArgL W u xs) => implGreatestGap_arg W u xs ha
  have k9 := fun (W : World) (u : Value) (ha : ArgL W u xs) => specGreatestGap_arg W u xs ha
  rw [← hG, ← hy] at k8 k9
  have K0 := Lib.hid k0
  have K1 := Lib.hid k1
  have K2 := Lib.hid k2
  have K3 := Lib.hid k3
  have K4 := Lib.hid k4
  have K5 := Lib.hid k5
  have K6 := Lib.hid k6
  have K7 := Lib.hid k7
  have K8 := Lib.hid k8
  have K9 := Lib.hid k9
  have HY := Lib.hid hy; have HBk := Lib.hid hBk; have HAh := Lib.hid hAh; have HFm := Lib.hid hFm; have HFp := Lib.hid hFp; have HG := Lib.hid hG; have HL61 := Lib.hid True.intro
  have ey : (y != y) = false := by simp
  have eG : (G != G) = false := by simp
  clear k0 k1 k2 k3 k4 k5 k6 k7 k8 k9 hy hBk hAh hFm hFp hG sB sA sF sP
  go_wp2_with fail
  refine (K0.out _ _ Z.out).mono ?_
  rintro e x1 ⟨v1, rfl, ha, hb, _⟩
  replace Z := Lib.hid (argL_below Z.out hb)
  have B1 := Lib.hid ha
  have C1 := Lib.hid (below_trans C0.out hb)
  clear hb C0 ha K0
  go_wp2_with fail
  refine (K1.out _ _ Z.out).mono ?_
  rintro e x2 ⟨v2, rfl, ha, hb, _⟩
  replace Z := Lib.hid (argL_below Z.out hb)
  replace B1 := Lib.hid (intsA_below B1.out hb)
  have B2 := Lib.hid ha
  have C2 := Lib.hid (below_trans C1.out hb)
  clear hb C1 ha K1
  go_wp2_with fail
  refine (K2.out _ _ Z.out).mono ?_
  rintro e x3 ⟨v3, rfl, ha, hb, _⟩
  replace Z := Lib.hid (argL_below Z.out hb)
  replace B1 := Lib.hid (intsA_below B1.out hb)
  replace B2 := Lib.hid (intsA_below B2.out hb)
  have A1 := Lib.hid ha
  have C3 := Lib.hid (below_trans C2.out hb)
  clear hb C2 ha K2
  go_wp2_with fail
  refine (K3.out _ _ Z.out).mono ?_
  rintro e x4 ⟨v4, rfl, ha, hb, _⟩
  replace Z := Lib.hid (argL_below Z.out hb)
  replace B1 := Lib.hid (intsA_below B1.out hb)
  replace B2 := Lib.hid (intsA_below B2.out hb)
  replace A1 := Lib.hid (intsA_below A1.out hb)
  have A2 := Lib.hid ha
  have C4 := Lib.hid (below_trans C3.out hb)
  clear hb C3 ha K3
  go_wp2_with fail
  refine (K4.out _ _ Z.out).mono ?_
  rintro e x5 ⟨v5, rfl, ha, hb, _⟩
  replace Z := Lib.hid (argL_below Z.out hb)
  replace B1 := Lib.hid (intsA_below B1.out hb)
  replace B2 := Lib.hid (intsA_below B2.out hb)
  replace A1 := Lib.hid (intsA_below A1.out hb)
  replace A2 := Lib.hid (intsA_below A2.out hb)
  have F1 := Lib.hid ha
  have C5 := Lib.hid (below_trans C4.out hb)
  clear hb C4 ha K4
  go_wp2_with fail
  refine (K5.out _ _ Z.out).mono ?_
  rintro e x6 ⟨v6, rfl, ha, hb, _⟩
  replace Z := Lib.hid (argL_below Z.out hb)
  replace B1 := Lib.hid (intsA_below B1.out hb)
  replace B2 := Lib.hid (intsA_below B2.out hb)
  replace A1 := Lib.hid (intsA_below A1.out hb)
  replace A2 := Lib.hid (intsA_below A2.out hb)
  replace F1 := Lib.hid (intsA_below F1.out hb)
  have F2 := Lib.hid ha
  have C6 := Lib.hid (below_trans C5.out hb)
  clear hb C5 ha K5
  go_wp2_with fail
  refine (K6.out _ _ Z.out).mono ?_
  rintro e x7 ⟨v7, rfl, ha, hb, _⟩
  replace Z := Lib.hid (argL_below Z.out hb)
  replace B1 := Lib.hid (intsA_below B1.out hb)
  replace B2 := Lib.hid (intsA_below B2.out hb)
  replace A1 := Lib.hid (intsA_below A1.out hb)
  replace A2 := Lib.hid (intsA_below A2.out hb)
  replace F1 := Lib.hid (intsA_below F1.out hb)
  replace F2 := Lib.hid (intsA_below F2.out hb)
  have P1 := Lib.hid ha
  have C7 := Lib.hid (below_trans C6.out hb)
  clear hb C6 ha K6
  go_wp2_with fail
  refine (K7.out _ _ Z.out).mono ?_
  rintro e x8 ⟨v8, rfl, ha, hb, _⟩
  replace Z := Lib.hid (argL_below Z.out hb)
  replace B1 := Lib.hid (intsA_below B1.out hb)
  replace B2 := Lib.hid (intsA_below B2.out hb)
  replace A1 := Lib.hid (intsA_below A1.out hb)
  replace A2 := Lib.hid (intsA_below A2.out hb)
  replace F1 := Lib.hid (intsA_below F1.out hb)
  replace F2 := Lib.hid (intsA_below F2.out hb)
  replace P1 := Lib.hid (intsA_below P1.out hb)
  have P2 := Lib.hid ha
  have C8 := Lib.hid (below_trans C7.out hb)
  clear hb C7 ha K7
  go_wp2_with fail
  refine (K8.out _ _ Z.out).mono ?_
  rintro e x9 ⟨rfl, hb⟩
  replace Z := Lib.hid (argL_below Z.out hb)
  replace B1 := Lib.hid (intsA_below B1.out hb)
  replace B2 := Lib.hid (intsA_below B2.out hb)
  replace A1 := Lib.hid (intsA_below A1.out hb)
  replace A2 := Lib.hid (intsA_below A2.out hb)
  replace F1 := Lib.hid (intsA_below F1.out hb)
  replace F2 := Lib.hid (intsA_below F2.out hb)
  replace P1 := Lib.hid (intsA_below P1.out hb)
  replace P2 := Lib.hid (intsA_below P2.out hb)
  have C9 := Lib.hid (below_trans C8.out hb)
  clear hb C8 K8
  go_wp2_with fail
  refine (K9.out _ _ Z.out).mono ?_
  rintro e x10 ⟨rfl, hb⟩
  replace Z := Lib.hid (argL_below Z.out hb)
  replace B1 := Lib.hid (intsA_below B1.out hb)
  replace B2 := Lib.hid (intsA_below B2.out hb)
  replace A1 := Lib.hid (intsA_below A1.out hb)
  replace A2 := Lib.hid (intsA_below A2.out hb)
  replace F1 := Lib.hid (intsA_below F1.out hb)
  replace F2 := Lib.hid (intsA_below F2.out hb)
  replace P1 := Lib.hid (intsA_below P1.out hb)
  replace P2 := Lib.hid (intsA_below P2.out hb)
  have C10 := Lib.hid (below_trans C9.out hb)
  clear hb C9 K9
  go_wp2_with fail
  refine (qSame_self _ _ _ _ _ _ B1.out B2.out).mono ?_
  rintro e x11 ⟨rfl, hb⟩
  replace Z := Lib.hid (argL_below Z.out hb)
  replace B1 := Lib.hid (intsA_below B1.out hb)
  replace A1 := Lib.hid (intsA_below A1.out hb)
  replace A2 := Lib.hid (intsA_below A2.out hb)
  replace F1 := Lib.hid (intsA_below F1.out hb)
  replace F2 := Lib.hid (intsA_below F2.out hb)
  replace P1 := Lib.hid (intsA_below P1.out hb)
  replace P2 := Lib.hid (intsA_below P2.out hb)
  have C11 := Lib.hid (below_trans C10.out hb)
  clear hb C10 
  go_wp2_with fail
  refine (qSame_self _ _ _ _ _ _ A1.out A2.out).mono ?_
  rintro e x12 ⟨rfl, hb⟩
  replace Z := Lib.hid (argL_below Z.out hb)
  replace B1 := Lib.hid (intsA_below B1.out hb)
  replace A1 := Lib.hid (intsA_below A1.out hb)
  replace F1 := Lib.hid (intsA_below F1.out hb)
  replace F2 := Lib.hid (intsA_below F2.out hb)
  replace P1 := Lib.hid (intsA_below P1.out hb)
  replace P2 := Lib.hid (intsA_below P2.out hb)
  have C12 := Lib.hid (below_trans C11.out hb)
  clear hb C11 
  go_wp2_with fail
  refine (qSame_self _ _ _ _ _ _ F1.out F2.out).mono ?_
  rintro e x13 ⟨rfl, hb⟩
  replace Z := Lib.hid (argL_below Z.out hb)
  replace B1 := Lib.hid (intsA_below B1.out hb)
  replace A1 := Lib.hid (intsA_below A1.out hb)
  replace F1 := Lib.hid (intsA_below F1.out hb)
  replace P1 := Lib.hid (intsA_below P1.out hb)
  replace P2 := Lib.hid (intsA_below P2.out hb)
  have C13 := Lib.hid (below_trans C12.out hb)
  clear hb C12 
  go_wp2_with fail
  refine (qSame_self _ _ _ _ _ _ P1.out P2.out).mono ?_
  rintro e x14 ⟨rfl, hb⟩
  replace Z := Lib.hid (argL_below Z.out hb)
  replace B1 := Lib.hid (intsA_below B1.out hb)
  replace A1 := Lib.hid (intsA_below A1.out hb)
  replace F1 := Lib.hid (intsA_below F1.out hb)
  replace P1 := Lib.hid (intsA_below P1.out hb)
  have C14 := Lib.hid (below_trans C13.out hb)
  clear hb C13 
  go_upto_if 205 with fail
  go_cut [] from 205 to 205 (fun wx => Hid (Below x0.heap.size x0 wx))
  case first => as_aux_lemma =>
    cases y with
    | false =>
      go_wp2_with fail
      go_meet
      case rel => exact C14
    | true =>
      have hpl : plL xs = true := HY.out.symm
      obtain ⟨h1, h60, _⟩ := plL_open hpl
      have hBk : Bk = bkL xs := by rw [HBk.out]; unfold dbO; rw [if_pos hpl]; rfl
      have hAh : Ah = ahL xs := by rw [HAh.out]; unfold daO; rw [if_pos hpl]; rfl
      have hFm : Fm = fmL (bkL xs) := by rw [HFm.out]; unfold flO; rw [if_pos hpl]; rfl
      have hFp : Fp = pls (bkS xs) 0 xs.length := by rw [HFp.out]; unfold fpO; rw [if_pos hpl]; rfl
      have hG : G = mxS (bkS xs) xs.length := by rw [HG.out]; unfold ggV; rw [if_pos hpl]
      obtain ⟨N, hN⟩ : ∃ N, N = xs.length := ⟨_, rfl⟩
      obtain ⟨g0, o0, c0, E0, hc0, hd0⟩ := argL_atN (N := N) Z.out hN.symm (by omega)
      obtain ⟨q1, q2, q3⟩ : some ⟨g0, o0, none⟩ = A0 ∧ N = M0 ∧ c0 = T0 := by simpa only [Value.slice.injEq] using E0.symm
      subst q1; subst q2; subst q3
      obtain ⟨g1, c1, rfl, hc1, hd1⟩ := intsA_atN (N := N) B1.out (by rw [hBk, bkL_len, hN]) (by omega)
      obtain ⟨g3, c3, rfl, hc3, hd3⟩ := intsA_atN (N := N) A1.out (by rw [hAh, ahL_len, hN]) (by omega)
      obtain ⟨g5, c5, rfl, hc5, hd5⟩ := intsA_atN (N := N) F1.out (by rw [hFm, fmL_len, bkL_len, hN]) (by omega)
      obtain ⟨q1, q2, q3⟩ := form_dist hpl
      rw [← hBk] at q1 q3; rw [← hFm] at q2
      have hq3 : isF Fm = true := by rw [hFm]; exact form_is hpl
      have hq4 : bkL Fm = Bk := by rw [hFm, hBk]; exact form_keeps xs
      have hfd : fdB Bk = true := by unfold fdB; rw [q3, q1]; rfl
      have k0 := fun (W : World) (B : Nat) (u : Value) (ha : IntsA W B u Bk) => implAreDistances_any W B u Bk ha
      rw [hfd, q3] at k0
      have k1 := fun (W : World) (B : Nat) (u : Value) (ha : IntsA W B u Bk) => (implFormOfDistances_any W B u Bk ha).mono fun _ _ h => intsOk_some (L := Fm) (by unfold fdO; rw [if_pos hfd, hFm, hBk]) h
      have k2 := fun (W : World) (B : Nat) (u : Value) (ha : IntsA W B u Fm) => implIsForm_any W B u Fm ha
      rw [hq3, q2] at k2
      have k3 := fun (W : World) (B : Nat) (u : Value) (ha : IntsA W B u Fm) => (implDistancesBack_any W B u Fm ha).mono fun _ _ h => intsOk_some (L := Bk) (by unfold dbO; rw [if_pos q2, hq4]) h
      have K0 := Lib.hid k0; have K1 := Lib.hid k1; have K2 := Lib.hid k2; have K3 := Lib.hid k3
      have HPL := Lib.hid hpl; have HN := Lib.hid hN
      have HB := Lib.hid hBk; have HA := Lib.hid hAh; have HF := Lib.hid hFm; have HP := Lib.hid hFp; have HGG := Lib.hid hG
      have eN : ((N : Int) != (N : Int)) = false := by simp
      have hN60 : N ≤ 60 := by omega
      have hN1 : 1 ≤ N := by omega
      clear k0 k1 k2 k3 q1 q2 q3 hq3 hq4 hfd hN hBk hAh hFm hFp hG HBk HAh HFm HFp HG HY ey h1 h60 hpl
      go_wp2_with fail
      refine (K0.out _ _ _ B1.out).mono ?_
      rintro e x15 ⟨rfl, hb⟩
      replace Z := Lib.hid (argL_below Z.out hb)
      replace B1 := Lib.hid (intsA_below B1.out hb)
      replace A1 := Lib.hid (intsA_below A1.out hb)
      replace F1 := Lib.hid (intsA_below F1.out hb)
      replace P1 := Lib.hid (intsA_below P1.out hb)
      have C15 := Lib.hid (below_trans C14.out hb)
      clear hb C14 K0
      go_wp2_with fail
      refine (K1.out _ _ _ B1.out).mono ?_
      rintro e x16 ⟨v9, rfl, ha, hb⟩
      replace Z := Lib.hid (argL_below Z.out hb)
      replace B1 := Lib.hid (intsA_below B1.out hb)
      replace A1 := Lib.hid (intsA_below A1.out hb)
      replace F1 := Lib.hid (intsA_below F1.out hb)
      replace P1 := Lib.hid (intsA_below P1.out hb)
      have F3 := Lib.hid ha
      have C16 := Lib.hid (below_trans C15.out hb)
      clear hb C15 ha K1
      go_wp2_with fail
      refine (K2.out _ _ _ F1.out).mono ?_
      rintro e x17 ⟨rfl, hb⟩
      replace Z := Lib.hid (argL_below Z.out hb)
      replace B1 := Lib.hid (intsA_below B1.out hb)
      replace A1 := Lib.hid (intsA_below A1.out hb)
      replace F1 := Lib.hid (intsA_below F1.out hb)
      replace P1 := Lib.hid (intsA_below P1.out hb)
      replace F3 := Lib.hid (intsA_below F3.out hb)
      have C17 := Lib.hid (below_trans C16.out hb)
      clear hb C16 K2
      go_wp2_with fail
      refine (K3.out _ _ _ F1.out).mono ?_
      rintro e x18 ⟨v10, rfl, ha, hb⟩
      replace Z := Lib.hid (argL_below Z.out hb)
      replace B1 := Lib.hid (intsA_below B1.out hb)
      replace A1 := Lib.hid (intsA_below A1.out hb)
      replace F1 := Lib.hid (intsA_below F1.out hb)
      replace P1 := Lib.hid (intsA_below P1.out hb)
      replace F3 := Lib.hid (intsA_below F3.out hb)
      have B3 := Lib.hid ha
      have C18 := Lib.hid (below_trans C17.out hb)
      clear hb C17 ha K3
      go_wp2_with fail
      refine (qSame_self _ _ _ _ _ _ F3.out F1.out).mono ?_
      rintro e x19 ⟨rfl, hb⟩
      replace Z := Lib.hid (argL_below Z.out hb)
      replace B1 := Lib.hid (intsA_below B1.out hb)
      replace A1 := Lib.hid (intsA_below A1.out hb)
      replace F1 := Lib.hid (intsA_below F1.out hb)
      replace P1 := Lib.hid (intsA_below P1.out hb)
      replace B3 := Lib.hid (intsA_below B3.out hb)
      have C19 := Lib.hid (below_trans C18.out hb)
      clear hb C18 
      go_wp2_with fail
      refine (qSame_self _ _ _ _ _ _ B3.out B1.out).mono ?_
      rintro e x20 ⟨rfl, hb⟩
      replace Z := Lib.hid (argL_below Z.out hb)
      replace B1 := Lib.hid (intsA_below B1.out hb)
      replace A1 := Lib.hid (intsA_below A1.out hb)
      replace F1 := Lib.hid (intsA_below F1.out hb)
      replace P1 := Lib.hid (intsA_below P1.out hb)
      have C20 := Lib.hid (below_trans C19.out hb)
      clear hb C19 
      go_wp2_with fail
      go_loopw [39, 40, 283] (fun mv fv iv wr => ∃ (k f : Nat) (m : Int), k ≤ N ∧ f ≤ k ∧ mv = .int .i64 m ∧ fv = .int .i64 (f : Int) ∧ iv = .int .i64 (k : Int) ∧ Hid (m = mxS (bkS xs) k) ∧ Hid (f = (fmS (bkS xs) k).2) ∧ Hid (Below x20.heap.size x20 wr)) (fun _ _ iv _ => N - (intOf iv).toNat)
      case atStart => exact ⟨0, 0, 0, Nat.zero_le _, Nat.le_refl _, rfl, rfl, rfl, Lib.hid rfl, Lib.hid rfl, below_refl _⟩
      case round => as_aux_lemma =>
        obtain ⟨k, f, m, hk, hf, rfl, rfl, rfl, HM, HFR, HW⟩ := hrel
        by_cases hlt : k < N
        · obtain ⟨D, hD⟩ : ∃ D, D = bk (sq xs) k := ⟨_, rfl⟩
          obtain ⟨t1, t2, t3, t4, t5, t6, t7, t8, t9, t10⟩ := told_round HPL.out (by rw [← HN.out]; exact hlt) hD
          obtain ⟨X, hX⟩ : ∃ X, X = sq xs k := ⟨_, rfl⟩
          obtain ⟨Y, hYv⟩ : ∃ Y, Y = vF (bkS xs) k := ⟨_, rfl⟩
          obtain ⟨f', hf'⟩ : ∃ f', f' = (fmS (bkS xs) (k + 1)).2 := ⟨_, rfl⟩
          rw [← hX] at t3 t4 t5 t8 t10
          rw [← HN.out] at t8 t10
          rw [← HP.out] at t6
          rw [← hYv] at t7 t8
          rw [← HFR.out, ← hf'] at t8 t9
          rw [← HB.out] at t2
          rw [← HA.out] at t5
          rw [← HF.out] at t7
          obtain ⟨s1, s2⟩ := mx_step xs k m D hD HM.out
          obtain ⟨m', hm'⟩ : ∃ m', m' = mxS (bkS xs) (k + 1) := ⟨_, rfl⟩
          rw [← hm'] at s1 s2
          have c1 := intsA_cellq (intsA_below B1.out HW.out) t2
          have c2 := argL_cellq (argL_below Z.out HW.out) t3
          have c3' := intsA_cellq (intsA_below F1.out HW.out) t7
          have T2 := Lib.hid t2; have T3 := Lib.hid t3; have T5 := Lib.hid t5; have T6 := Lib.hid t6; have T7 := Lib.hid t7; have T8 := Lib.hid t8; have T9 := Lib.hid t9; have T10 := Lib.hid t10
          have HM' := Lib.hid hm'; have HF' := Lib.hid hf'; have S1 := Lib.hid s1; have S2 := Lib.hid s2
          clear hD hX hYv hf' hm' t2 t3 t5 t6 t7 t8 t9 t10 s1 s2 HM HFR
          have hDk : ¬ ((D : Int) > (k : Int)) := by omega
          have hD0 : ¬ ((D : Int) < 0) := by omega
          go_upto_if 290 with fail
          go_cut [39] from 290 to 291 (fun u wx => u = .int .i64 m' ∧ wx = wr)
          case first => as_aux_lemma =>
            by_cases hgt : (D : Int) > m
            · have e := S1.out hgt
              subst e
              go_wp2_with fail
              go_meet
              case rel => exact ⟨rfl, rfl⟩
            · have e := S2.out hgt
              subst e
              go_wp2_with fail
              go_meet
              case rel => exact ⟨rfl, rfl⟩
          case rest => as_aux_lemma =>
            obtain ⟨rfl, rfl⟩ := hcut
            go_upto_region 29 with fail
            go_cut [334] from 292 to 334 (fun u wx => u = .bool false ∧ Hid (Below x20.heap.size x20 wx))
            case first => as_aux_lemma =>
              by_cases h0 : D = 0
              · have hd : decide (((k : Int) + 1) ∈ Fp) = true := decide_eq_true (T6.out.2 h0)
                have hq0 := fun (W : World) (hb : Below x20.heap.size x20 W) => qHas_any W _ _ Fp ((k : Int) + 1) (intsA_below P1.out hb)
                rw [hd] at hq0
                have hq : ∀ n : Int, n = (k : Int) + 1 → ∀ W : World, Below x20.heap.size x20 W → Calls Try.prog 20 #[v7, .int .i64 n] W fun e w' => e = .returned (.bool true) ∧ W = w' := fun n hn W hb => by
                  subst hn
                  exact hq0 W hb
                have HQ := Lib.hid hq
                have e1 : ((D : Int) == 0) = true := by simp; omega
                have e2 : decide ((D : Int) > 0) = false := decide_eq_false (by omega)
                have hDkb : decide ((D : Int) > (k : Int)) = false := decide_eq_false hDk
                have hD0b : decide ((D : Int) < 0) = false := decide_eq_false hD0
                have p1 : decide (k < D) = false := decide_eq_false (by omega)
                have p2 : ¬ k < D := by omega
                have g5 : IntKind.i64.wrap ((k : Int) + 1) = (k : Int) + 1 := IntWalk.i64_in _ (by omega)
                have p3 : ¬ 0 < D := by omega
                have p4 : decide (0 < D) = false := decide_eq_false p3
                have H0 := Lib.hid h0
                clear hDk hD0 h0
                have e3 : (true != true) = false := rfl
                clear hq hq0 hd
                go_wp2_with fail
                go_big_quiet (first | (go_at_call 20; exact Calls.quiet_of_same ((HQ.out _ (by first | rfl | go_num) _ (HW.out.trans (belowN _ _ _))).mono (fun _ _ h => ⟨h.1, h.2.symm⟩))))
                go_wp2_with fail
                go_meet
                case rel => exact ⟨rfl, Lib.hid (HW.out.trans (belowN _ _ _))⟩
              · have hd : decide (((k : Int) + 1) ∈ Fp) = false := decide_eq_false (fun hh => h0 (T6.out.1 hh))
                have hq0 := fun (W : World) (hb : Below x20.heap.size x20 W) => qHas_any W _ _ Fp ((k : Int) + 1) (intsA_below P1.out hb)
                rw [hd] at hq0
                have hq : ∀ n : Int, n = (k : Int) + 1 → ∀ W : World, Below x20.heap.size x20 W → Calls Try.prog 20 #[v7, .int .i64 n] W fun e w' => e = .returned (.bool false) ∧ W = w' := fun n hn W hb => by
                  subst hn
                  exact hq0 W hb
                have HQ := Lib.hid hq
                have e1 : ((D : Int) == 0) = false := beq_eq_false_iff_ne.2 (by omega)
                have e2 : (D : Int) > 0 := by omega
                have hDkb : decide ((D : Int) > (k : Int)) = false := decide_eq_false hDk
                have hD0b : decide ((D : Int) < 0) = false := decide_eq_false hD0
                have p1 : decide (k < D) = false := decide_eq_false (by omega)
                have p2 : ¬ k < D := by omega
                have g5 : IntKind.i64.wrap ((k : Int) + 1) = (k : Int) + 1 := IntWalk.i64_in _ (by omega)
                have p3 : 0 < D := by omega
                have p4 : decide (0 < D) = true := decide_eq_true p3
                have p5 : decide (D = 0) = false := decide_eq_false h0
                clear hDk hD0
                have e3 : (false != false) = false := rfl
                obtain ⟨u1, u2⟩ := T5.out (by omega)
                obtain ⟨J, hJ⟩ : ∃ J, J = k - D := ⟨_, rfl⟩
                rw [← hJ] at u1 u2
                have c4 := argL_cellq (argL_below Z.out HW.out) u1
                have c5 := intsA_cellq (intsA_below A1.out HW.out) u2
                have c6 := argL_cellq (argL_below Z.out HW.out) T3.out
                have hJI : (k : Int) - (D : Int) = (J : Int) := by omega
                have hJN : J < N := by omega
                have g6 : IntKind.i64.wrap ((k : Int) - (D : Int)) = (J : Int) := by rw [hJI]; exact IntWalk.i64_in _ (by omega)
                have i1 : (J : Int) < (N : Int) := by omega
                have i2 : (k : Int) < (N : Int) := by omega
                have e4 : (X != X) = false := by simp
                have e5 : ((D : Int) != (D : Int)) = false := by simp
                clear hq hq0 hd u1 u2 hJ
                go_wp2_with fail
                go_big_quiet (first | (go_at_call 20; exact Calls.quiet_of_same ((HQ.out _ (by first | rfl | go_num) _ (HW.out.trans (belowN _ _ _))).mono (fun _ _ h => ⟨h.1, h.2.symm⟩))))
                go_wp2_with fail
                go_meet
                case rel => exact ⟨rfl, Lib.hid (HW.out.trans (belowN _ _ _))⟩
            case rest => as_aux_lemma =>
              obtain ⟨rfl, HW2⟩ := hcut
              obtain ⟨wx, hwx⟩ : ∃ x, x = wc := ⟨_, rfl⟩
              subst hwx
              clear c1 c2 c3' HW
              have c2 := argL_cellq (argL_below Z.out HW2.out) T3.out
              have c3' := intsA_cellq (intsA_below F1.out HW2.out) T7.out
              obtain ⟨PL, hPL⟩ : ∃ L, L = pls (sq xs) X N := ⟨_, rfl⟩
              have t8 := T8.out; have t10 := T10.out
              rw [← hPL] at t8 t10
              have hpn : pnO xs X = some PL := by
                unfold pnO pnB
                rw [if_pos (by rw [HPL.out, decide_eq_true t4]; rfl), hPL, HN.out]
              have hn := fun (W : World) (hb : Below x20.heap.size x20 W) => (implPlacesOfNumber_arg W _ xs X (argL_below Z.out hb)).mono fun _ _ h => intsOk_some (L := PL) hpn h
              have HPN := Lib.hid hn
              have T8' := Lib.hid t8; have T10' := Lib.hid t10
              clear hn hpn t8 t10 hPL
              by_cases h0 : D = 0
              · obtain ⟨u1, u2, u3⟩ := T8'.out h0
                have U3 := Lib.hid u3
                have e1 : ((D : Int) == 0) = true := by simp; omega
                have e2 : (Y != Y) = false := by simp
                have e3 : (f : Int) + 1 = Y := u1.symm
                have e4 : Y ≤ 61 := by omega
                have e5 : ((k : Int) + 1 != (k : Int) + 1) = false := by simp
                have e6 : 0 ≤ Y := by omega
                have U2 := Lib.hid u2; have U1 := Lib.hid u1
                clear u1 u2 u3 T2 T3 T5 T6 T7 T8 T8' T9 T10
                go_wp2_with fail
                refine (HPN.out _ HW2.out).mono ?_
                rintro e z1 ⟨v11, rfl, ha, hb⟩
                have HW3 := Lib.hid (HW2.out.trans (hb.mono HW2.out.size))
                have Q1 := Lib.hid ha
                obtain ⟨L, hL⟩ : ∃ L, L = PL.length := ⟨_, rfl⟩
                have h0L : 0 < L := by rw [hL]; exact (List.getElem?_eq_some_iff.1 U3.out).1
                obtain ⟨g7, c7, rfl, hc7, hd7⟩ := intsA_atN (N := L) Q1.out hL.symm (by omega)
                have c8 := intsA_cellq Q1.out U3.out
                have hh := qHas_any z1 _ _ PL ((k : Int) + 1) Q1.out
                rw [decide_eq_true T10'.out] at hh
                have HH := Lib.hid hh
                clear hh ha hb hL HPN
                go_wp2_with fail
                refine HH.out.mono ?_
                rintro e z2 ⟨rfl, rfl⟩
                go_wp2_with fail
                go_roundw
                case rel => exact ⟨k + 1, f', m', by omega, by have := U2.out; omega, rfl, by have := U2.out; have := U1.out; go_num, by go_num, HM', HF', HW3⟩
                case measure => simp [intOf] <;> omega
              · have u2 := T9.out (by omega)
                have U2 := Lib.hid u2
                have e1 : ((D : Int) == 0) = false := beq_eq_false_iff_ne.2 (by omega)
                clear u2 T2 T3 T5 T6 T7 T8 T8' T9 T10
                go_wp2_with fail
                refine (HPN.out _ HW2.out).mono ?_
                rintro e z1 ⟨v11, rfl, ha, hb⟩
                have HW3 := Lib.hid (HW2.out.trans (hb.mono HW2.out.size))
                have Q1 := Lib.hid ha
                have hh := qHas_any z1 _ _ PL ((k : Int) + 1) Q1.out
                rw [decide_eq_true T10'.out] at hh
                have HH := Lib.hid hh
                clear hh ha hb HPN
                go_wp2_with fail
                refine HH.out.mono ?_
                rintro e z2 ⟨rfl, rfl⟩
                go_wp2_with fail
                go_roundw
                case rel => exact ⟨k + 1, f, m', by omega, by omega, rfl, rfl, by go_num, HM', Lib.hid (by rw [← U2.out]; exact HF'.out), HW3⟩
                case measure => simp [intOf] <;> omega
        · obtain rfl : k = N := by omega
          have hmG : m = G := by rw [HM.out, HGG.out, HN.out]
          subst hmG
          have hs1 := fun (W : World) (hb : Below x20.heap.size x20 W) => qSum_any W _ _ Bk (intsA_below B1.out hb) (by rw [HB.out]; exact bkL_bd HPL.out) (by rw [HB.out, bkL_len, ← HN.out]; omega)
          have hs2 := fun (W : World) (hb : Below x20.heap.size x20 W) => qSum_any W _ _ Ah (intsA_below A1.out hb) (by rw [HA.out]; exact ahL_bd HPL.out) (by rw [HA.out, ahL_len, ← HN.out]; omega)
          have hsum : Ah.sum = Bk.sum := by rw [HA.out, HB.out]; exact (back_ahead_sum xs).symm
          rw [hsum] at hs2
          obtain ⟨SB, hSB⟩ : ∃ S, S = Bk.sum := ⟨_, rfl⟩
          rw [← hSB] at hs1 hs2
          have H1 := Lib.hid hs1; have H2 := Lib.hid hs2
          have e1 : (m != m) = false := by simp
          have e2 : (SB != SB) = false := by simp
          clear hs1 hs2 hsum hSB HM HFR
          go_wp2_with fail
          refine (H1.out _ HW.out).mono ?_
          rintro e z1 ⟨rfl, rfl⟩
          go_wp2_with fail
          refine (H2.out _ HW.out).mono ?_
          rintro e z2 ⟨rfl, rfl⟩
          go_wp2_with fail
          go_meet
          case rel => exact Lib.hid (below_trans C20.out HW.out)
  case rest => as_aux_lemma =>
    have D0 := hcut; clear hcut C14 HY HBk HAh HFm HFp HG ey eG Z B1 A1 F1 P1 HL61
    obtain ⟨d1, hd1⟩ : ∃ x, x = wc := ⟨_, rfl⟩
    subst hd1
    replace Z1 := Lib.hid (argL_below Z1.out D0.out)
    replace Z2 := Lib.hid (argL_below Z2.out D0.out)
    replace Z3 := Lib.hid (argL_below Z3.out D0.out)
    have D1 := D0
    clear D0
    obtain ⟨y1, hy1⟩ : ∃ y, y = plL fs := ⟨_, rfl⟩
    obtain ⟨t1, ht1⟩ : ∃ y, y = isF fs := ⟨_, rfl⟩
    have k0 := fun (W : World) (u : Value) (ha : ArgL W u fs) => implIsForm_arg W u fs ha
    have k1 := fun (W : World) (u : Value) (ha : ArgL W u fs) => specIsForm_arg W u fs ha
    rw [← hy1, ← ht1] at k0 k1
    have K0 := Lib.hid k0; have K1 := Lib.hid k1; have HY1 := Lib.hid hy1; have HT1 := Lib.hid ht1
    clear k0 k1 hy1 ht1
    go_wp2_with fail
    refine (K0.out _ _ Z1.out).mono ?_
    rintro e d2 ⟨rfl, hb⟩
    replace Z1 := Lib.hid (argL_below Z1.out hb)
    replace Z2 := Lib.hid (argL_below Z2.out hb)
    replace Z3 := Lib.hid (argL_below Z3.out hb)
    have D2 := Lib.hid (below_trans D1.out hb)
    clear hb D1 K0
    go_wp2_with fail
    refine (K1.out _ _ Z1.out).mono ?_
    rintro e d3 ⟨rfl, hb⟩
    replace Z1 := Lib.hid (argL_below Z1.out hb)
    replace Z2 := Lib.hid (argL_below Z2.out hb)
    replace Z3 := Lib.hid (argL_below Z3.out hb)
    have D3 := Lib.hid (below_trans D2.out hb)
    clear hb D2 K1
    obtain ⟨y2, hy2⟩ : ∃ y, y = plL ds := ⟨_, rfl⟩
    obtain ⟨t2, ht2⟩ : ∃ y, y = fdB ds := ⟨_, rfl⟩
    obtain ⟨Md, hMd⟩ : ∃ L, L = (fdO ds).getD [] := ⟨_, rfl⟩
    have s2 : (fdO ds).isSome = t2 := by rw [ht2]; unfold fdO; cases fdB ds <;> rfl
    have k0 := fun (W : World) (u : Value) (ha : ArgL W u ds) => implFormOfDistances_arg W u ds ha
    have k1 := fun (W : World) (u : Value) (ha : ArgL W u ds) => specFormOfDistances_arg W u ds ha
    unfold IntsAOk at k0 k1
    rw [s2, ← hMd] at k0 k1
    have k2 := fun (W : World) (u : Value) (ha : ArgL W u ds) => implAreDistances_arg W u ds ha
    have k3 := fun (W : World) (u : Value) (ha : ArgL W u ds) => specAreDistances_arg W u ds ha
    rw [← hy2, ← ht2] at k2 k3
    have K0 := Lib.hid k0; have K1 := Lib.hid k1; have K2 := Lib.hid k2; have K3 := Lib.hid k3; have HY2 := Lib.hid hy2; have HT2 := Lib.hid ht2; have HMD := Lib.hid hMd
    clear k0 k1 k2 k3 hy2 ht2 hMd s2
    go_wp2_with fail
    refine (K0.out _ _ Z2.out).mono ?_
    rintro e d5 ⟨m1, rfl, ha, hb, _⟩
    replace Z1 := Lib.hid (argL_below Z1.out hb)
    replace Z2 := Lib.hid (argL_below Z2.out hb)
    replace Z3 := Lib.hid (argL_below Z3.out hb)
    have M1 := Lib.hid ha
    have D5 := Lib.hid (below_trans D3.out hb)
    clear hb D3 ha K0
    go_wp2_with fail
    refine (K1.out _ _ Z2.out).mono ?_
    rintro e d6 ⟨m2, rfl, ha, hb, _⟩
    replace Z1 := Lib.hid (argL_below Z1.out hb)
    replace Z2 := Lib.hid (argL_below Z2.out hb)
    replace Z3 := Lib.hid (argL_below Z3.out hb)
    replace M1 := Lib.hid (intsA_below M1.out hb)
    have M2 := Lib.hid ha
    have D6 := Lib.hid (below_trans D5.out hb)
    clear hb D5 ha K1
    go_wp2_with fail
    refine (K2.out _ _ Z2.out).mono ?_
    rintro e d7 ⟨rfl, hb⟩
    replace Z1 := Lib.hid (argL_below Z1.out hb)
    replace Z2 := Lib.hid (argL_below Z2.out hb)
    replace Z3 := Lib.hid (argL_below Z3.out hb)
    replace M1 := Lib.hid (intsA_below M1.out hb)
    replace M2 := Lib.hid (intsA_below M2.out hb)
    have D7 := Lib.hid (below_trans D6.out hb)
    clear hb D6 K2
    go_wp2_with fail
    refine (K3.out _ _ Z2.out).mono ?_
    rintro e d8 ⟨rfl, hb⟩
    replace Z1 := Lib.hid (argL_below Z1.out hb)
    replace Z2 := Lib.hid (argL_below Z2.out hb)
    replace Z3 := Lib.hid (argL_below Z3.out hb)
    replace M1 := Lib.hid (intsA_below M1.out hb)
    replace M2 := Lib.hid (intsA_below M2.out hb)
    have D8 := Lib.hid (below_trans D7.out hb)
    clear hb D7 K3
    obtain ⟨y3, hy3⟩ : ∃ y, y = (pnO ls n).isSome := ⟨_, rfl⟩
    obtain ⟨Pn, hPn⟩ : ∃ L, L = (pnO ls n).getD [] := ⟨_, rfl⟩
    have k0 := fun (W : World) (u : Value) (ha : ArgL W u ls) => implPlacesOfNumber_arg W u ls n ha
    have k1 := fun (W : World) (u : Value) (ha : ArgL W u ls) => specPlacesOfNumber_arg W u ls n ha
    unfold IntsAOk at k0 k1
    rw [← hy3, ← hPn] at k0 k1
    have K0 := Lib.hid k0; have K1 := Lib.hid k1
    clear k0 k1 hy3 hPn
    go_wp2_with fail
    refine (K0.out _ _ Z3.out).mono ?_
    rintro e d10 ⟨n1, rfl, ha, hb, _⟩
    replace Z1 := Lib.hid (argL_below Z1.out hb)
    replace Z2 := Lib.hid (argL_below Z2.out hb)
    replace Z3 := Lib.hid (argL_below Z3.out hb)
    replace M1 := Lib.hid (intsA_below M1.out hb)
    replace M2 := Lib.hid (intsA_below M2.out hb)
    have N1 := Lib.hid ha
    have D10 := Lib.hid (below_trans D8.out hb)
    clear hb D8 ha K0
    go_wp2_with fail
    refine (K1.out _ _ Z3.out).mono ?_
    rintro e d11 ⟨n2, rfl, ha, hb, _⟩
    replace Z1 := Lib.hid (argL_below Z1.out hb)
    replace Z2 := Lib.hid (argL_below Z2.out hb)
    replace Z3 := Lib.hid (argL_below Z3.out hb)
    replace M1 := Lib.hid (intsA_below M1.out hb)
    replace M2 := Lib.hid (intsA_below M2.out hb)
    replace N1 := Lib.hid (intsA_below N1.out hb)
    have N2 := Lib.hid ha
    have D11 := Lib.hid (below_trans D10.out hb)
    clear hb D10 ha K1
    have e1 : (y1 != y1) = false := by simp
    have e2 : (t1 != t1) = false := by simp
    have e3 : (t2 != t2) = false := by simp
    have e4 : (y2 != y2) = false := by simp
    have e5 : (y3 != y3) = false := by simp
    have himp : t2 = true → y2 = true := fun h => by
      have h2 := HT2.out.symm.trans h
      unfold fdB at h2
      rw [Bool.and_eq_true] at h2
      rw [HY2.out]; exact h2.1
    go_upto_region 49 with fail
    go_cut [475] from 428 to 475 (fun u wx => u = .bool false ∧ Hid (Below d11.heap.size d11 wx))
    case first => as_aux_lemma =>
      cases y2 with
      | false =>
        cases t2 with
        | true => exact absurd (himp rfl) (by simp)
        | false =>
          clear himp
          go_wp2_with fail
          refine (qSame_self _ _ _ _ _ _ M1.out M2.out).mono ?_
          rintro e z1 ⟨rfl, hb⟩
          have E1 := Lib.hid hb; replace N1 := Lib.hid (intsA_below N1.out hb); replace N2 := Lib.hid (intsA_below N2.out hb); clear hb
          go_wp2_with fail
          refine (qSame_self _ _ _ _ _ _ N1.out N2.out).mono ?_
          rintro e z2 ⟨rfl, hb⟩
          have E2 := Lib.hid (below_trans E1.out hb); clear hb
          go_wp2_with fail
          go_meet
          case rel => exact ⟨rfl, E2⟩
      | true =>
        clear himp
        cases t2 with
        | true =>
          go_wp2_with fail
          refine (qSame_self _ _ _ _ _ _ M1.out M2.out).mono ?_
          rintro e z1 ⟨rfl, hb⟩
          have E1 := Lib.hid hb; replace N1 := Lib.hid (intsA_below N1.out hb); replace N2 := Lib.hid (intsA_below N2.out hb); clear hb
          go_wp2_with fail
          refine (qSame_self _ _ _ _ _ _ N1.out N2.out).mono ?_
          rintro e z2 ⟨rfl, hb⟩
          have E2 := Lib.hid (below_trans E1.out hb); clear hb
          go_wp2_with fail
          go_meet
          case rel => exact ⟨rfl, E2⟩
        | false =>
          go_wp2_with fail
          refine (qSame_self _ _ _ _ _ _ M1.out M2.out).mono ?_
          rintro e z1 ⟨rfl, hb⟩
          have E1 := Lib.hid hb; replace N1 := Lib.hid (intsA_below N1.out hb); replace N2 := Lib.hid (intsA_below N2.out hb); clear hb
          go_wp2_with fail
          refine (qSame_self _ _ _ _ _ _ N1.out N2.out).mono ?_
          rintro e z2 ⟨rfl, hb⟩
          have E2 := Lib.hid (below_trans E1.out hb); clear hb
          go_wp2_with fail
          go_meet
          case rel => exact ⟨rfl, E2⟩
    case rest => as_aux_lemma =>
      obtain ⟨rfl, E0⟩ := hcut
      obtain ⟨x0, hx0⟩ : ∃ x, x = wc := ⟨_, rfl⟩
      subst hx0
      replace Z1 := Lib.hid (argL_below Z1.out E0.out)
      replace Z2 := Lib.hid (argL_below Z2.out E0.out)
      replace M1 := Lib.hid (intsA_below M1.out E0.out)
      have D12 := Lib.hid (below_trans D11.out E0.out)
      clear E0 D11 M2 N1 N2 himp
      go_upto_if 476 with fail
      go_cut [] from 476 to 476 (fun wx => Hid (Below x0.heap.size x0 wx))
      case first => as_aux_lemma =>
        cases y1 with
        | false =>
          go_wp2_with fail
          go_meet
          case rel => exact below_refl _
        | true =>
          have hpl : plL fs = true := HY1.out.symm
          have hfl : flO fs = some (fmL (bkL fs)) := by unfold flO; rw [if_pos hpl]
          have hti : t1 = decide (fmL (bkL fs) = fs) := by rw [HT1.out]; unfold isF; rw [hpl, Bool.true_and]
          obtain ⟨FF, hFF⟩ : ∃ L, L = fmL (bkL fs) := ⟨_, rfl⟩
          rw [← hFF] at hfl hti
          have h1 := (implFormOfList_arg x0 _ fs Z1.out).mono fun _ _ h => intsOk_some (L := FF) hfl h
          have H1 := Lib.hid h1; have HTI := Lib.hid hti
          clear h1 hti hfl hFF hpl HY1 HT1
          go_wp2_with fail
          refine H1.out.mono ?_
          rintro e z1 ⟨v12, rfl, ha, hb⟩
          have h2 := qSame_arg z1 v12 _ FF fs (argL_of_intsA ha) (argL_below Z1.out hb)
          rw [← HTI.out] at h2
          have H2 := Lib.hid h2; have E1 := Lib.hid hb
          clear h2 ha hb H1 HTI
          go_wp2_with fail
          refine H2.out.mono ?_
          rintro e z2 ⟨rfl, hb⟩
          have E2 := Lib.hid (below_trans E1.out hb); clear hb
          go_wp2_with fail
          go_meet
          case rel => exact E2
      case rest => as_aux_lemma =>
        replace Z2 := Lib.hid (argL_below Z2.out hcut.out)
        replace M1 := Lib.hid (intsA_below M1.out hcut.out)
        have D13 := Lib.hid (below_trans D12.out hcut.out)
        clear hcut D12 Z1 HY1 HT1
        cases t2 with
        | false =>
          go_wp2_with fail
          go_ret
          exact ⟨rfl, D13.out⟩
        | true =>
          have hfd : fdB ds = true := HT2.out.symm
          have hMd : Md = fmL ds := by rw [HMD.out]; unfold fdO; rw [if_pos hfd]; rfl
          obtain ⟨q1, q2⟩ : plL ds = true ∧ areB ds = true := by
            have := hfd
            unfold fdB at this
            rwa [Bool.and_eq_true] at this
          obtain ⟨q3, q4⟩ : okB ds = true ∧ bkL (fmL ds) = ds := by
            unfold areB at q2
            rw [Bool.and_eq_true, decide_eq_true_eq] at q2
            exact q2
          obtain ⟨r1, r2, _⟩ := plL_open q1
          have q5 := fmL_pl r1 r2 (okB_true q3 q1)
          have hdb : dbO Md = some ds := by rw [hMd]; unfold dbO; rw [if_pos q5, q4]
          have h1 := fun (W : World) (B : Nat) (u : Value) (ha : IntsA W B u Md) => (implDistancesBack_any W B u Md ha).mono fun _ _ h => intsOk_some (L := ds) hdb h
          have H1 := Lib.hid h1
          clear h1 hfd hMd q1 q2 q3 q4 q5 r1 r2 hdb HT2 HMD HY2
          go_wp2_with fail
          refine (H1.out _ _ _ M1.out).mono ?_
          rintro e z1 ⟨v12, rfl, ha, hb⟩
          have h2 := qSame_arg z1 v12 _ ds ds (argL_of_intsA ha) (argL_below Z2.out hb)
          rw [decide_eq_true rfl] at h2
          have H2 := Lib.hid h2; have E1 := Lib.hid (below_trans D13.out hb)
          clear h2 ha hb H1
          go_wp2_with fail
          refine H2.out.mono ?_
          rintro e z2 ⟨rfl, hb⟩
          have E2 := Lib.hid (below_trans E1.out hb); clear hb
          go_wp2_with fail
          go_ret
          exact ⟨rfl, E2.out⟩
end Go.Proofs.Ytpglkgpaaflikaa
