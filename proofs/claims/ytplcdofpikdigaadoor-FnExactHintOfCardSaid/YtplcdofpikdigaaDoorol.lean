/- Chapter 9: HintOf on both sides; its law. -/
import Derived.Test.YtplcdofpikdigaaDoorok
namespace Go.Proofs.YtplcdofpikdigaaDoor
open Go.RowKit Go.BigFrame
set_option linter.unusedSimpArgs false
set_option linter.unusedVariables false
set_option maxRecDepth 4000
attribute [local irreducible] wpStill wpAny

/-- A gap with a sure digit. -/
def hitB (W M : List UInt8) (i : Nat) : Bool := decide (W.getD i 0 = 46) && !decide (M.getD i 0 = 46)
def hintO (W M : List UInt8) : Option Nat := (List.range M.length).find? (hitB W M)
def hintI (W M : List UInt8) : Int := ((hintO W M).getD 0 : Nat)
def hintD (W M : List UInt8) : Int := match hintO W M with
  | some i => ((M.getD i 0).toNat : Int) - 48
  | none => 0
def hintB (W M : List UInt8) : Bool := (hintO W M).isSome
theorem find_range (p : Nat → Bool) (i : Nat) : ∀ n s, s ≤ i → i < s + n → (∀ j, s ≤ j → j < i → p j = false) → p i = true → (List.range' s n).find? p = some i
  | 0, s, h1, h2, _, _ => by omega
  | n + 1, s, h1, h2, h3, h4 => by
    rw [List.range'_succ, List.find?_cons]
    by_cases e : s = i
    · subst e; rw [h4]
    · rw [h3 s (Nat.le_refl _) (by omega)]
      exact find_range p i n (s + 1) (by omega) (by omega) (fun j h => h3 j (by omega)) h4
theorem hint_hit {W M : List UInt8} {i : Nat} (h : i < M.length) (hn : ∀ j, j < i → hitB W M j = false) (hh : hitB W M i = true) : hintI W M = (i : Int) ∧ hintD W M = ((M.getD i 0).toNat : Int) - 48 ∧ hintB W M = true := by
  have e : hintO W M = some i := by
    unfold hintO
    rw [List.range_eq_range']
    exact find_range _ i _ 0 (Nat.zero_le _) (by omega) (fun j _ hj => hn j hj) hh
  unfold hintI hintD hintB
  rw [e]
  exact ⟨rfl, rfl, rfl⟩
theorem hint_none {W M : List UInt8} (hn : ∀ j, j < M.length → hitB W M j = false) : hintI W M = 0 ∧ hintD W M = 0 ∧ hintB W M = false := by
  have e : hintO W M = none := by
    unfold hintO
    rw [List.find?_eq_none]
    intro j hj
    rw [hn j (List.mem_range.1 hj)]
    exact Bool.false_ne_true
  unfold hintI hintD hintB
  rw [e]
  exact ⟨rfl, rfl, rfl⟩
theorem comL_len (L : List (List UInt8)) : (comL L).length = (L.headD []).length := by simp [comL]
theorem sgnC_or (L : List (List UInt8)) (i m : Nat) : sgnC L i m = 46 ∨ sgnC L i m = (L.headD []).getD i 0 := by
  unfold sgnC; split
  · exact .inr rfl
  · exact .inl rfl
theorem comL_dig {W S : List UInt8} {D : Int} (hM : (comL (solL200 W S D)).length ≠ 0) : (comL (solL200 W S D)).length = W.length ∧ W.length ≤ 8 ∧ ∀ i, i < W.length → (comL (solL200 W S D)).getD i 0 = 46 ∨ (49 ≤ ((comL (solL200 W S D)).getD i 0).toNat ∧ ((comL (solL200 W S D)).getD i 0).toNat ≤ 57) := by
  rw [comL_len] at *
  have h : ∀ s ∈ solL200 W S D, _ := fun s h => sol_word h
  have h2 : ∀ s ∈ solL200 W S D, _ := fun s h => sol_mem h
  cases hL : solL200 W S D with
  | nil => rw [hL] at hM; simp at hM
  | cons x L =>
    rw [hL] at h h2
    have hx := h x (by simp)
    have hx2 := h2 x (by simp)
    have e : (List.headD (x :: L) []) = x := rfl
    refine ⟨by rw [e]; exact hx2.2.2.1, by have := hx2.2.2.1; omega, fun i hi => ?_⟩
    have hc : (comL (x :: L)).getD i 0 = sgnC (x :: L) i (x :: L).length := by
      have hi' : i < (comL (x :: L)).length := by rw [comL_len, e, hx2.2.2.1]; exact hi
      rw [getD_lt hi']
      simp [comL]
    rw [hc]
    rcases sgnC_or (x :: L) i (x :: L).length with h1 | h1
    · exact .inl h1
    · right
      rw [h1, e]
      have hi2 : i < x.length := by omega
      rw [getD_lt hi2]
      have := List.all_eq_true.1 hx.2.1 _ (List.getElem_mem hi2)
      unfold digB at this
      simp at this
      omega
def r0HintOf (W S : List UInt8) (D : Int) : Int := hintI W (comL (solL200 W S D))
def r1HintOf (W S : List UInt8) (D : Int) : Int := hintD W (comL (solL200 W S D))
def r2HintOf (W S : List UInt8) (D : Int) : Bool := hintB W (comL (solL200 W S D))

set_option maxHeartbeats 4000000 in
theorem implHintOf_any (W S : List UInt8) (D : Int) (w : World) (hW : W.length ≤ maxLen) (hS : S.length ≤ maxLen) :
    Calls Tryd.prog 27 #[pzV W S D] w fun e w' => e = .returned (.tuple #[.int .i64 (r0HintOf W S D), .int .i64 (r1HintOf W S D), .bool (r2HintOf W S D)]) ∧ Below w.heap.size w w' := by
  have hSW := fun W0 => implSureWord_any W S D W0 hW hS
  unfold r0HintOf r1HintOf r2HintOf
  unfold r0SureWord at hSW
  have hcd := comL_dig (W := W) (S := S) (D := D)
  generalize comL (solL200 W S D) = M at *
  generalize r1SureWord W S D = b at *
  obtain ⟨m, hm⟩ : ∃ m, m = M.length := ⟨_, rfl⟩
  obtain ⟨t, ht⟩ : ∃ t, t = bs W := ⟨_, rfl⟩
  obtain ⟨u, hu⟩ : ∃ u, u = bs M := ⟨_, rfl⟩
  have hus : u.size = m := by rw [hu, bs_size, hm]
  have hmW : m ≤ t.size := by
    rw [ht, bs_size, hm]
    by_cases e : M.length = 0
    · omega
    · rw [(hcd e).1]; exact Nat.le_refl _
  have hm8 : m ≤ 8 := by
    by_cases e : M.length = 0
    · omega
    · have := hcd e; omega
  have HTK : Hid (∀ k (h : k < t.size), t[k] = W.getD k 0) := Lib.hid (fun k h => by
    subst ht; rw [getD_lt (by rw [bs_size] at h; exact h)]; rfl)
  have HUK : Hid (∀ k (h : k < u.size), u[k] = M.getD k 0) := Lib.hid (fun k h => by
    subst hu; rw [getD_lt (by rw [bs_size] at h; exact h)]; rfl)
  have HDG : Hid (∀ k, k < m → M.getD k 0 = 46 ∨ (49 ≤ (M.getD k 0).toNat ∧ (M.getD k 0).toNat ≤ 57)) := Lib.hid (fun k h => by
    have := hcd (by omega)
    exact this.2.2 k (by omega))
  have HHIT := Lib.hid (fun (i : Nat) (h : i < m) (hn : ∀ j, j < i → hitB W M j = false) (hh : hitB W M i = true) => hint_hit (W := W) (M := M) (i := i) (by omega) hn hh)
  have HNONE := Lib.hid (fun (hn : ∀ j, j < m → hitB W M j = false) => hint_none (W := W) (M := M) (fun j hj => hn j (by rw [hm]; exact hj)))
  generalize hintI W M = R0 at *
  generalize hintD W M = R1 at *
  generalize hintB W M = R2 at *
  unfold pzV at hSW ⊢
  rw [← ht]
  simp only [← ht, ← hu] at hSW
  have HSW := Lib.hid hSW
  clear hSW hcd hm ht hu
  go_enter Tryd.func27, Tryd.ntmps27
  go_wp2_with fail
  refine (HSW.out _).mono ?_
  rintro e w1 ⟨rfl, hb⟩
  have HX := Lib.hid ((threeAt_new w (.string t) (.string (bs S)) (.int .i64 D) 28).below hb)
  have HB := Lib.hid (below_trans (below_alloc _ _) hb); clear hb
  go_wp2_with fail
  have HXw : Hid (∀ W0 : World, Below w1.heap.size w1 W0 → W0.cell? ⟨w.heap.size, 0, none⟩ = some (.string t)) := Lib.hid (fun W0 h => (HX.out.below h).cells.1)
  clear HX
  go_loopw [15] (fun iv wr => ∃ k : Nat, k ≤ m ∧ iv = .int .i64 (k : Int) ∧ Hid (∀ j, j < k → hitB W M j = false) ∧ Hid (Below w1.heap.size w1 wr)) (fun iv _ => m - (intOf iv).toNat)
  case atStart => exact ⟨0, Nat.zero_le _, rfl, fun j h => by omega, Below.refl _ _⟩
  case round =>
    obtain ⟨k, hk, rfl, HN, HY⟩ := hrel
    by_cases hlt : k < m
    · have hkt : k < t.size := by omega
      have hku : k < u.size := by omega
      have c0 := HXw.out wr HY.out
      obtain ⟨x, hx⟩ : ∃ x, x = W.getD k 0 := ⟨_, rfl⟩
      obtain ⟨y, hy⟩ : ∃ y, y = M.getD k 0 := ⟨_, rfl⟩
      have ex : t[k] = x := by rw [hx]; exact HTK.out k hkt
      have ey : u[k] = y := by rw [hy]; exact HUK.out k hku
      have hhb : hitB W M k = (decide (x = 46) && !decide (y = 46)) := by rw [hx, hy]; rfl
      have HHB := Lib.hid hhb
      have HDY := Lib.hid (show y = 46 ∨ (49 ≤ y.toNat ∧ y.toNat ≤ 57) by rw [hy]; exact HDG.out k hlt)
      have HYE := Lib.hid hy
      clear hx hy hhb
      by_cases hx46 : x = 46
      · have e1 : ((x.toNat : Int) == 46) = true := by rw [hx46]; rfl
        by_cases hy46 : y = 46
        · have e2 : ((y.toNat : Int) != 46) = false := by rw [hy46]; rfl
          have HN2 : Hid (∀ j, j < k + 1 → hitB W M j = false) := Lib.hid (fun j hj => by
            by_cases e : j = k
            · subst e; rw [HHB.out, hy46]; simp
            · exact HN.out j (by omega))
          clear hx46 hy46
          go_wp2_with fail
          exact ⟨⟨k + 1, by omega, by go_num, HN2, HY⟩, by simp [intOf]; omega⟩
        · have e2 : ((y.toNat : Int) != 46) = true := by
            simp only [bne_iff_ne, ne_eq]
            intro h; exact hy46 (UInt8.toNat_inj.1 (by have h46 : (46 : UInt8).toNat = 46 := rfl; omega))
          have HF := Lib.hid (HHIT.out k hlt HN.out (by rw [HHB.out, hx46]; simp [hy46]))
          have hdy := HDY.out.resolve_left hy46
          clear hx46 hy46
          have HDGO := Lib.hid (fun W0 : World => digitOf_u y.toNat W0 (by omega))
          have hdg : dgO y.toNat = (y.toNat : Int) - 48 := by unfold dgO; rw [if_pos (by omega)]
          rw [hdg] at HDGO
          rw [← HYE.out] at HF
          go_wp2_with fail
          refine (HDGO.out _).mono ?_
          rintro e w2 ⟨rfl, rfl⟩
          have HBF := Lib.hid (HB.out.trans (HY.out.mono HB.out.size))
          go_wp2_with fail
          go_ret3
          obtain ⟨e1, e2, e3⟩ := HF.out
          exact ⟨by rw [e1, e2, e3]; exact rfl, HBF.out⟩
      · have e1 : ((x.toNat : Int) == 46) = false := by
          simp only [beq_eq_false_iff_ne, ne_eq]
          intro h; exact hx46 (UInt8.toNat_inj.1 (by have h46 : (46 : UInt8).toNat = 46 := rfl; omega))
        have HN2 : Hid (∀ j, j < k + 1 → hitB W M j = false) := Lib.hid (fun j hj => by
          by_cases e : j = k
          · subst e; rw [HHB.out]; simp [hx46]
          · exact HN.out j (by omega))
        clear hx46
        go_wp2_with fail
        exact ⟨⟨k + 1, by omega, by go_num, HN2, HY⟩, by simp [intOf]; omega⟩
    · have hkn : k = m := by omega
      subst hkn
      have HF := Lib.hid (HNONE.out HN.out)
      have HBF := Lib.hid (HB.out.trans (HY.out.mono HB.out.size))
      go_wp2_with fail
      go_ret3
      obtain ⟨e1, e2, e3⟩ := HF.out
      exact ⟨by rw [e1, e2, e3]; exact rfl, HBF.out⟩

set_option maxHeartbeats 4000000 in
theorem specHintOf_any (W S : List UInt8) (D : Int) (w : World) (hW : W.length ≤ maxLen) (hS : S.length ≤ maxLen) :
    Calls Tryd.prog 26 #[pzV W S D] w fun e w' => e = .returned (.tuple #[.int .i64 (r0HintOf W S D), .int .i64 (r1HintOf W S D), .bool (r2HintOf W S D)]) ∧ Below w.heap.size w w' := by
  have H := Lib.hid (fun W0 => asked_post W S D W0 hW hS)
  unfold r0HintOf r1HintOf r2HintOf
  have hn := solL_none W S D
  have hle := solL_le W S D
  have hlen : ∀ s ∈ solL200 W S D, s.length = W.length := fun s h => (sol_mem h).2.2.1
  have hcd := comL_dig (W := W) (S := S) (D := D)
  generalize solB200 W S D = b at *
  generalize solL200 W S D = L at *
  obtain ⟨M, hM⟩ : ∃ M, M = comL L := ⟨_, rfl⟩
  rw [← hM] at hcd ⊢
  obtain ⟨m, hm⟩ : ∃ m, m = M.length := ⟨_, rfl⟩
  obtain ⟨t, ht⟩ : ∃ t, t = bs W := ⟨_, rfl⟩
  obtain ⟨u, hu⟩ : ∃ u, u = bs M := ⟨_, rfl⟩
  have hus : u.size = m := by rw [hu, bs_size, hm]
  have hmW : m ≤ t.size := by
    rw [ht, bs_size, hm]
    by_cases e : M.length = 0
    · omega
    · rw [(hcd e).1]; exact Nat.le_refl _
  have hm8 : m ≤ 8 := by
    by_cases e : M.length = 0
    · omega
    · have := hcd e; omega
  have HTK : Hid (∀ k (h : k < t.size), t[k] = W.getD k 0) := Lib.hid (fun k h => by
    subst ht; rw [getD_lt (by rw [bs_size] at h; exact h)]; rfl)
  have HUK : Hid (∀ k (h : k < u.size), u[k] = M.getD k 0) := Lib.hid (fun k h => by
    subst hu; rw [getD_lt (by rw [bs_size] at h; exact h)]; rfl)
  have HDG : Hid (∀ k, k < m → M.getD k 0 = 46 ∨ (49 ≤ (M.getD k 0).toNat ∧ (M.getD k 0).toNat ≤ 57)) := Lib.hid (fun k h => by
    have := hcd (by omega)
    exact this.2.2 k (by omega))
  have HHIT := Lib.hid (fun (i : Nat) (h : i < m) (hn : ∀ j, j < i → hitB W M j = false) (hh : hitB W M i = true) => hint_hit (W := W) (M := M) (i := i) (by omega) hn hh)
  have HNONE := Lib.hid (fun (hn : ∀ j, j < m → hitB W M j = false) => hint_none (W := W) (M := M) (fun j hj => hn j (by rw [hm]; exact hj)))
  have hW8 : m ≠ 0 → W.length ≤ 1000 := fun h => by have := hcd (by omega); omega
  generalize hintI W M = R0 at *
  generalize hintD W M = R1 at *
  generalize hintB W M = R2 at *
  unfold pzV at H ⊢
  rw [← ht]
  rw [← ht] at H
  clear ht
  cases b with
  | false =>
    have hm0 : m = 0 := by rw [hm, hM, hn rfl]; rfl
    have HF := Lib.hid (HNONE.out (fun j hj => by omega))
    clear hn hlen hcd hm hM hu
    go_enter Tryd.func26, Tryd.ntmps26
    go_wp2_with fail
    refine (H.out _).mono ?_
    rintro e w1 ⟨a, n, c, rfl, _, hb⟩
    have HB := Lib.hid (below_trans (below_alloc _ _) hb); clear hb
    go_wp2_with fail
    go_ret3
    obtain ⟨e1, e2, e3⟩ := HF.out
    exact ⟨by rw [e1, e2, e3]; exact rfl, HB.out⟩
  | true =>
    clear hn
    cases L with
    | nil =>
      have hm0 : m = 0 := by rw [hm, hM]; rfl
      have HF := Lib.hid (HNONE.out (fun j hj => by omega))
      clear hlen hcd hm hM hu
      go_enter Tryd.func26, Tryd.ntmps26
      go_wp2_with fail
      refine (H.out _).mono ?_
      rintro e w1 ⟨a, n, c, rfl, hx, hb⟩
      obtain rfl : n = 0 := (hx (by simp)).1
      have HB := Lib.hid (below_trans (below_alloc _ _) hb); clear hb hx
      go_wp2_with fail
      go_ret3
      obtain ⟨e1, e2, e3⟩ := HF.out
      exact ⟨by rw [e1, e2, e3]; exact rfl, HB.out⟩
    | cons x0 L =>
      have hlx := hlen x0 (by simp)
      have hmW2 : m = W.length := by rw [hm, hM, comL_len]; exact hlx
      obtain ⟨K, hK⟩ : ∃ K, K = x0 :: L := ⟨_, rfl⟩
      rw [← hK] at hle hlen H hM
      have hKp : 1 ≤ K.length := by rw [hK]; simp
      have HL := Lib.hid hlen
      have huK : u = bs (comL K) := by rw [hu, hM]
      have HUM := Lib.hid huK
      clear hK hlen hcd hm hM hu hW8 huK hlx
      go_enter Tryd.func26, Tryd.ntmps26
      go_wp2_with fail
      refine (H.out _).mono ?_
      rintro e w1 ⟨a, n, c, rfl, hx, hb⟩
      obtain ⟨hnl, hown⟩ := hx (by simp)
      have hn0 : 0 < n := by omega
      obtain ⟨g, rfl, hg, hcell⟩ := row_first hown hnl hn0
      have HT := Lib.hid (txts_row hnl hg hcell HL.out)
      have HC := Lib.hid (fun (w2 : World) (h : Below w1.heap.size w1 w2) => by
        have h2 := pzSure_any K g n W.length c w2 hnl (by omega) (by omega) (by omega) (HT.out.below h)
        rw [← HUM.out] at h2
        exact h2)
      have hnz : ((n : Int) == 0) = false := by simp; omega
      have HX1 := Lib.hid ((threeAt_new w (.string t) (.string (bs S)) (.int .i64 D) 28).below hb)
      have HB := Lib.hid (below_trans (below_alloc _ _) hb); clear hb hx hown hcell hnl
      go_wp2_with fail
      refine (HC.out _ (Below.refl _ _)).mono ?_
      rintro e w2 ⟨rfl, hb⟩
      have HX := Lib.hid (HX1.out.below hb)
      have HB2 := Lib.hid (HB.out.trans (hb.mono HB.out.size)); clear hb
      go_wp2_with fail
      have HXw : Hid (∀ W0 : World, Below w2.heap.size w2 W0 → W0.cell? ⟨w.heap.size, 0, none⟩ = some (.string t)) := Lib.hid (fun W0 h => (HX.out.below h).cells.1)
      clear HX
      go_loopw [8] (fun iv wr => ∃ k : Nat, k ≤ m ∧ iv = .int .i64 (k : Int) ∧ Hid (∀ j, j < k → hitB W M j = false) ∧ Hid (Below w2.heap.size w2 wr)) (fun iv _ => m - (intOf iv).toNat)
      case atStart => exact ⟨0, Nat.zero_le _, rfl, fun j h => by omega, Below.refl _ _⟩
      case round =>
        obtain ⟨k, hk, rfl, HN, HY⟩ := hrel
        by_cases hlt : k < m
        · have hkt : k < t.size := by omega
          have hku : k < u.size := by omega
          have c0 := HXw.out wr HY.out
          obtain ⟨x, hx⟩ : ∃ x, x = W.getD k 0 := ⟨_, rfl⟩
          obtain ⟨y, hy⟩ : ∃ y, y = M.getD k 0 := ⟨_, rfl⟩
          have ex : t[k] = x := by rw [hx]; exact HTK.out k hkt
          have ey : u[k] = y := by rw [hy]; exact HUK.out k hku
          have hhb : hitB W M k = (decide (x = 46) && !decide (y = 46)) := by rw [hx, hy]; rfl
          have HHB := Lib.hid hhb
          have HDY := Lib.hid (show y = 46 ∨ (49 ≤ y.toNat ∧ y.toNat ≤ 57) by rw [hy]; exact HDG.out k hlt)
          have HYE := Lib.hid hy
          clear hx hy hhb
          by_cases hx46 : x = 46
          · have e1 : ((x.toNat : Int) == 46) = true := by rw [hx46]; rfl
            by_cases hy46 : y = 46
            · have e2 : ((y.toNat : Int) != 46) = false := by rw [hy46]; rfl
              have HN2 : Hid (∀ j, j < k + 1 → hitB W M j = false) := Lib.hid (fun j hj => by
                by_cases e : j = k
                · subst e; rw [HHB.out, hy46]; simp
                · exact HN.out j (by omega))
              clear hx46 hy46
              go_wp2_with fail
              exact ⟨⟨k + 1, by omega, by go_num, HN2, HY⟩, by simp [intOf]; omega⟩
            · have e2 : ((y.toNat : Int) != 46) = true := by
                simp only [bne_iff_ne, ne_eq]
                intro h; exact hy46 (UInt8.toNat_inj.1 (by have h46 : (46 : UInt8).toNat = 46 := rfl; omega))
              have HF := Lib.hid (HHIT.out k hlt HN.out (by rw [HHB.out, hx46]; simp [hy46]))
              have hdy := HDY.out.resolve_left hy46
              clear hx46 hy46
              have hy1 : (0 : Int) ≤ (y.toNat : Int) - 48 := by omega
              have hy2 : (y.toNat : Int) - 48 ≤ 255 := by omega
              have hwr : IntKind.u8.wrap ((y.toNat : Int) - 48) = (y.toNat : Int) - 48 := by
                rw [IntKind.wrap_u8]; omega
              rw [← HYE.out] at HF
              go_wp2_with fail
              have HBF := Lib.hid (HB2.out.trans (HY.out.drew.mono HB2.out.size))
              refine wp_region_still_lit (by kernel_rfl) (by kernel_rfl) ?_
              repeat still_step
              refine wpStill_nil ?_
              change (Exit.then _ _) Exit.normal _ wr.drew
              generalize wr.drew = w4 at *
              go_wp2_with fail
              go_ret3
              obtain ⟨e1, e2, e3⟩ := HF.out
              exact ⟨by rw [e1, e2, e3, show IntKind.i64.wrap ((y.toNat : Int) - 48) = (y.toNat : Int) - 48 by rw [IntKind.wrap_i64]; omega]; exact rfl, HBF.out⟩
          · have e1 : ((x.toNat : Int) == 46) = false := by
              simp only [beq_eq_false_iff_ne, ne_eq]
              intro h; exact hx46 (UInt8.toNat_inj.1 (by have h46 : (46 : UInt8).toNat = 46 := rfl; omega))
            have HN2 : Hid (∀ j, j < k + 1 → hitB W M j = false) := Lib.hid (fun j hj => by
              by_cases e : j = k
              · subst e; rw [HHB.out]; simp [hx46]
              · exact HN.out j (by omega))
            clear hx46
            go_wp2_with fail
            exact ⟨⟨k + 1, by omega, by go_num, HN2, HY⟩, by simp [intOf]; omega⟩
        · have hkn : k = m := by omega
          subst hkn
          have HF := Lib.hid (HNONE.out HN.out)
          have HBF := Lib.hid (HB2.out.trans (HY.out.mono HB2.out.size))
          go_wp2_with fail
          go_ret3
          obtain ⟨e1, e2, e3⟩ := HF.out
          exact ⟨by rw [e1, e2, e3]; exact rfl, HBF.out⟩
set_option maxHeartbeats 4000000 in
theorem law_HintOf (W S : List UInt8) (D : Int) (w : World) (hW : W.length ≤ maxLen) (hS : S.length ≤ maxLen) :
    Calls Tryd.prog 8 #[pzV W S D] w fun e w' => e = .returned (.bool true) ∧ Below w.heap.size w w' := by
  have hsz := fun (W0 : World) => szPuzzle_any W0 W S D hW hS
  obtain ⟨t, ht⟩ : ∃ t, t = bs W := ⟨_, rfl⟩
  obtain ⟨u, hu⟩ : ∃ u, u = bs S := ⟨_, rfl⟩
  by_cases hn : W.length + S.length ≤ 1048576
  · obtain ⟨m, hm⟩ : ∃ m : Nat, m = 1048576 - (W.length + S.length) := ⟨_, rfl⟩
    simp only [if_pos hn, ← hm] at hsz
    have hT := fun (W0 : World) => toPuzzle_any W0 W S D
    have hSP := fun (W0 : World) => specHintOf_any W S D W0 (by first | omega | (unfold maxLen; omega)) (by first | omega | (unfold maxLen; omega))
    have hIM := fun (W0 : World) => implHintOf_any W S D W0 (by first | omega | (unfold maxLen; omega)) (by first | omega | (unfold maxLen; omega))
    obtain ⟨r0, hr0⟩ : ∃ r, r = r0HintOf W S D := ⟨_, rfl⟩
    obtain ⟨r1, hr1⟩ : ∃ r, r = r1HintOf W S D := ⟨_, rfl⟩
    obtain ⟨r2, hr2⟩ : ∃ r, r = r2HintOf W S D := ⟨_, rfl⟩
    simp only [pzV, ← ht, ← hu, ← hr0, ← hr1, ← hr2] at hsz hT hSP hIM ⊢
    have HSZ := Lib.hid hsz; have HT := Lib.hid hT; have HSP := Lib.hid hSP; have HIM := Lib.hid hIM
    have e0 : (r0 != r0) = false := by simp
    have e1 : (r1 != r1) = false := by simp
    have e2 : (r2 != r2) = false := by simp
    clear hsz hT hSP hIM hm hn ht hu hW hS hr0 hr1 hr2
    go_enter Tryd.func8, Tryd.ntmps8
    go_wp2_with fail
    refine (HSZ.out _).mono ?_
    rintro e w1 ⟨rfl, hb⟩
    have hx1 := (threeAt_new w (.string t) (.string u) (.int .i64 D) 23).below hb
    have HB1 := Lib.hid (below_trans (below_alloc _ _) hb)
    obtain ⟨c0, c1, c2, _, _, _⟩ := hx1.cells
    have HX1 := Lib.hid hx1; clear hb hx1
    go_wp2_with fail
    refine (HT.out _).mono ?_
    rintro e w2 ⟨rfl, hb⟩
    have hx2 := HX1.out.below hb
    have HB2 := Lib.hid (below_trans HB1.out hb)
    obtain ⟨d0, d1, d2, _, _, _⟩ := hx2.cells
    have HX2 := Lib.hid hx2; clear hb hx2 c0 c1 c2
    go_wp2_with fail
    refine (HSP.out _).mono ?_
    rintro e w3 ⟨rfl, hb⟩
    have hx3 := HX2.out.below hb
    have HB3 := Lib.hid (below_trans HB2.out hb)
    obtain ⟨c0, c1, c2, _, _, _⟩ := hx3.cells
    clear hb hx3 d0 d1 d2
    go_wp2_with fail
    refine (HT.out _).mono ?_
    rintro e w4 ⟨rfl, hb⟩
    have HB4 := Lib.hid (below_trans HB3.out hb)
    clear hb c0 c1 c2
    go_wp2_with fail
    refine (HIM.out _).mono ?_
    rintro e w5 ⟨rfl, hb⟩
    have HB5 := Lib.hid (below_trans HB4.out hb)
    clear hb
    go_wp2_with fail
    go_ret
    exact ⟨rfl, HB5.out⟩
  · simp only [if_neg hn] at hsz
    simp only [pzV, ← ht, ← hu] at hsz ⊢
    have HSZ := Lib.hid hsz
    clear hsz ht hu
    go_enter Tryd.func8, Tryd.ntmps8
    go_wp2_with fail
    refine (HSZ.out _).mono ?_
    rintro e w1 ⟨rfl, hb⟩
    have HB := Lib.hid hb; clear hb
    go_wp2_with fail
    go_ret
    exact ⟨rfl, below_trans (below_alloc _ _) HB.out⟩
end Go.Proofs.YtplcdofpikdigaaDoor
