/- An argument of rows of numbers: read, measured and copied by the law's own helpers. -/
import Derived.Test.YtjjkfffddfanaaaI10
import Derived.Test.YtjjkfffddfanaaaI15
import Derived.Carry
import Derived.Deep.Matrix
namespace Go.Proofs.Ytjjkfffddfanaaa
open Go.RowKit Go.BigFrame
set_option linter.unusedSimpArgs false
set_option linter.unusedVariables false
set_option maxRecDepth 4000

theorem info_intX : (Try.prog.info? 3).map (fun i => (i.zero, i.size, i.bytes)) = some (some (.int .i64 0), 1, 8) := by kernel_rfl
theorem info_rowX : (Try.prog.info? 53).map (fun i => (i.zero, i.size, i.bytes)) = some (some (.slice none 0 0), 1, 24) := by kernel_rfl

/-- An argument's row of numbers. -/
def ArgI (w : World) (u : Value) (ns : List Int) : Prop :=
  ∃ A C, u = .slice A ns.length C ∧ ns.length ≤ C ∧ C ≤ 9223372036854775807 ∧
    ∀ c (hc : c < ns.length), ∃ b o, A = some ⟨b, o, none⟩ ∧ b < w.heap.size ∧ w.cell? ⟨b, o + c, none⟩ = some (.int .i64 ns[c])
/-- An argument's rows. -/
def ArgR (w : World) (v : Value) (nss : List (List Int)) : Prop :=
  ∃ A C, v = .slice A nss.length C ∧ nss.length ≤ C ∧ C ≤ 9223372036854775807 ∧
    ∀ r (hr : r < nss.length), ∃ b o u, A = some ⟨b, o, none⟩ ∧ b < w.heap.size ∧ w.cell? ⟨b, o + r, none⟩ = some u ∧ ArgI w u nss[r]
theorem argI_below {w w' : World} {u : Value} {ns : List Int} (h : ArgI w u ns) (hb : Below w.heap.size w w') : ArgI w' u ns := by
  obtain ⟨A, C, h1, h2, h3, h4⟩ := h
  refine ⟨A, C, h1, h2, h3, fun c hc => ?_⟩
  obtain ⟨b, o, e1, e2, e3⟩ := h4 c hc
  exact ⟨b, o, e1, Nat.lt_of_lt_of_le e2 hb.size, (hb.cell (p := ⟨b, o + c, none⟩) e2).trans e3⟩
theorem argR_below {w w' : World} {v : Value} {nss : List (List Int)} (h : ArgR w v nss) (hb : Below w.heap.size w w') : ArgR w' v nss := by
  obtain ⟨A, C, h1, h2, h3, h4⟩ := h
  refine ⟨A, C, h1, h2, h3, fun r hr => ?_⟩
  obtain ⟨b, o, u, e1, e2, e3, e4⟩ := h4 r hr
  exact ⟨b, o, u, e1, Nat.lt_of_lt_of_le e2 hb.size, (hb.cell (p := ⟨b, o + r, none⟩) e2).trans e3, argI_below e4 hb⟩

/-- The first k of a list, the others at rest. -/
def fillN {α : Type} (z : α) (l : List α) (k : Nat) : List α := (List.range l.length).map fun i => if i < k then l.getD i z else z
theorem fillN_len {α : Type} (z : α) (l : List α) (k : Nat) : (fillN z l k).length = l.length := by simp [fillN]
theorem fillN_zero {α : Type} (z : α) (l : List α) : fillN z l 0 = List.replicate l.length z := by
  refine List.ext_getElem (by simp [fillN]) fun i h1 h2 => ?_
  simp [fillN]
theorem fillN_all {α : Type} (z : α) (l : List α) : fillN z l l.length = l := by
  refine List.ext_getElem (by simp [fillN]) fun i h1 h2 => ?_
  simp [fillN, List.getD, h2]
theorem fillN_set {α : Type} (z : α) (l : List α) (k : Nat) (hk : k < l.length) : (fillN z l k).set k l[k] = fillN z l (k + 1) := by
  refine List.ext_getElem (by simp [fillN]) fun i h1 h2 => ?_
  have hi : i < l.length := by simpa [fillN] using h2
  rw [List.getElem_set]
  by_cases e : k = i
  · subst e
    simp [fillN, List.getD, hi]
  · rw [if_neg e]
    by_cases hlt : i < k
    · simp [fillN, hlt, show i < k + 1 by omega]
    · simp [fillN, hlt, show ¬ i < k + 1 by omega]

theorem own_lt {w : World} {B : Nat} {E : TypeId} {u : Value} {n : Nat} {xs : List Value} (h : w.ownsRow B E 1 u n xs) : ∀ g, u.ownBlock = some g → B ≤ g ∧ g < w.heap.size := by
  rcases own_open h with ⟨rfl, _⟩ | ⟨g', cap', rfl, h1, h2, _⟩
  · intro g hg; cases hg
  · intro g hg; cases hg; exact ⟨h1, h2⟩

/-- A row laid into one of the outer row's places. -/
theorem ownsRR_put {w : World} {B : Nat} {T E : TypeId} {g n cap : Nat} {vs : List Value} {xss : List (List Value)} (h : OwnsRR w B T E (.slice (some ⟨g, 0, none⟩) n cap) vs xss) (k : Nat) (hk : k < vs.length) {u : Value} {xs : List Value}
    (hu : w.ownsRow B E 1 u xs.length xs) (hfar : ∀ (j : Nat) (u' : Value), vs[j]? = some u' → Apart u' u) (hal : Apart u (.slice (some ⟨g, 0, none⟩) n cap)) :
    OwnsRR (w.setCell ⟨g, k, none⟩ u) B T E (.slice (some ⟨g, 0, none⟩) n cap) (vs.set k u) (xss.set k xs) := by
  have other : ∀ (u' : Value) (n' : Nat) (ys : List Value), w.ownsRow B E 1 u' n' ys → u'.ownBlock ≠ some g → (w.setCell ⟨g, k, none⟩ u).ownsRow B E 1 u' n' ys := by
    intro u' n' ys h1 h2
    refine own_block h1 (fun k' hk' => Below.heap_setCell _ _ _ _ ?_)
    intro e; exact h2 (by rw [hk']; exact congrArg some e)
  have hnv : n = vs.length := by
    rcases own_open h.outer with ⟨e, _⟩ | ⟨g', cap', e, _⟩
    · cases e
    · simp only [Value.slice.injEq] at e; exact e.2.1
  subst hnv
  refine ⟨?_, by simp [h.len], ?_, ?_, ?_⟩
  · have := (h.outer.stored k u).1
    rw [List.length_set]; exact this
  · intro i u' ys h1 h2
    by_cases e : i = k
    · subst e
      rw [List.getElem?_set_self hk] at h1; cases h1
      rw [List.getElem?_set_self (by rw [h.len]; exact hk)] at h2; cases h2
      exact other _ _ _ hu (fun e => hal g e rfl)
    · rw [List.getElem?_set_ne (fun e' => e e'.symm)] at h1 h2
      exact other _ _ _ (h.inner i u' ys h1 h2) (fun e => h.alone i _ h1 g e rfl)
  · intro i j u1 u2 hij h1 h2
    by_cases e : i = k
    · subst e
      rw [List.getElem?_set_self hk] at h1; cases h1
      rw [List.getElem?_set_ne (fun e' => hij e')] at h2
      exact (hfar j _ h2).symm
    · rw [List.getElem?_set_ne (fun e' => e e'.symm)] at h1
      by_cases e2 : j = k
      · subst e2
        rw [List.getElem?_set_self hk] at h2; cases h2
        exact hfar i _ h1
      · rw [List.getElem?_set_ne (fun e' => e2 e'.symm)] at h2
        exact h.apart i j _ _ hij h1 h2
  · intro i u' h1
    by_cases e : i = k
    · subst e
      rw [List.getElem?_set_self hk] at h1; cases h1
      exact hal
    · rw [List.getElem?_set_ne (fun e' => e e'.symm)] at h1
      exact h.alone i _ h1
theorem ownsRR_made {w : World} {B g N : Nat} {T E : TypeId} (h : w.ownsRow B T 1 (.slice (some ⟨g, 0, none⟩) N N) N (madeCells (Value.slice none 0 0).cells (N * 1)).toList) :
    OwnsRR w B T E (.slice (some ⟨g, 0, none⟩) N N) (List.replicate N (.slice none 0 0)) (List.replicate N []) := by
  have e : (madeCells (Value.slice none 0 0).cells (N * 1)).toList = List.replicate N (.slice none 0 0) := by
    rw [Nat.mul_one]; exact toList_madeCells_one _ _
  rw [e] at h
  have nil : ∀ (i : Nat) (u : Value), (List.replicate N (Value.slice none 0 0))[i]? = some u → u = .slice none 0 0 := by
    intro i u hu
    rw [List.getElem?_replicate] at hu
    split at hu <;> simp_all
  refine ⟨by rw [List.length_replicate]; exact h, by simp, ?_, ?_, ?_⟩
  · intro i u xs h1 h2
    rw [nil i u h1]
    rw [List.getElem?_replicate] at h2
    split at h2
    · cases h2; exact World.ownsRow_nil _ _ _ _
    · cases h2
  · intro i j u u' _ h1 _
    rw [nil i u h1]
    intro g hg; cases hg
  · intro i u h1
    rw [nil i u h1]
    intro g hg; cases hg

set_option maxRecDepth 100000 in
set_option maxHeartbeats 1000000 in
theorem toIntS_any (w : World) (u : Value) (ns : List Int) (h : ArgI w u ns) (hn : ns.length ≤ 1048576) :
    Calls Try.prog 60 #[u] w fun e w' => e = .returned (.slice (some ⟨w.heap.size, 0, none⟩) ns.length ns.length) ∧ Ints w' w.heap.size (.slice (some ⟨w.heap.size, 0, none⟩) ns.length ns.length) ns ∧ Below w.heap.size w w' := by
  obtain ⟨i0, hi, hz0, hz1, hz2⟩ := info_parts info_intX
  obtain ⟨A, C, rfl, hC, hCm, hcell⟩ := h
  obtain ⟨N, hN⟩ : ∃ N, N = ns.length := ⟨_, rfl⟩
  have HC := Lib.hid hcell
  have HN := Lib.hid hN
  rw [← hN] at hn hC ⊢
  clear hcell hN
  have hn64 : (N : Int) ≤ 9223372036854775807 := by omega
  go_enter Try.func60, Try.ntmps60
  go_wp2_with (refine wpList_make_full _ rfl _ _ 53 rfl w.heap.size 3 i0 (.int .i64 0) 1 Try.underlying53 hi hz0 hz1 .i64 .i64 (N : Int) (N : Int) N rfl rfl rfl rfl (by rw [hz2]; omega) (by unfold maxLen; omega) (Nat.le_refl _) ?_; intro w1 hown hgr; have HO := Lib.hid hown; have HB := Lib.hid ((Below.refl w.heap.size w).grown hgr (Nat.le_refl _) (fun k h => by cases h)); clear hown hgr)
  go_loopw [4] (fun iv wr => ∃ k : Nat, iv = .int .i64 k ∧ k ≤ N ∧ Hid (wr.ownsRow w.heap.size 3 1 (.slice (some ⟨w.heap.size, 0, none⟩) N N) N ((fillN 0 ns k).map (.int .i64)) ∧ Below w.heap.size w wr)) (fun iv _ => N - (intOf iv).toNat)
  case atStart =>
    refine ⟨0, rfl, Nat.zero_le _, ?_, HB.out⟩
    have e : (madeCells (Value.int .i64 0).cells (N * 1)).toList = (fillN (0 : Int) ns 0).map (.int .i64) := by
      rw [Nat.mul_one, fillN_zero, List.map_replicate, ← HN.out]; exact toList_madeCells_one _ _
    exact e ▸ HO.out
  case round =>
    obtain ⟨k, rfl, hk, HX⟩ := hrel
    by_cases hlt : k < N
    · obtain ⟨b, o, rfl, hb, hc⟩ := HC.out k (by rw [← HN.out]; exact hlt)
      have hcw : wr.cell? ⟨b, o + k, none⟩ = some (.int .i64 (ns[k]'(by rw [← HN.out]; exact hlt))) := (HX.out.2.cell (p := ⟨b, o + k, none⟩) hb).trans hc
      have hst := fillN_set (0 : Int) ns k (by rw [← HN.out]; exact hlt)
      obtain ⟨x, hx⟩ : ∃ x, x = ns[k]'(by rw [← HN.out]; exact hlt) := ⟨_, rfl⟩
      rw [← hx] at hcw hst
      have HST := Lib.hid hst
      have hd1 := HX.out.1.cellAt k (by simp [fillN_len, ← HN.out]; exact hlt)
      have hd2 := HX.out.1.frozenAt k
      obtain ⟨y, hy⟩ : ∃ y, y = ((fillN 0 ns k).map (Value.int .i64))[k]'(by simp [fillN_len, ← HN.out]; exact hlt) := ⟨_, rfl⟩
      rw [List.getElem?_eq_getElem (by simp [fillN_len, ← HN.out]; exact hlt), ← hy] at hd1
      clear hx hst hc hy
      go_wp2_with fail
      go_roundw
      case rel =>
        refine ⟨k + 1, by go_num, by omega, ?_, HX.out.2.setCell (p := ⟨w.heap.size, k, none⟩) (Nat.le_refl _) _⟩
        have := (HX.out.1.stored k (.int .i64 x)).1
        rw [← List.map_set, HST.out] at this
        exact this
      case measure => simp [intOf] <;> omega
    · obtain rfl : k = N := by omega
      go_wp2_with fail
      go_ret
      refine ⟨rfl, ?_, HX.out.2⟩
      have := HX.out.1
      unfold Ints
      rw [HN.out, fillN_all] at this
      rw [HN.out]; exact this

theorem szIntS_any (w : World) (u : Value) (ns : List Int) (h : ArgI w u ns) (left : Nat) (hl : left ≤ 1048576) :
    Calls Try.prog 57 #[u, .int .i64 left] w fun e w' => e = .returned (.int .i64 (if ns.length ≤ left then ((left - ns.length : Nat) : Int) else -1)) ∧ w = w' := by
  obtain ⟨A, C, rfl, hC, hCm, _⟩ := h
  obtain ⟨N, hN⟩ : ∃ N, N = ns.length := ⟨_, rfl⟩
  rw [← hN] at hC ⊢
  clear hN
  by_cases hle : N ≤ left
  · have hw : IntKind.i64.wrap ((left : Int) - (N : Int)) = ((left - N : Nat) : Int) := by rw [IntWalk.i64_in _ (by omega)]; omega
    rw [if_pos hle]
    obtain ⟨m, hm⟩ : ∃ m, m = left - N := ⟨_, rfl⟩
    rw [← hm] at hw ⊢
    clear hm
    go_enter Try.func57, Try.ntmps57
    go_wp2_with fail
    go_ret
    exact ⟨rfl, rfl⟩
  · have hw : IntKind.i64.wrap ((left : Int) - (N : Int)) = (left : Int) - (N : Int) := by rw [IntWalk.i64_in _ (by omega)]
    rw [if_neg hle]
    have hneg : (left : Int) - (N : Int) < 0 := by omega
    go_enter Try.func57, Try.ntmps57
    go_wp2_with fail
    go_ret
    exact ⟨rfl, rfl⟩

/-- All lengths are small. -/
def SmallR (nss : List (List Int)) : Prop := nss.length ≤ 1048576 ∧ ∀ r (hr : r < nss.length), nss[r].length ≤ 1048576
set_option maxRecDepth 100000 in
set_option maxHeartbeats 1000000 in
/-- Measured: below zero, or every length is small. -/
theorem szIntSS_any (w : World) (v : Value) (nss : List (List Int)) (h : ArgR w v nss) :
    Calls Try.prog 24 #[v, .int .i64 1048576] w fun e w' => (e = .returned (.int .i64 (-1)) ∨ ∃ m : Nat, e = .returned (.int .i64 m) ∧ SmallR nss) ∧ w = w' := by
  obtain ⟨A, C, rfl, hC, hCm, hcell⟩ := h
  obtain ⟨N, hN⟩ : ∃ N, N = nss.length := ⟨_, rfl⟩
  have HC := Lib.hid hcell
  have HN := Lib.hid hN
  rw [← hN] at hC ⊢
  clear hcell hN
  by_cases hle : N ≤ 1048576
  · have hw : IntKind.i64.wrap (1048576 - (N : Int)) = ((1048576 - N : Nat) : Int) := by rw [IntWalk.i64_in _ (by omega)]; omega
    obtain ⟨m, hm⟩ : ∃ m, m = 1048576 - N := ⟨_, rfl⟩
    have hm2 : m ≤ 1048576 := by omega
    have hm3 : decide ((m : Int) < 0) = false := by simp
    rw [← hm] at hw
    clear hm
    go_enter Try.func24, Try.ntmps24
    go_wp2_with fail
    go_loopw [1, 5] (fun lv iv wr => ∃ k l : Nat, iv = .int .i64 k ∧ lv = .int .i64 l ∧ k ≤ N ∧ l ≤ 1048576 ∧ Hid (w = wr ∧ ∀ r (hr : r < nss.length), r < k → nss[r].length ≤ 1048576)) (fun _ iv _ => N - (intOf iv).toNat)
    case atStart => exact ⟨0, m, rfl, rfl, Nat.zero_le _, hm2, rfl, fun r _ h => by omega⟩
    case round =>
      obtain ⟨k, l, rfl, rfl, hk, hl, HX⟩ := hrel
      obtain rfl := HX.out.1
      by_cases hlt : k < N
      · have hltn : k < nss.length := by rw [← HN.out]; exact hlt
        obtain ⟨b, o, u, rfl, hb, hc, hu⟩ := HC.out k hltn
        have hsz := szIntS_any w u nss[k] hu l hl
        have HSZ := Lib.hid hsz
        clear hsz hu
        go_wp2_with fail
        refine HSZ.out.mono ?_
        rintro e w2 ⟨rfl, rfl⟩
        by_cases hlen : nss[k].length ≤ l
        · rw [if_pos hlen]
          have HX2 : Hid (w = w ∧ ∀ r (hr : r < nss.length), r < k + 1 → nss[r].length ≤ 1048576) := ⟨rfl, fun r hr h => by
            by_cases e : r = k
            · subst e; omega
            · exact HX.out.2 r hr (by omega)⟩
          obtain ⟨q, hq⟩ : ∃ q, q = l - nss[k].length := ⟨_, rfl⟩
          have hq2 : q ≤ 1048576 := by omega
          have hq3 : decide ((q : Int) < 0) = false := by simp
          rw [← hq]
          clear hlen hq HSZ
          go_wp2_with fail
          go_roundw
          case rel => exact ⟨k + 1, q, by go_num, rfl, by omega, hq2, HX2.out⟩
          case measure => simp [intOf] <;> omega
        · rw [if_neg hlen]
          clear hlen HSZ
          go_wp2_with fail
          go_ret
          exact ⟨.inl rfl, rfl⟩
      · obtain rfl : k = N := by omega
        go_wp2_with fail
        go_ret
        exact ⟨.inr ⟨⟨l, rfl⟩, by rw [← HN.out]; exact hle, fun r hr => HX.out.2 r hr (by rw [HN.out]; exact hr)⟩, rfl⟩
  · have hw : IntKind.i64.wrap (1048576 - (N : Int)) = 1048576 - (N : Int) := by rw [IntWalk.i64_in _ (by omega)]
    have hneg : (1048576 : Int) - (N : Int) < 0 := by omega
    go_enter Try.func24, Try.ntmps24
    go_wp2_with fail
    go_ret
    exact ⟨.inl rfl, rfl⟩

set_option maxRecDepth 100000 in
set_option maxHeartbeats 1000000 in
theorem toIntSS_any (w : World) (v : Value) (nss : List (List Int)) (h : ArgR w v nss) (hn : nss.length ≤ 1048576) (hr : ∀ r (hr : r < nss.length), nss[r].length ≤ 1048576) :
    Calls Try.prog 26 #[v] w fun e w' => ∃ vs, e = .returned (.slice (some ⟨w.heap.size, 0, none⟩) nss.length nss.length) ∧ IntsRR w' w.heap.size (.slice (some ⟨w.heap.size, 0, none⟩) nss.length nss.length) vs nss ∧ Below w.heap.size w w' := by
  obtain ⟨i0, hi, hz0, hz1, hz2⟩ := info_parts info_rowX
  obtain ⟨A, C, rfl, hC, hCm, hcell⟩ := h
  obtain ⟨N, hN⟩ : ∃ N, N = nss.length := ⟨_, rfl⟩
  have HC := Lib.hid hcell
  have HN := Lib.hid hN
  have HR := Lib.hid hr
  rw [← hN] at hn hC ⊢
  clear hcell hN hr
  have hn64 : (N : Int) ≤ 9223372036854775807 := by omega
  go_enter Try.func26, Try.ntmps26
  go_wp2_with (refine wpList_make_full _ rfl _ _ 25 rfl w.heap.size 53 i0 (.slice none 0 0) 1 Try.underlying25 hi hz0 hz1 .i64 .i64 (N : Int) (N : Int) N rfl rfl rfl rfl (by rw [hz2]; omega) (by unfold maxLen; omega) (Nat.le_refl _) ?_; intro w1 hown hgr; have HO := Lib.hid hown; have HB := Lib.hid ((Below.refl w.heap.size w).grown hgr (Nat.le_refl _) (fun k h => by cases h)); clear hown hgr)
  go_loopw [4] (fun iv wr => ∃ k : Nat, iv = .int .i64 k ∧ k ≤ N ∧ Hid ((∃ vs, IntsRR wr w.heap.size (.slice (some ⟨w.heap.size, 0, none⟩) N N) vs (fillN [] nss k)) ∧ Below w.heap.size w wr)) (fun iv _ => N - (intOf iv).toNat)
  case atStart =>
    refine ⟨0, rfl, Nat.zero_le _, ⟨List.replicate N (.slice none 0 0), ?_⟩, HB.out⟩
    rw [fillN_zero]
    unfold IntsRR
    rw [List.map_replicate, ← HN.out]
    exact ownsRR_made HO.out
  case round =>
    obtain ⟨k, rfl, hk, HX⟩ := hrel
    by_cases hlt : k < N
    · have hltn : k < nss.length := by rw [← HN.out]; exact hlt
      obtain ⟨b, o, u, rfl, hb, hc, hu⟩ := HC.out k hltn
      have hcw : wr.cell? ⟨b, o + k, none⟩ = some u := (HX.out.2.cell (p := ⟨b, o + k, none⟩) hb).trans hc
      have hto := toIntS_any wr u nss[k] (argI_below hu HX.out.2) (HR.out k hltn)
      have HTO := Lib.hid hto
      clear hto hc
      go_wp2_with fail
      refine HTO.out.mono ?_
      rintro e w2 ⟨rfl, h2, h3⟩
      obtain ⟨⟨vs, hrr⟩, hbel⟩ := HX.out
      have hrr2 : IntsRR w2 w.heap.size (.slice (some ⟨w.heap.size, 0, none⟩) N N) vs (fillN [] nss k) := ownsRR_below hrr h3
      have hlv : vs.length = N := by
        have := hrr.len
        simp [fillN_len, ← HN.out] at this; exact this.symm
      have ho := hrr2.outer
      rw [hlv] at ho
      have hd1 := ho.cellAt k (by rw [Nat.mul_one]; exact hlt)
      have hd2 := ho.frozenAt k
      clear ho
      obtain ⟨y, hy⟩ : ∃ y, y = vs[k]'(by rw [hlv]; exact hlt) := ⟨_, rfl⟩
      rw [List.getElem?_eq_getElem (by rw [hlv]; exact hlt), ← hy] at hd1
      have hnew : IntsRR (w2.setCell ⟨w.heap.size, k, none⟩ (.slice (some ⟨wr.heap.size, 0, none⟩) nss[k].length nss[k].length)) w.heap.size (.slice (some ⟨w.heap.size, 0, none⟩) N N) (vs.set k (.slice (some ⟨wr.heap.size, 0, none⟩) nss[k].length nss[k].length)) (fillN [] nss (k + 1)) := by
        have h2' : Ints w2 w.heap.size (.slice (some ⟨wr.heap.size, 0, none⟩) nss[k].length nss[k].length) nss[k] := own_mono h2 hbel.size
        unfold Ints at h2'
        have := ownsRR_put hrr2 k (by rw [hlv]; exact hlt) (u := .slice (some ⟨wr.heap.size, 0, none⟩) nss[k].length nss[k].length) (xs := nss[k].map (.int .i64)) (by rw [List.length_map]; exact h2') (by
          intro j u' hj g hg e
          obtain ⟨u2, xs, e1, e2, e3⟩ := ownsRR_row hrr j (get_lt hj)
          rw [hj] at e1; cases e1
          have h6 := (own_lt e3 g hg).2
          have h7 : wr.heap.size = g := Option.some.inj e
          omega) (by
          intro g hg e
          have h5 := (own_lt hrr.outer w.heap.size rfl).2
          have h7 : wr.heap.size = g := Option.some.inj hg
          have h8 : w.heap.size = g := Option.some.inj e
          omega)
        rw [← List.map_set, fillN_set [] nss k hltn] at this
        exact this
      have HNEW := Lib.hid hnew
      have HB2 : Hid (Below w.heap.size w w2) := hbel.trans (h3.mono hbel.size)
      obtain ⟨m, hm⟩ : ∃ m, m = nss[k].length := ⟨_, rfl⟩
      rw [← hm] at HNEW ⊢
      clear hnew h2 h3 hrr hrr2 hbel hy hm hlv HTO hcw
      go_wp2_with fail
      go_roundw
      case rel => exact ⟨k + 1, by go_num, by omega, ⟨_, HNEW.out⟩, HB2.out.setCell (p := ⟨w.heap.size, k, none⟩) (Nat.le_refl _) _⟩
      case measure => simp [intOf] <;> omega
    · obtain rfl : k = N := by omega
      go_wp2_with fail
      go_ret
      obtain ⟨⟨vs, hrr⟩, hbel⟩ := HX.out
      refine ⟨vs, rfl, ?_, hbel⟩
      rw [HN.out, fillN_all] at hrr
      rw [HN.out]; exact hrr
end Go.Proofs.Ytjjkfffddfanaaa
