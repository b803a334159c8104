/- Self-told lists in order: the model's taAll (a recursion), AllSelfTold, CountSelfTold. -/
import Derived.Test.YtkdoghopbefjfaaQ1
import Derived.Test.YtkdoghopbefjfaaU8
namespace Go.Proofs.Ytkdoghopbefjfaa
open Go.RowKit Go.BigFrame
set_option linter.unusedSimpArgs false
set_option linter.unusedVariables false
set_option maxRecDepth 4000

/-- append(s, nil...) is s. -/
theorem run_append_none {P : Program} (w : World) (t ty e : TypeId) (i : TypeInfo) (ht : P.underlying t = some (.slice e)) (hi : P.info? e = some i) (b : Option Addr) (n c : Nat) (h : n ≤ c) :
    (Builtin.append_ #[t, t] ty #[.slice b n c, .slice none 0 0]).run P w = .ok (.slice b n c) w := by
  cases b with
  | none => simp [Builtin.append_, run_underlying ht, sizeOf, typeInfo, hi, Builtin.lenOf, Builtin.firstCells, h]
  | some a => simp [Builtin.append_, run_underlying ht, sizeOf, typeInfo, hi, Builtin.lenOf, Builtin.firstCells, h, storeCells]
theorem wpList_app0 {P : Program} (w : World) {ops : Array Oper} {rest : List Oper} {o : Oper} {a : Act} {Q : Exit → Act → World → Prop} (hgd : o.guard = none) (s x : Operand) (t : TypeId)
    (ho : o.op = .call { callee := .builtin .append, args := #[s, x], argTypes := #[t, t] })
    (e : TypeId) (i : TypeInfo) (ht : P.underlying t = some (.slice e)) (hi : P.info? e = some i) (b : Option Addr) (n c : Nat) (hs : a.eval s = .slice b n c) (hx : a.eval x = .slice none 0 0) (hn : n ≤ c)
    (h : wpList P ops Q rest (a.put o.dst (.slice b n c)) w) : wpList P ops Q (o :: rest) a w := by
  refine wpList_plain hgd fun K hK => ?_
  unfold Oper.wp execOp
  simp only [ho, resolve, invoke, builtin, Sem.run_bind, Sem.run_pure, Result.andThen_ok, List.map_toArray, List.map_cons, List.map_nil, hs, hx, run_append_none w t o.type e i ht hi b n c hn]
  exact hK _ _ h
theorem app_get {α : Type} {l m : List α} {i : Nat} {x : α} (h : (l ++ m)[i]? = some x) : (i < l.length ∧ l[i]? = some x) ∨ (l.length ≤ i ∧ m[i - l.length]? = some x) := by
  by_cases e : i < l.length
  · exact .inl ⟨e, by rwa [List.getElem?_append_left e] at h⟩
  · exact .inr ⟨by omega, by rwa [List.getElem?_append_right (by omega)] at h⟩
/-- Rows behind the others: by the law on append. -/
theorem intsRA_app {w w' : World} {B B2 : Nat} {v v' u : Value} {vs us : List Value} {nss mss : List (List Int)} (h : IntsRA w B v vs nss) (hu : IntsRA w B2 u us mss) (hB : B ≤ B2)
    (hv : ∀ k, v.ownBlock = some k → k < B2) (hvs : ∀ (i : Nat) (x : Value), vs[i]? = some x → ∀ k, x.ownBlock = some k → k < B2)
    (hown : w'.ownsRow B 32 1 v' (vs.length + us.length) (vs ++ us)) (hg : w.grownBy w' v.ownBlock) (hw : v'.ownBlock = v.ownBlock ∨ v'.ownBlock = some w.heap.size) : IntsRA w' B v' (vs ++ us) (nss ++ mss) := by
  have keep : ∀ x ys, IntsA w B x ys → Apart x v → IntsA w' B x ys ∧ Apart x v' := by
    intro x ys h1 h2
    refine ⟨intsA_far h1 (fun k e => hg.block k ((intsA_lt h1 k e).2) (fun e' => h2 k e e'.symm)), ?_⟩
    intro k e1 e2
    rcases hw with hw | hw
    · rw [hw] at e2; exact h2 k e1 e2
    · rw [hw] at e2
      have := (intsA_lt h1 k e1).2
      have : w.heap.size = k := Option.some.inj e2
      omega
  have far : ∀ (i : Nat) (x : Value), us[i]? = some x → ∃ ys, mss[i]? = some ys ∧ IntsA w B2 x ys ∧ Apart x v := by
    intro i x hx
    have hi : i < mss.length := by rw [hu.len]; exact get_lt hx
    refine ⟨mss[i], List.getElem?_eq_getElem hi, hu.inner i x _ hx (List.getElem?_eq_getElem hi), ?_⟩
    intro k e1 e2
    have := (intsA_lt (hu.inner i x _ hx (List.getElem?_eq_getElem hi)) k e1).1
    have := hv k e2
    omega
  refine ⟨by simpa using hown, by simp [h.len, hu.len], ?_, ?_, ?_⟩
  · intro i x ys h1 h2
    rcases app_get h1 with ⟨e1, h1⟩ | ⟨e1, h1⟩ <;> rcases app_get h2 with ⟨e2, h2⟩ | ⟨e2, h2⟩
    · exact (keep x ys (h.inner i x ys h1 h2) (h.alone i x h1)).1
    · have := h.len; omega
    · have := h.len; omega
    · rw [h.len] at h2
      obtain ⟨ys', g1, g2, g3⟩ := far _ x h1
      rw [g1] at h2; cases h2
      exact (keep x ys (intsA_mono g2 hB) g3).1
  · intro i j x x' hij h1 h2
    rcases app_get h1 with ⟨e1, h1⟩ | ⟨e1, h1⟩ <;> rcases app_get h2 with ⟨e2, h2⟩ | ⟨e2, h2⟩
    · exact h.apart i j x x' hij h1 h2
    · obtain ⟨ys', g1, g2, g3⟩ := far _ x' h2
      intro k a1 a2
      have := (intsA_lt g2 k a2).1
      have := hvs i x h1 k a1
      omega
    · obtain ⟨ys', g1, g2, g3⟩ := far _ x h1
      intro k a1 a2
      have := (intsA_lt g2 k a1).1
      have := hvs j x' h2 k a2
      omega
    · exact hu.apart _ _ x x' (by omega) h1 h2
  · intro i x h1
    rcases app_get h1 with ⟨e1, h1⟩ | ⟨e1, h1⟩
    · obtain ⟨u', e1, e2⟩ := intsRA_row h i (by rw [h.len]; exact get_lt h1)
      rw [h1] at e1; cases e1
      exact (keep _ _ e2 (h.alone i x h1)).2
    · obtain ⟨ys', g1, g2, g3⟩ := far _ x h1
      exact (keep x ys' (intsA_mono g2 hB) g3).2

set_option maxHeartbeats 1000000 in
theorem l1OwnR_any (w : World) (B : Nat) (v : Value) (xs : List Int) (ha : IntsA w B v xs) (hnil : xs = [] → v = .slice none 0 0) (h9 : xs.length ≤ 1000) :
    Calls Try.prog 89 #[v] w fun e w' => ∃ q c, e = .returned (.slice q xs.length c) ∧ w'.ownsRow w.heap.size 3 1 (.slice q xs.length c) xs.length (ivs xs) ∧ Below w.heap.size w w' := by
  obtain ⟨i0, hi, hz0, hz1, hz2⟩ := info_parts info_intT
  by_cases h1 : xs = []
  · have hv := hnil h1
    subst h1; subst hv
    clear ha hnil
    go_enter Try.func89, Try.ntmps89
    go_wp2_with (at_builtin; refine wpList_app0 _ rfl _ _ 32 rfl 3 i0 Try.underlying32 hi (some ⟨w.heap.size, 0, none⟩) 0 0 rfl rfl (Nat.le_refl _) ?_)
    go_ret
    exact ⟨_, _, rfl, own_lit w w.heap.size 3 [] (Nat.le_refl _) (by simp [maxLen]), below_alloc _ _⟩
  · obtain ⟨g, cap, rfl, hc1, hc2, _, hg, hce⟩ := intsA_at ha (Nat.pos_of_ne_zero (fun e => h1 (List.eq_nil_of_length_eq_zero e)))
    have hcp := own_copy (w3 := w) hce
    have hpos : 0 < xs.length := Nat.pos_of_ne_zero (fun e => h1 (List.eq_nil_of_length_eq_zero e))
    obtain ⟨N, hN⟩ : ∃ N, N = xs.length := ⟨_, rfl⟩
    have HC := Lib.hid hcp; have HN := Lib.hid hN
    rw [← hN] at hc1 h9 hpos ⊢
    clear ha hce hcp hN h1 hnil
    go_enter Try.func89, Try.ntmps89
    go_wp2_with (at_builtin; refine wpList_app _ rfl _ _ 32 rfl w.heap.size 3 i0 (.int .i64 0) 8 Try.underlying32 hi hz0 hz1 hz2 rfl _ 0 [] rfl (own_lit w w.heap.size 3 [] (Nat.le_refl _) (by simp [maxLen])) ⟨g, 0, none⟩ N cap (ivs xs) rfl (by rw [HN.out]; simp [ivs]) HC.out ?c2 ?c3 ?c4 ?c5 ?_)
    case c2 =>
      intro u hu
      simp only [ivs, List.mem_map] at hu
      obtain ⟨l, _, rfl⟩ := hu
      rfl
    case c3 => unfold maxLen; omega
    case c4 => omega
    case c5 => simp
    intro v' w3 hown' hgrow _
    rcases own_open hown' with ⟨_, h0, _⟩ | ⟨g', c', rfl, _, _, _, _, _, _, _⟩
    · omega
    have R1 := Lib.hid hown'
    have R2 := Lib.hid ((below_alloc w _).grown hgrow (by simp) (fun q hq => by cases hq; exact Nat.le_refl _))
    clear hown' hgrow
    go_wp2_with fail
    go_ret
    have hr : w3.ownsRow w.heap.size 3 1 (.slice (some ⟨g', 0, none⟩) N c') N (ivs xs) := by have := R1.out; simpa using this
    exact ⟨_, _, by first | rfl | (simp; done), hr, R2.out⟩

/-- Rows, nil where there are none. -/
def RowsAOk (R : List (List Nat)) (w w' : World) (e : Ending) : Prop :=
  ∃ v vs, e = .returned v ∧ IntsRA w' w.heap.size v vs (R.map ti) ∧ Below w.heap.size w w' ∧ (R = [] → v = .slice none 0 0)
theorem selfK_cnt (n : Nat) (b : List Nat) (left : Nat) (h9 : n ≤ 9) : ∀ k, (selfK n b left k).length ≤ k * 100000000
  | 0 => by simp [selfK]
  | k + 1 => by
    rw [selfK_succ, List.length_append, Nat.succ_mul]
    have h1 := selfK_cnt n b left h9 k
    have h2 := selfs_cnt n (b ++ [k]) (left - k) h9
    rw [List.length_append, List.length_singleton] at h2
    have h3 : 10 ^ (n - (b.length + 1)) ≤ 10 ^ 8 := Nat.pow_le_pow_right (by omega) (by omega)
    have h4 : (10 : Nat) ^ 8 = 100000000 := by decide
    omega
theorem selfK_zero (n : Nat) (b : List Nat) (left : Nat) : selfK n b left 0 = [] := rfl
theorem selfT_eq (b : List Nat) : decide (ti (tel b.length b) = ti b) = selfT b := by
  unfold selfT
  by_cases h : tel b.length b = b
  · rw [h]; simp
  · rw [decide_eq_false h, decide_eq_false (fun e => h (ti_inj e))]

set_option maxHeartbeats 2000000 in
theorem taAll_step (n : Nat) (b : List Nat) (left : Nat) (w : World) (B : Nat) (v : Value) (h1 : 1 ≤ n) (h9 : n ≤ 9) (hb : b.length ≤ n) (hl : left ≤ n)
    (ha : IntsA w B v (ti b)) (hnil : b = [] → v = .slice none 0 0)
    (hrec : b.length < n → ∀ k, k ≤ left → ∀ W B' u, IntsA W B' u (ti (b ++ [k])) → Calls Try.prog 92 #[.int .i64 (n : Int), u, .int .i64 ((left : Int) - (k : Int))] W fun e w' => RowsAOk (selfs n (b ++ [k]) (left - k)) W w' e) :
    Calls Try.prog 92 #[.int .i64 (n : Int), v, .int .i64 (left : Int)] w fun e w' => RowsAOk (selfs n b left) w w' e := by
  obtain ⟨a0, cap, hv, hcp, hn⟩ := intsA_slice ha
  rw [ti_len] at hv
  by_cases hlt : b.length = n
  · have htell := taTell_any w B v b ha (by omega) (by omega)
    have hsame := fun (W : World) (g : Nat) (hb1 : Below w.heap.size w W) (ho : W.ownsRow w.heap.size 3 1 (.slice (some ⟨g, 0, none⟩) b.length b.length) b.length (tvl (tel b.length b))) =>
      l1Same_any W w.heap.size B (.slice (some ⟨g, 0, none⟩) b.length b.length) v (ti (tel b.length b)) (ti b)
        (intsA_of (by unfold Ints; rw [ti_len, tel_len]; rw [tvl_ti] at ho; exact ho)) (intsA_below ha hb1) (by rw [ti_len, tel_len]; omega) (by rw [ti_len, ti_len, tel_len])
    simp only [selfT_eq] at hsame
    have hown := fun (W : World) (hb1 : Below w.heap.size w W) => l1Own_any W B v (ti b) (intsA_below ha hb1) (by rw [ti_len]; omega) (by rw [ti_len]; omega)
    rw [selfs_end n b left hlt]
    subst hv
    simp only [ti_len] at hown
    have HT := Lib.hid htell; have HS := Lib.hid hsame; have HO := Lib.hid hown
    clear ha hnil hrec htell hsame hown hn
    subst hlt
    go_enter Try.func92, Try.ntmps92
    go_wp2_with fail
    refine HT.out.mono ?_
    rintro e w1 ⟨g, rfl, ho1, hb1⟩
    have HB1 := Lib.hid hb1; have HO1 := Lib.hid ho1; clear hb1 ho1
    go_wp2_with fail
    refine (HS.out w1 g HB1.out HO1.out).mono ?_
    rintro e w2 ⟨rfl, hb2⟩
    have HB2 := Lib.hid (HB1.out.trans (hb2.mono HB1.out.size)); clear hb2
    cases hs : selfT b with
    | true =>
      go_wp2_with fail
      refine (HO.out w2 HB2.out).mono ?_
      rintro e w3 ⟨g3, c3, rfl, ho3, hb3⟩
      have HB3 := Lib.hid (HB2.out.trans (hb3.mono HB2.out.size)); have HO3 := Lib.hid ho3; clear hb3 ho3
      go_wp2_with fail
      go_ret
      refine ⟨_, _, rfl, intsRA_one (intsA_mono HO3.out HB2.out.size) HB3.out.size, below_trans HB3.out (below_alloc _ _), fun e => by simp at e⟩
    | false =>
      go_wp2_with fail
      all_goals (go_ret; exact ⟨_, _, rfl, intsRA_nil _ _, HB2.out, fun _ => rfl⟩)
  · obtain ⟨i0, hi, hz0, hz1, hz2⟩ := info_parts info_intT
    obtain ⟨j0, hj, hy0, hy1, hy2⟩ := info_parts info_rowT
    have hlt' : b.length < n := by omega
    have hown := fun (W : World) (hb1 : Below w.heap.size w W) => l1OwnR_any W B v (ti b) (intsA_below ha hb1) (fun e => hnil (by cases b with | nil => rfl | cons x b => simp [ti] at e)) (by rw [ti_len]; omega)
    simp only [ti_len] at hown
    have hrec' := hrec hlt'
    have hsucc := fun k => selfK_succ n b left k
    have hcnt := selfK_cnt n b left h9
    rw [selfs_go n b left hlt' hl]
    have hsn : ∀ k : Nat, ivs (ti b) ++ [.int .i64 (k : Int)] = ivs (ti (b ++ [k])) := fun k => by simp [ivs, ti]
    have hti : ∀ k : Nat, (ti (b ++ [k])).length = b.length + 1 := fun k => by simp [ti]
    have hne : ((b.length : Int) == (n : Int)) = false := by simp; omega
    subst hv
    have HO := Lib.hid hown; have HR := Lib.hid hrec'; have HSU := Lib.hid hsucc; have HCN := Lib.hid hcnt; have HSN := Lib.hid hsn; have HTI := Lib.hid hti
    clear ha hnil hrec hrec' hown hsucc hcnt hn hlt hsn hti
    obtain ⟨N, hN⟩ : ∃ N, N = b.length := ⟨_, rfl⟩
    have HN := Lib.hid hN
    rw [← hN] at hne hlt' hb ⊢
    have hown := HO.out
    rw [← hN] at hown
    clear HO
    have HO := Lib.hid hown
    clear hN hown
    go_enter Try.func92, Try.ntmps92
    go_wp2_with fail
    clear hne
    go_loopw [7, 8] (fun o iv wr => ∃ (k m : Nat) (q : Option Addr) (d : Nat) (vs : List Value), k ≤ left + 1 ∧ iv = .int .i64 (k : Int) ∧ o = .slice q m d ∧ m ≤ 1000000000 ∧ m ≤ d ∧ Hid (m = vs.length ∧ IntsRA wr w.heap.size (.slice q m d) vs ((selfK n b left k).map ti) ∧ Below w.heap.size w wr ∧ (selfK n b left k = [] → (Value.slice q m d) = .slice none 0 0))) (fun _ iv _ => left + 1 - (intOf iv).toNat)
    case atStart => exact ⟨0, 0, _, _, [], by omega, rfl, rfl, by omega, Nat.le_refl _, rfl, intsRA_nil _ _, below_refl _, fun _ => rfl⟩
    case round =>
      obtain ⟨k, m, q, d, vs, hk, rfl, rfl, hm, hmd, HX⟩ := hrel
      by_cases hle : k ≤ left
      · have hrk := fun W B' u => HR.out k hle W B' u
        have HRK := Lib.hid hrk; clear hrk
        go_wp2_with fail
        refine (HO.out wr HX.out.2.2.1).mono ?_
        rintro e w2 ⟨q2, c2, rfl, ho2, hb2⟩
        have HO2 := Lib.hid ho2; have HB2 := Lib.hid hb2; clear ho2 hb2
        go_wp2_with (refine wpList_app _ rfl _ _ 32 rfl wr.heap.size 3 i0 (.int .i64 0) 8 Try.underlying32 hi hz0 hz1 hz2 rfl _ N (ivs (ti b)) rfl (own_below HO2.out (below_alloc _ _)) ⟨w2.heap.size, 0, none⟩ 1 1 [.int .i64 (k : Int)] rfl rfl (by intro j u hu; cases j with | zero => (simp at hu; subst hu; simp [go_sem, Addr.add]) | succ j => simp at hu) (by simp [Value.oneCell']) (by unfold maxLen; omega) (by omega) (by have := HB2.out.size; simp; omega) ?_; intro v3 w3 hown3 hgr3 hwh3)
        rw [HSN.out k] at hown3
        have hb3 : Below wr.heap.size wr w3 := (HB2.out.trans ((below_alloc w2 _).mono HB2.out.size)).grown hgr3 (by have := HB2.out.size; simp; omega) (fun r e => (HO2.out.lt r (show Value.ownBlock (.slice q2 N c2) = some r from e)).1)
        have hI3 : IntsA w3 wr.heap.size v3 (ti (b ++ [k])) := intsA_of (by unfold Ints; rw [HTI.out k, ← HN.out]; exact hown3)
        have HB3 := Lib.hid hb3; have HI3 := Lib.hid hI3; clear hown3 hgr3 hwh3 hb3 hI3
        go_wp2_with fail
        refine (HRK.out w3 wr.heap.size v3 HI3.out).mono ?_
        rintro e w4 ⟨v4, us, rfl, h4, hb4, hn4⟩
        have hb04 : Below wr.heap.size wr w4 := HB3.out.trans (hb4.mono HB3.out.size)
        have hvlt : ∀ p, (Value.slice q m d).ownBlock = some p → p < wr.heap.size := fun p e => (HX.out.2.1.outer.lt p e).2
        have hvslt : ∀ (i : Nat) (x : Value), vs[i]? = some x → ∀ p, x.ownBlock = some p → p < wr.heap.size := by
          intro i x hx p e
          have hi' : i < ((selfK n b left k).map ti).length := by rw [HX.out.2.1.len]; exact get_lt hx
          exact (intsA_lt (HX.out.2.1.inner i x _ hx (List.getElem?_eq_getElem hi')) p e).2
        have hX4 : IntsRA w4 w.heap.size (.slice q m d) vs ((selfK n b left k).map ti) := intsRA_below HX.out.2.1 hb04
        have hB04 : Below w.heap.size w w4 := HX.out.2.2.1.trans (hb04.mono HX.out.2.2.1.size)
        have hwr3 : wr.heap.size ≤ w3.heap.size := HB3.out.size
        have hwwr : w.heap.size ≤ wr.heap.size := HX.out.2.2.1.size
        have hcn := HCN.out (k + 1)
        have HVL := Lib.hid hvlt; have HVSL := Lib.hid hvslt; have HX4 := Lib.hid hX4; have HB04 := Lib.hid hB04; have H4 := Lib.hid h4
        have hm1 := HX.out.1; have hn0 := HX.out.2.2.2
        have HM1 := Lib.hid hm1; have HN0 := Lib.hid hn0
        rw [HSU.out k] at hcn
        rw [List.length_append] at hcn
        have husl : us.length = (selfs n (b ++ [k]) (left - k)).length := by rw [← h4.len, List.length_map]
        have hml : m = (selfK n b left k).length := by rw [hm1, ← HX.out.2.1.len, List.length_map]
        have hmu : m + us.length ≤ 1000000000 := by
          have : k + 1 ≤ 10 := by omega
          have h5 := Nat.mul_le_mul_right 100000000 this
          omega
        clear hvlt hvslt hX4 hB04 h4 hb4 hb04 hm1 hn0 hcn hml
        by_cases hR : selfs n (b ++ [k]) (left - k) = []
        · have hv4 := hn4 hR
          subst hv4
          have e0 : selfK n b left (k + 1) = selfK n b left k := by rw [HSU.out k, hR]; simp
          have E0 := Lib.hid e0; clear e0 hR hn4
          go_wp2_with (refine wpList_app0 _ rfl _ _ 51 rfl 32 j0 Try.underlying51 hj q m d rfl rfl hmd ?_)
          go_roundw
          case rel => exact ⟨k + 1, m, q, d, vs, by omega, by go_num, rfl, hm, hmd, HM1.out, by rw [E0.out]; exact HX4.out, HB04.out, by rw [E0.out]; exact HN0.out⟩
          case measure => simp [intOf] <;> omega
        · have e0 : (selfK n b left (k + 1)).map ti = (selfK n b left k).map ti ++ (selfs n (b ++ [k]) (left - k)).map ti := by rw [HSU.out k, List.map_append]
          have e1 : selfK n b left (k + 1) ≠ [] := by rw [HSU.out k]; simp [hR]
          have hpos : 0 < us.length := by rw [husl]; exact Nat.pos_of_ne_zero (fun e => hR (List.eq_nil_of_length_eq_zero e))
          obtain ⟨U, hU⟩ : ∃ U, U = us.length := ⟨_, rfl⟩
          have HU := Lib.hid hU
          rcases own_open H4.out.outer with ⟨_, h0, _⟩ | ⟨g4, c4, rfl, hg4, hg4', hc4, hc4', _, hce4, _⟩
          · omega
          rw [← hU] at hpos hmu husl hc4 ⊢
          have hcell4 : ∀ j u, us[j]? = some u → w4.cell? ((⟨g4, 0, none⟩ : Addr).add j) = some u := by
            intro j u hj
            rw [add_plainL, Nat.zero_add]
            obtain ⟨hjl, e⟩ := List.getElem?_eq_some_iff.1 hj
            rw [hce4 j hjl, e]
          have hone : ∀ u ∈ us, u.oneCell' = true := by
            intro u hu
            obtain ⟨j, hjl, e⟩ := List.getElem_of_mem hu
            obtain ⟨u', e1, e2⟩ := intsRA_row H4.out j (by rw [H4.out.len]; exact hjl)
            rw [List.getElem?_eq_getElem hjl] at e1
            have e3 : u' = u := by rw [← e]; exact (Option.some.inj e1).symm
            subst e3
            rcases e2 with ⟨rfl, _⟩ | ⟨_, _, _, _, rfl, _⟩ <;> rfl
          have E0 := Lib.hid e0; have E1 := Lib.hid e1; have HC4 := Lib.hid hcell4; have HON := Lib.hid hone
          clear e0 e1 hR hn4 hcell4 hone hce4 hU husl
          go_wp2_with (refine wpList_app _ rfl _ _ 51 rfl w.heap.size 32 j0 (.slice none 0 0) 24 Try.underlying51 hj hy0 hy1 hy2 rfl (.slice q m d) m vs rfl (by have := HX4.out.outer; rw [← HM1.out] at this; exact this) ⟨g4, 0, none⟩ U c4 us rfl HU.out.symm HC4.out HON.out (by unfold maxLen; omega) (by omega) HB04.out.size ?_; intro v5 w5 hown5 hgr5 hwh5)
          have hI5 : IntsRA w5 w.heap.size v5 (vs ++ us) ((selfK n b left (k + 1)).map ti) := by
            rw [E0.out]
            exact intsRA_app HX4.out (intsRA_mono H4.out hwr3) hwwr HVL.out HVSL.out (by rw [← HU.out, ← HM1.out]; exact hown5) hgr5 hwh5
          have hb5 : Below w.heap.size w w5 := HB04.out.grown hgr5 HB04.out.size (fun r e => (HX4.out.outer.lt r e).1)
          obtain ⟨q5, d5, rfl, hd5⟩ : ∃ q5 d5, v5 = .slice q5 (m + U) d5 ∧ m + U ≤ d5 := by
            rcases own_open hown5 with ⟨_, h0, _⟩ | ⟨g5, c5, h5, _, _, h6, _⟩
            · omega
            · exact ⟨_, _, h5, h6⟩
          have HI5 := Lib.hid hI5; have HB5 := Lib.hid hb5; clear hown5 hgr5 hwh5 hI5 hb5
          go_wp2_with fail
          go_roundw
          case rel => exact ⟨k + 1, m + U, q5, d5, vs ++ us, by omega, by go_num, rfl, hmu, hd5, by rw [List.length_append, ← HM1.out, ← HU.out], HI5.out, HB5.out, fun e => absurd e E1.out⟩
          case measure => simp [intOf] <;> omega
      · obtain rfl : k = left + 1 := by omega
        go_wp2_with fail
        go_ret
        exact ⟨_, vs, rfl, HX.out.2.1, HX.out.2.2.1, HX.out.2.2.2⟩
end Go.Proofs.Ytkdoghopbefjfaa
