/- Smooth words exchanged and turned round; their tails; words derived from told ones; all of them in order (pure). -/
import Derived.Test.YtkjmocdhhndlgaaGreatDoorD16
import Derived.Test.YtkjmocdhhndlgaaGreatDoorMA
import Derived.Test.YtkjmocdhhndlgaaGreatDoorD21
namespace Go.Proofs.YtkjmocdhhndlgaaGreatDoor
set_option linter.unusedSimpArgs false
set_option linter.unusedVariables false
set_option maxRecDepth 4000

def flatQ (rs : List (UInt8 × Nat)) : List UInt8 := rs.flatMap fun p => List.replicate p.2 p.1
theorem flatQ_snoc (rs : List (UInt8 × Nat)) (p : UInt8 × Nat) : flatQ (rs ++ [p]) = flatQ rs ++ List.replicate p.2 p.1 := by simp [flatQ]
theorem flatQ_cons (rs : List (UInt8 × Nat)) (p : UInt8 × Nat) : flatQ (p :: rs) = List.replicate p.2 p.1 ++ flatQ rs := by simp [flatQ]
theorem flat_runsQ (l : List UInt8) : flatQ (runsL l) = l := by
  refine snoc_rec (P := fun l => flatQ (runsL l) = l) rfl (fun l c ih => ?_) l
  rw [runsL_snoc]
  rcases list_cases_snoc (runsL l) with h | ⟨pre, ⟨d, n⟩, h⟩
  · rw [h] at ih ⊢
    have hl : l = [] := ih.symm
    subst hl
    rfl
  · rw [h] at ih ⊢
    by_cases hd : d = c
    · subst hd
      rw [stepRun_same, flatQ_snoc]
      rw [flatQ_snoc] at ih
      conv => rhs; rw [← ih]
      rw [List.append_assoc, ← List.replicate_succ']
    · rw [stepRun_other _ _ _ _ hd, flatQ_snoc]
      rw [ih]; rfl
theorem runs_flatQ (rs : List (UInt8 × Nat)) : (∀ p ∈ rs, 1 ≤ p.2) → Adj rs → runsL (flatQ rs) = rs := by
  refine snoc_rec (P := fun rs => (∀ p ∈ rs, 1 ≤ p.2) → Adj rs → runsL (flatQ rs) = rs) (fun _ _ => rfl) (fun rs x ih h1 h2 => ?_) rs
  have e := ih (fun p hp => h1 p (by simp [hp])) (adj_prefix ⟨[x], rfl⟩ h2)
  rw [flatQ_snoc]
  unfold runsL at e ⊢
  rw [List.foldl_append, e]
  refine runs_repD rs x.1 (fun p hp => ?_) x.2 (h1 x (by simp))
  have hl : rs.length ≠ 0 := by intro e; have := List.eq_nil_of_length_eq_zero e; subst this; simp at hp
  refine h2 (rs.length - 1) p x ?_ ?_
  · rw [List.getElem?_append_left (by omega), ← List.getLast?_eq_getElem?]; exact hp
  · rw [List.getElem?_append_right (by omega), show rs.length - 1 + 1 - rs.length = 0 by omega]; rfl
theorem adj_reverse {rs : List (UInt8 × Nat)} (h : Adj rs) : Adj rs.reverse := by
  intro i a b h1 h2
  have e2 := (List.getElem?_eq_some_iff.1 h2).1
  rw [List.length_reverse] at e2
  rw [List.getElem?_reverse (by omega)] at h1 h2
  have := h (rs.length - 1 - (i + 1)) b a h2 (by rw [← h1]; congr 1; omega)
  exact fun e => this e.symm
theorem flatQ_reverse : ∀ rs : List (UInt8 × Nat), flatQ rs.reverse = (flatQ rs).reverse
  | [] => rfl
  | p :: rs => by rw [List.reverse_cons, flatQ_snoc, flatQ_reverse rs, flatQ_cons, List.reverse_append, List.reverse_replicate]
theorem runs_revQ (l : List UInt8) : runsL l.reverse = (runsL l).reverse := by
  have e : l.reverse = flatQ (runsL l).reverse := by rw [flatQ_reverse, flat_runsQ]
  rw [e]
  exact runs_flatQ _ (fun p hp => runs_two.runs_pos1 l p (List.mem_reverse.1 hp)) (adj_reverse (adj_runs l))
theorem xc_inj {a b : UInt8} (ha : onB a = true) (hb : onB b = true) (h : xc a = xc b) : a = b := by
  unfold onB at ha hb
  simp only [Bool.or_eq_true, beq_iff_eq] at ha hb
  rcases ha with rfl | rfl <;> rcases hb with rfl | rfl <;> first | rfl | exact absurd h (by decide)
theorem xc_on (a : UInt8) : onB (xc a) = true := by unfold xc; split <;> rfl
theorem xc_xc {a : UInt8} (ha : onB a = true) : xc (xc a) = a := by
  unfold onB at ha
  simp only [Bool.or_eq_true, beq_iff_eq] at ha
  rcases ha with rfl | rfl <;> rfl
theorem xcL_xcL {l : List UInt8} (h : l.all onB = true) : xcL (xcL l) = l := by
  unfold xcL
  rw [List.map_map]
  conv => rhs; rw [← List.map_id l]
  refine List.map_congr_left fun a ha => ?_
  exact xc_xc (List.all_eq_true.1 h a ha)
theorem xcL_on (l : List UInt8) : (xcL l).all onB = true := by
  rw [List.all_eq_true]
  intro c hc
  unfold xcL at hc
  obtain ⟨a, _, rfl⟩ := List.mem_map.1 hc
  exact xc_on a
def xcR (rs : List (UInt8 × Nat)) : List (UInt8 × Nat) := rs.map fun p => (xc p.1, p.2)
theorem flatQ_xc : ∀ rs : List (UInt8 × Nat), flatQ (xcR rs) = xcL (flatQ rs)
  | [] => rfl
  | p :: rs => by
    have := flatQ_xc rs
    unfold xcR at this ⊢
    rw [List.map_cons, flatQ_cons, flatQ_cons, this]
    unfold xcL
    rw [List.map_append, List.map_replicate]
theorem runs_xc {l : List UInt8} (h : l.all onB = true) : runsL (xcL l) = xcR (runsL l) := by
  have e : xcL l = flatQ (xcR (runsL l)) := by rw [flatQ_xc, flat_runsQ]
  have hm : ∀ p ∈ runsL l, onB p.1 = true := runsL_mem (fun c => onB c = true) l (List.all_eq_true.1 h)
  rw [e]
  refine runs_flatQ _ (fun p hp => ?_) ?_
  · obtain ⟨q, hq, rfl⟩ := List.mem_map.1 hp
    exact runs_two.runs_pos1 l q hq
  · intro i a b h1 h2
    unfold xcR at h1 h2
    rw [List.getElem?_map, Option.map_eq_some_iff] at h1 h2
    obtain ⟨a', ha, rfl⟩ := h1
    obtain ⟨b', hb, rfl⟩ := h2
    intro e2
    exact adj_runs l i a' b' ha hb (xc_inj (hm a' (List.mem_of_getElem? ha)) (hm b' (List.mem_of_getElem? hb)) e2)
theorem lens_xc {l : List UInt8} (h : l.all onB = true) : lensL (xcL l) = lensL l := by
  unfold lensL; rw [runs_xc h]; unfold lensR xcR; rw [List.map_map]; rfl
theorem lens_rev (l : List UInt8) : lensL l.reverse = (lensL l).reverse := by
  unfold lensL; rw [runs_revQ]; unfold lensR; rw [List.map_reverse]
theorem longR_revQ (rs : List (UInt8 × Nat)) : longR rs.reverse = longR rs := by
  apply Nat.le_antisymm
  · exact longR_le_of fun p hp => le_longR' (List.mem_reverse.1 hp)
  · exact longR_le_of fun p hp => le_longR' (List.mem_reverse.2 hp)
theorem long_xc {l : List UInt8} (h : l.all onB = true) : longL (xcL l) = longL l := by
  unfold longL
  rw [runs_xc h]
  apply Nat.le_antisymm
  · refine longR_le_of fun p hp => ?_
    obtain ⟨q, hq, rfl⟩ := List.mem_map.1 hp
    exact le_longR' (p := q) hq
  · refine longR_le_of fun p hp => ?_
    exact le_longR' (p := (xc p.1, p.2)) (List.mem_map.2 ⟨p, hp, rfl⟩)
theorem der_xc {l : List UInt8} (h : l.all onB = true) : derL (xcL l) = derL l := by
  unfold derL; rw [long_xc h, lens_xc h]
theorem xcL_nil {l : List UInt8} : xcL l = [] ↔ l = [] := by unfold xcL; exact List.map_eq_nil_iff
theorem dep_xc {l : List UInt8} (h : l.all onB = true) : depL (xcL l) = depL l := by
  by_cases h0 : l = []
  · subst h0; rfl
  · rw [depL_step h0, depL_step (fun e => h0 (xcL_nil.1 e)), der_xc h]
theorem low_xc {l : List UInt8} (h : lowB l = true) : lowB (xcL l) = true := by
  unfold lowB at h ⊢
  rw [Bool.and_eq_true, decide_eq_true_eq] at h ⊢
  exact ⟨by rw [xcL_len]; exact h.1, xcL_on l⟩
theorem low_on {l : List UInt8} (h : lowB l = true) : l.all onB = true := by unfold lowB at h; rw [Bool.and_eq_true] at h; exact h.2
theorem low_len {l : List UInt8} (h : lowB l = true) : l.length ≤ 60 := by unfold lowB at h; rw [Bool.and_eq_true, decide_eq_true_eq] at h; exact h.1
theorem depO_xc {l : List UInt8} (h : lowB l = true) : depO (xcL l) = depO l := by
  unfold depO; rw [if_pos h, if_pos (low_xc h), dep_xc (low_on h)]

/-! words turned round -/
theorem cutF_rev (x : List UInt8) : cutF x.reverse = (cutB x).reverse := by
  unfold cutF cutB
  rw [List.head?_reverse]
  split
  · rw [List.tail_reverse]
  · rfl
theorem cutB_rev (x : List UInt8) : cutB x.reverse = (cutF x).reverse := by
  have := cutF_rev x.reverse
  rw [List.reverse_reverse] at this
  rw [this, List.reverse_reverse]
theorem cut_swap (x : List UInt8) : cutF (cutB x) = cutB (cutF x) := by
  rcases list_cases_snoc x with rfl | ⟨pre, b, rfl⟩
  · rfl
  · by_cases hp : pre = []
    · subst hp
      by_cases hb : b = 49
      · subst hb; rfl
      · simp [cutF, cutB, hb]
    · rw [cutF_app hp]
      by_cases hb : b = 49
      · subst hb; rw [cutB_one, cutB_one]
      · have e1 : ∀ z : List UInt8, cutB (z ++ [b]) = z ++ [b] := fun z => by simp [cutB, hb]
        rw [e1, e1, cutF_app hp]
theorem cutL_rev (x : List UInt8) : cutL x.reverse = (cutL x).reverse := by
  unfold cutL
  rw [cutF_rev, cutB_rev, cut_swap]
theorem der_rev (l : List UInt8) : derL l.reverse = (derL l).map List.reverse := by
  unfold derL
  rw [show longL l.reverse = longL l by unfold longL; rw [runs_revQ, longR_revQ], lens_rev, cutL_rev]
  split <;> rfl
theorem dep_rev : ∀ (k : Nat) (l : List UInt8), l.length ≤ k → depL l.reverse = depL l
  | k, [], _ => by simp
  | 0, c :: t, h => by simp at h
  | k + 1, c :: t, h => by
    have hne : (c :: t).reverse ≠ [] := by simp
    rw [depL_step hne, depL_step (by simp : c :: t ≠ []), der_rev]
    cases hd : derL (c :: t) with
    | none => rfl
    | some m =>
      have hl := der_less (by simp) hd
      rw [Option.map_some, Option.bind_some, Option.bind_some, dep_rev k m (by simp at hl h; omega)]
theorem sm_rev (l : List UInt8) : smB l.reverse = smB l := by unfold smB; rw [dep_rev l.length l (Nat.le_refl _)]
theorem sm_tail {c : UInt8} {t : List UInt8} (h : smB (c :: t) = true) : smB t = true := by
  rw [← sm_rev, List.reverse_cons] at h
  rw [← sm_rev]
  exact sm_snoc _ _ h
theorem low_rev {l : List UInt8} : lowB l.reverse = lowB l := by
  unfold lowB
  rw [List.length_reverse]
  congr 1
  rw [Bool.eq_iff_iff, List.all_eq_true, List.all_eq_true]
  simp only [List.mem_reverse]
theorem low_take {l : List UInt8} (h : lowB l = true) (n : Nat) : lowB (l.take n) = true := by
  unfold lowB at h ⊢
  rw [Bool.and_eq_true, decide_eq_true_eq] at h ⊢
  refine ⟨by rw [List.length_take]; omega, ?_⟩
  rw [List.all_eq_true] at *
  exact fun x hx => h.2 x (List.mem_of_mem_take hx)
theorem low_drop {l : List UInt8} (h : lowB l = true) (n : Nat) : lowB (l.drop n) = true := by
  unfold lowB at h ⊢
  rw [Bool.and_eq_true, decide_eq_true_eq] at h ⊢
  refine ⟨by rw [List.length_drop]; omega, ?_⟩
  rw [List.all_eq_true] at *
  exact fun x hx => h.2 x (List.mem_of_mem_drop hx)
/-- The parts of a smooth word that the law looks at are smooth. -/
theorem sm_parts {l : List UInt8} (h : (depO l).isSome = true) (h1 : 1 ≤ l.length) :
    (depO l.reverse).isSome = true ∧ (depO (l.drop 1)).isSome = true ∧ (depO (l.take (l.length - 1))).isSome = true := by
  have hl : lowB l = true := by
    cases e : lowB l with
    | true => rfl
    | false => unfold depO at h; rw [e] at h; cases h
  have hs : smB l = true := by unfold depO at h; rw [if_pos hl] at h; exact h
  have conv : ∀ m, lowB m = true → smB m = true → (depO m).isSome = true := fun m a b => by unfold depO; rw [if_pos a]; exact b
  refine ⟨conv _ (by rw [low_rev]; exact hl) (by rw [sm_rev]; exact hs), conv _ (low_drop hl 1) ?_, conv _ (low_take hl _) ?_⟩
  · obtain ⟨c, t, rfl⟩ := List.exists_cons_of_ne_nil (List.length_pos_iff.1 h1)
    exact sm_tail hs
  · exact sm_pre l.length l _ (Nat.le_refl _) (List.take_prefix _ _) hs

/-! words that are derived to a told one -/
theorem wd_each {w : List UInt8} (h : w.all onB = true) (h1 : 1 ≤ w.length) (hl : w.length ≤ 25) : ∀ x ∈ wdL w, lowB x = true ∧ derL x = some w := by
  intro x hx
  unfold wdL at hx
  obtain ⟨y, hy, hxy⟩ := List.mem_flatMap.1 hx
  obtain ⟨g1, g2, g3⟩ := lensOf_on h h1 hl y hy
  unfold twoF at hxy
  split at hxy
  · rename_i hc
    simp only [List.mem_cons, List.not_mem_nil, or_false] at hxy
    rcases hxy with rfl | rfl
    · exact ⟨(wF_low g1 g3 (by omega)).1, by rw [wF_der g1 (by omega), hc]⟩
    · exact ⟨(wF_low g1 g3 (by omega)).1, by rw [wF_der g1 (by omega), hc]⟩
  · cases hxy
theorem wd_two (w : List UInt8) (h1 : 1 ≤ w.length) : 2 ≤ (wdL w).length := by
  have hc : cutL ([49] ++ w ++ [49]) = w := by
    unfold cutL
    rw [List.append_assoc]
    show cutB (w ++ [49]) = w
    exact cutB_one w
  unfold wdL lensOf
  simp only [List.flatMap_cons, List.flatMap_nil, List.length_append, List.length_nil]
  have : (twoF w ([49] ++ w ++ [49])).length = 2 := by unfold twoF; rw [if_pos hc]; rfl
  rw [this]; omega
theorem dep_of_der {x w : List UInt8} (hx : lowB x = true) (hd : derL x = some w) (h1 : 1 ≤ w.length) (hw : lowB w = true) : depO x = (depO w).map (· + 1) := by
  have hne : x ≠ [] := by
    intro e; subst e
    unfold derL at hd
    rw [if_pos (by decide)] at hd
    have : w = [] := (Option.some.inj hd).symm
    subst this; simp at h1
  unfold depO
  rw [if_pos hx, if_pos hw, depL_some hne hd]

/-! all smooth words in order, an even number of them -/
theorem lex_app : ∀ {a b : List UInt8} (u v : List UInt8), a.length = b.length → a < b → a ++ u < b ++ v
  | [], [], u, v, _, h => absurd h (by decide)
  | [], _ :: _, u, v, hl, _ => by simp at hl
  | _ :: _, [], u, v, hl, _ => by simp at hl
  | x :: a, y :: b, u, v, hl, h => by
    rw [List.cons_lt_cons_iff] at h
    rw [List.cons_append, List.cons_append, List.cons_lt_cons_iff]
    rcases h with h | ⟨rfl, h⟩
    · exact .inl h
    · exact .inr ⟨rfl, lex_app u v (by simpa using hl) h⟩
theorem lex_same : ∀ (a : List UInt8) {u v : List UInt8}, u < v → a ++ u < a ++ v
  | [], _, _, h => h
  | x :: a, u, v, h => by
    rw [List.cons_append, List.cons_append, List.cons_lt_cons_iff]
    exact .inr ⟨rfl, lex_same a h⟩
theorem allLow_sorted : ∀ n, (allLow n).Pairwise (· < ·)
  | 0 => List.pairwise_singleton _ _
  | n + 1 => by
    have ih := allLow_sorted n
    unfold allLow
    rw [List.pairwise_flatMap]
    constructor
    · intro w _
      refine List.pairwise_cons.2 ⟨?_, List.pairwise_singleton _ _⟩
      intro x hx
      simp only [List.mem_cons, List.not_mem_nil, or_false] at hx
      subst hx
      exact lex_same w (by decide)
    · have hlen : ∀ w ∈ allLow n, w.length = n := fun w hw => (allLow_mem n w hw).1
      refine List.Pairwise.imp_of_mem ?_ ih
      intro a b ha hb hab x hx y hy
      simp only [List.mem_cons, List.not_mem_nil, or_false] at hx hy
      have hl : a.length = b.length := by rw [hlen a ha, hlen b hb]
      rcases hx with rfl | rfl <;> rcases hy with rfl | rfl <;> exact lex_app _ _ hl hab
theorem smAll_sorted (n : Nat) : (smAll n).Pairwise (· < ·) := List.Pairwise.filter _ (allLow_sorted n)
theorem smAll_mem {n : Nat} {w : List UInt8} (h : w ∈ smAll n) : w.length = n ∧ w.all onB = true ∧ smB w = true := by
  obtain ⟨h1, h2⟩ := List.mem_filter.1 h
  exact ⟨(allLow_mem n w h1).1, (allLow_mem n w h1).2, h2⟩
theorem allLow_has : ∀ (n : Nat) (w : List UInt8), w.length = n → w.all onB = true → w ∈ allLow n
  | 0, w, h, _ => by rw [List.eq_nil_of_length_eq_zero h]; simp [allLow]
  | n + 1, w, h, ho => by
    rcases list_cases_snoc w with rfl | ⟨pre, c, rfl⟩
    · simp at h
    · rw [List.all_append, Bool.and_eq_true] at ho
      unfold allLow
      refine List.mem_flatMap.2 ⟨pre, allLow_has n pre (by simpa using h) ho.1, ?_⟩
      have hc := ho.2
      simp only [List.all_cons, List.all_nil, Bool.and_true, onB, Bool.or_eq_true, beq_iff_eq] at hc
      rcases hc with rfl | rfl <;> simp
theorem smAll_iff {n : Nat} {w : List UInt8} : w ∈ smAll n ↔ w.length = n ∧ w.all onB = true ∧ smB w = true :=
  ⟨smAll_mem, fun h => List.mem_filter.2 ⟨allLow_has n w h.1 h.2.1, h.2.2⟩⟩
theorem lt_irr (a : List UInt8) : ¬ a < a := List.lt_irrefl a
theorem smAll_nodup (n : Nat) : (smAll n).Nodup := by
  refine List.Pairwise.imp ?_ (smAll_sorted n)
  intro a b h e
  subst e
  exact lt_irr a h
theorem smAll_even (n : Nat) (hn : 1 ≤ n) : (smAll n).length % 2 = 0 := by
  have hxc : ∀ w ∈ smAll n, xcL w ∈ smAll n := by
    intro w hw
    obtain ⟨h1, h2, h3⟩ := smAll_mem hw
    exact smAll_iff.2 ⟨by rw [xcL_len]; exact h1, xcL_on w, by unfold smB; rw [dep_xc h2]; exact h3⟩
  have hperm : ((smAll n).map xcL).Perm (smAll n) := by
    refine (List.perm_ext_iff_of_nodup ?_ (smAll_nodup n)).2 fun w => ?_
    · refine List.Pairwise.map _ ?_ (List.Pairwise.imp_of_mem (S := fun a b => xcL a ≠ xcL b) ?_ (smAll_nodup n))
      · exact fun a b h => h
      · intro a b ha hb hab e
        apply hab
        rw [← xcL_xcL (smAll_mem ha).2.1, e, xcL_xcL (smAll_mem hb).2.1]
    · constructor
      · intro h
        obtain ⟨v, hv, rfl⟩ := List.mem_map.1 h
        exact hxc v hv
      · intro h
        exact List.mem_map.2 ⟨xcL w, hxc w h, xcL_xcL (smAll_mem h).2.1⟩
  let p := fun w : List UInt8 => w.head? == some 49
  have h1 := hperm.countP_eq p
  rw [List.countP_map] at h1
  have h2 : (smAll n).countP (p ∘ xcL) = (smAll n).countP (fun w => !p w) := by
    refine List.countP_congr fun w hw => ?_
    obtain ⟨g1, g2, _⟩ := smAll_mem hw
    obtain ⟨c, t, rfl⟩ := List.exists_cons_of_ne_nil (List.length_pos_iff.1 (by rw [g1]; exact hn : 0 < w.length))
    have hc : onB c = true := List.all_eq_true.1 g2 c (by simp)
    unfold onB at hc
    simp only [Bool.or_eq_true, beq_iff_eq] at hc
    rcases hc with rfl | rfl <;> simp [p, xcL, xc]
  have h3 := List.length_eq_countP_add_countP p (l := smAll n)
  have h4 : (smAll n).countP (fun a => ¬ p a = true) = (smAll n).countP (fun w => !p w) := by
    refine List.countP_congr fun w _ => ?_
    simp
  omega
end Go.Proofs.YtkjmocdhhndlgaaGreatDoor
