/- Chapter 1 (pure): what the law FnWordsSaid asks of runs, words of runs, sums, counts, and the one still word. -/
import Derived.Test.YtmlghonidheidaaW14
namespace Go.Proofs.Ytmlghonidheidaa
open Go.RowKit Go.BigFrame
set_option linter.unusedSimpArgs false
set_option linter.unusedVariables false
set_option maxRecDepth 4000

theorem flatP_len : ∀ rs : List (UInt8 × Nat), (flatP rs).length = (rs.map (·.2)).sum
  | [] => rfl
  | p :: rs => by
    have := flatP_len rs
    simp only [flatP, List.flatMap_cons, List.length_append, List.length_replicate, List.map_cons, List.sum_cons] at this ⊢
    omega
/-- The rows of the runs of a word make the word again. -/
theorem wor_flat (rs : List (UInt8 × Nat)) (hok : ∀ p ∈ rs, 49 ≤ p.1.toNat ∧ p.1.toNat ≤ 57 ∧ 1 ≤ p.2) (hadj : ∀ k (h : k + 1 < rs.length), rs[k].1 ≠ rs[k + 1].1) (h400 : (flatP rs).length ≤ 400) : ∀ k, k ≤ rs.length →
    worL ((rs.map toRow).take k) = some (flatP (rs.take k), if k = 0 then 0 else ((rs.getD (k - 1) (0, 0)).1.toNat : Int) - 48)
  | 0, _ => rfl
  | k + 1, hk => by
    have hk' : k < (rs.map toRow).length := by simp; omega
    have hkr : k < rs.length := by omega
    have ho := hok rs[k] (List.getElem_mem hkr)
    rw [worL_succ _ k hk', wor_flat rs hok hadj h400 k (by omega)]
    have hrow : (rs.map toRow)[k] = toRow rs[k] := by simp
    rw [hrow]
    unfold worStep
    dsimp only
    have e0 : (toRow rs[k]).getD 0 0 = (rs[k].1.toNat : Int) - 48 := rfl
    have e1 : (toRow rs[k]).getD 1 0 = (rs[k].2 : Int) := rfl
    have hrun : isRunB (toRow rs[k]) = true := by
      unfold isRunB
      rw [e0, e1]
      exact decide_eq_true ⟨rfl, by omega, by omega, by omega⟩
    rw [hrun, e0, e1]
    have hne : ((rs[k].1.toNat : Int) - 48) ≠ (if k = 0 then 0 else ((rs.getD (k - 1) (0, 0)).1.toNat : Int) - 48) := by
      cases k with
      | zero => rw [if_pos rfl]; have := ho.1; omega
      | succ j =>
        rw [if_neg (by omega), Nat.add_sub_cancel]
        have hj : rs.getD j (0, 0) = rs[j] := by rw [List.getD_eq_getElem?_getD, List.getElem?_eq_getElem (by omega)]; rfl
        rw [hj]
        have h1 := hadj j (by omega)
        intro e
        apply h1
        apply UInt8.toNat_inj.1
        have h2 := (hok rs[j] (List.getElem_mem (by omega))).1
        have h3 := ho.1
        omega
    have hfit : (rs[k].2 : Int) ≤ 400 - ((flatP (rs.take k)).length : Int) := by
      have e : flatP rs = flatP (rs.take k) ++ (List.replicate rs[k].2 rs[k].1 ++ flatP (rs.drop (k + 1))) := by
        have e2 : flatP rs = flatP (rs.take k ++ (rs[k] :: rs.drop (k + 1))) := by rw [← List.drop_eq_getElem_cons hkr, List.take_append_drop]
        exact e2.trans (by unfold flatP; rw [List.flatMap_append, List.flatMap_cons])
      rw [e, List.length_append, List.length_append, List.length_replicate] at h400
      omega
    rw [if_pos ⟨rfl, hne, hfit⟩]
    have hd : dgw ((rs[k].1.toNat : Int) - 48) = rs[k].1 := by
      apply UInt8.toNat_inj.1
      have h1 := ho.1; have h2 := ho.2.1
      have := dgw_nat ((rs[k].1.toNat : Int) - 48) (by omega) (by omega)
      omega
    have hg : rs.getD (k + 1 - 1) (0, 0) = rs[k] := by rw [Nat.add_sub_cancel, List.getD_eq_getElem?_getD, List.getElem?_eq_getElem hkr]; rfl
    rw [hd, hg, if_neg (by omega), List.take_succ_eq_append_getElem hkr, flatP_snoc, Int.toNat_natCast]
theorem good_runs {l : List UInt8} (hd : l.all digB = true) : (∀ p ∈ runsL l, 49 ≤ p.1.toNat ∧ p.1.toNat ≤ 57 ∧ 1 ≤ p.2) ∧ ∀ k (h : k + 1 < (runsL l).length), (runsL l)[k].1 ≠ (runsL l)[k + 1].1 := by
  refine ⟨fun p hp => ?_, fun k h => adj_runs l k _ _ (List.getElem?_eq_getElem (by omega)) (List.getElem?_eq_getElem h)⟩
  have h1 := runs_digB hd p hp
  have h4 := h1.1
  unfold digB at h4
  rw [decide_eq_true_eq] at h4
  exact ⟨h4.1, h4.2, h1.2⟩
theorem good_parts {l : List UInt8} (h : goodL l = true) : l.all digB = true ∧ l.length ≤ 400 := by
  have := good_size h
  rw [bs_size] at this
  unfold goodL at h
  simp only [Bool.and_eq_true] at h
  exact ⟨h.2, this⟩
theorem word_runs {l : List UInt8} (h : goodL l = true) : wordO ((runsL l).map toRow) = some l := by
  obtain ⟨hd, h4⟩ := good_parts h
  obtain ⟨h1, h2⟩ := good_runs hd
  have := wor_flat (runsL l) h1 h2 (by rw [flat_runsW]; exact h4) (runsL l).length (Nat.le_refl _)
  rw [List.take_of_length_le (by simp), List.take_length, flat_runsW] at this
  unfold wordO
  rw [this]
  dsimp only
  rw [if_pos h]
/-- A word made of rows has these rows as its runs. -/
theorem wor_runs (nss : List (List Int)) : ∀ k, k ≤ nss.length → ∀ t b, worL (nss.take k) = some (t, b) →
    (runsL t).map toRow = nss.take k ∧ (∀ p, (runsL t).getLast? = some p → (p.1.toNat : Int) - 48 = b)
  | 0, _, t, b, h => by
    have e : t = [] ∧ b = 0 := by
      rw [List.take_zero] at h
      unfold worL at h
      simp only [List.foldl_nil, Option.some.injEq, Prod.mk.injEq] at h
      exact ⟨h.1.symm, h.2.symm⟩
    obtain ⟨rfl, rfl⟩ := e
    exact ⟨rfl, fun p hp => by simp [runsL] at hp⟩
  | k + 1, hk, t, b, h => by
    have hk' : k < nss.length := hk
    rw [worL_succ _ k hk'] at h
    cases h0 : worL (nss.take k) with
    | none => rw [h0] at h; simp [worStep] at h
    | some tb =>
      obtain ⟨t0, b0⟩ := tb
      obtain ⟨ih1, ih2⟩ := wor_runs nss k (by omega) t0 b0 h0
      rw [h0] at h
      unfold worStep at h
      dsimp only at h
      split at h
      · rename_i hc
        obtain ⟨hr, hne, hfit⟩ := hc
        simp only [Option.some.injEq, Prod.mk.injEq] at h
        obtain ⟨ht, hb⟩ := h
        unfold isRunB at hr
        rw [decide_eq_true_eq] at hr
        obtain ⟨hl2, hr1, hr9, hr2⟩ := hr
        have hrow : nss[k] = [nss[k].getD 0 0, nss[k].getD 1 0] := by
          match hm : nss[k], hl2 with
          | [x, y], _ => rfl
        obtain ⟨d, hd⟩ : ∃ d, d = nss[k].getD 0 0 := ⟨_, rfl⟩
        obtain ⟨n, hn⟩ : ∃ n, n = nss[k].getD 1 0 := ⟨_, rfl⟩
        rw [← hd, ← hn] at hrow
        rw [← hd] at hr1 hr9 hne hb ht
        rw [← hn] at hr2 hfit ht
        have hdn := dgw_nat d (by omega) hr9
        have hruns : runsL t = runsL t0 ++ [(dgw d, n.toNat)] := by
          rw [← ht]
          show (t0 ++ List.replicate n.toNat (dgw d)).foldl stepRun [] = _
          rw [List.foldl_append]
          refine runs_repW _ _ (fun p hp => ?_) _ (by omega)
          intro e
          have := ih2 p hp
          rw [e, hdn] at this
          omega
        refine ⟨?_, fun p hp => ?_⟩
        · rw [hruns, List.map_append, ih1, List.take_succ_eq_append_getElem hk', hrow]
          congr 1
          show [[((dgw d).toNat : Int) - 48, ((n.toNat : Nat) : Int)]] = [[d, n]]
          rw [hdn]
          congr 2
          · omega
          · congr 1; omega
        · rw [hruns, List.getLast?_append] at hp
          simp at hp
          subst hp
          rw [← hb]
          dsimp only
          omega
      · cases h
theorem runs_word {nss : List (List Int)} {t : List UInt8} (h : wordO nss = some t) : (runsL t).map toRow = nss ∧ goodL t = true := by
  unfold wordO at h
  cases h0 : worL nss with
  | none => rw [h0] at h; cases h
  | some tb =>
    obtain ⟨t0, b0⟩ := tb
    rw [h0] at h
    dsimp only at h
    split at h
    · rename_i hg
      cases h
      have := wor_runs nss nss.length (Nat.le_refl _) t b0 (by rw [List.take_length]; exact h0)
      rw [List.take_length] at this
      exact ⟨this.1, hg⟩
    · cases h
/-- How often a digit is in a word, by the runs. -/
theorem count_flat (c : UInt8) : ∀ rs : List (UInt8 × Nat), (flatP rs).count c = (rs.map fun p => if p.1 = c then p.2 else 0).sum
  | [] => rfl
  | p :: rs => by
    have := count_flat c rs
    simp only [flatP, List.flatMap_cons, List.count_append, List.count_replicate, List.map_cons, List.sum_cons] at this ⊢
    rw [this]
    congr 1
    by_cases e : p.1 = c
    · rw [if_pos e, if_pos (by simpa using e)]
    · rw [if_neg e, if_neg (by simpa using e)]
theorem say_cons {q : UInt8 × Nat} (h : RunOk q) (r : List (UInt8 × Nat)) : sayR (q :: r) = nDig q.2 :: q.1 :: sayR r := by
  unfold sayR
  rw [List.flatMap_cons, sayP_two h]; rfl
theorem flat_cons (q : UInt8 × Nat) (r : List (UInt8 × Nat)) : flatP (q :: r) = List.replicate q.2 q.1 ++ flatP r := by simp [flatP]
theorem nDig_inj {a b : Nat} (ha : a ≤ 9) (hb : b ≤ 9) (h : nDig a = nDig b) : a = b := by
  have h1 := nDig_nat ha
  have h2 := nDig_nat hb
  rw [h, h2] at h1
  omega
/-- A text of runs that is said as itself begins with two twos. -/
theorem still_first (c1 : UInt8) (n1 : Nat) (t : List (UInt8 × Nat)) (hok : ∀ q ∈ (c1, n1) :: t, RunOk q) (hadj : ∀ k (h : k + 1 < ((c1, n1) :: t).length), ((c1, n1) :: t)[k].1 ≠ ((c1, n1) :: t)[k + 1].1)
    (h : sayR ((c1, n1) :: t) = flatP ((c1, n1) :: t)) : c1 = 50 ∧ n1 = 2 ∧ sayR t = flatP t := by
  have o1 := hok (c1, n1) (by simp)
  rw [say_cons o1, flat_cons] at h
  match n1, o1, h with
  | 0, o1, _ => exact absurd o1.2.2.1 (by simp)
  | 1, o1, h =>
    exfalso
    simp only [List.replicate_succ, List.replicate_zero, List.cons_append, List.nil_append, List.cons.injEq] at h
    cases t with
    | nil => have := h.2; simp [flatP] at this
    | cons p2 t2 =>
      have o2 := hok p2 (by simp)
      have hh := h.2
      rw [flat_cons] at hh
      obtain ⟨m, hm⟩ : ∃ m, p2.2 = m + 1 := ⟨p2.2 - 1, by have := o2.2.2.1; omega⟩
      rw [hm, List.replicate_succ, List.cons_append] at hh
      injection hh with e _
      exact hadj 0 (by simp) e
  | 2, o1, h =>
    simp only [List.replicate_succ, List.replicate_zero, List.cons_append, List.nil_append, List.cons.injEq, true_and] at h
    exact ⟨h.1.symm, rfl, h.2⟩
  | m + 3, o1, h =>
    exfalso
    simp only [List.replicate_succ, List.cons_append, List.cons.injEq, true_and] at h
    obtain ⟨hc, h⟩ := h
    cases t with
    | nil => simp [sayR] at h
    | cons p2 t2 =>
      have o2 := hok p2 (by simp)
      rw [say_cons o2] at h
      injection h with e1 h
      have hn : p2.2 = m + 3 := by
        rw [← hc] at e1
        exact nDig_inj o2.2.2.2 o1.2.2.2 e1
      cases m with
      | succ m =>
        rw [List.replicate_succ, List.cons_append] at h
        injection h with e2 _
        exact hadj 0 (by simp) e2.symm
      | zero =>
        rw [List.replicate_zero, List.nil_append, flat_cons, hn, List.replicate_succ, List.replicate_succ, List.replicate_succ, List.replicate_zero] at h
        simp only [List.cons_append, List.nil_append, List.cons.injEq, true_and] at h
        cases t2 with
        | nil => simp [sayR] at h
        | cons p3 t3 =>
          have o3 := hok p3 (by simp)
          rw [say_cons o3] at h
          injection h with e3 h
          injection h with e4 _
          exact hadj 1 (by simp) e4.symm
/-- The one word that is said as itself. -/
theorem still_runs (rs : List (UInt8 × Nat)) (hok : ∀ p ∈ rs, RunOk p) (hadj : ∀ k (h : k + 1 < rs.length), rs[k].1 ≠ rs[k + 1].1) (hne : rs ≠ []) (h : sayR rs = flatP rs) : rs = [(50, 2)] := by
  match rs, hne with
  | (c1, n1) :: t, _ =>
    obtain ⟨rfl, rfl, h2⟩ := still_first c1 n1 t hok hadj h
    cases t with
    | nil => rfl
    | cons p2 t2 =>
      exfalso
      obtain ⟨c2, n2⟩ := p2
      obtain ⟨e, _, _⟩ := still_first c2 n2 t2 (fun q hq => hok q (List.mem_cons_of_mem _ hq)) (fun k hk => hadj (k + 1) (by simp at hk ⊢; omega)) h2
      exact hadj 0 (by simp) e.symm
end Go.Proofs.Ytmlghonidheidaa
