/- Chapter 1 (pure): the runs of a word turned round; a word and its turned one are said alike. -/
import Derived.Test.YtmlghonidheidaaW16
namespace Go.Proofs.Ytmlghonidheidaa
open Go.RowKit Go.BigFrame
set_option linter.unusedSimpArgs false
set_option linter.unusedVariables false
set_option maxRecDepth 4000

/-- Runs that are told, one behind the other, have these runs. -/
theorem runs_flat (rs : List (UInt8 × Nat)) (hok : ∀ p ∈ rs, 1 ≤ p.2) (hadj : ∀ k (h : k + 1 < rs.length), rs[k].1 ≠ rs[k + 1].1) : ∀ k, k ≤ rs.length → runsL (flatP (rs.take k)) = rs.take k
  | 0, _ => rfl
  | k + 1, hk => by
    have hkr : k < rs.length := hk
    have ih := runs_flat rs hok hadj k (by omega)
    rw [List.take_succ_eq_append_getElem hkr, flatP_snoc]
    show (flatP (rs.take k) ++ List.replicate rs[k].2 rs[k].1).foldl stepRun [] = _
    rw [List.foldl_append]
    have e : (flatP (rs.take k)).foldl stepRun [] = rs.take k := ih
    rw [e]
    refine runs_repW _ _ (fun p hp => ?_) _ (hok _ (List.getElem_mem hkr))
    cases k with
    | zero => simp at hp
    | succ j =>
      have hj : j < rs.length := by omega
      rw [List.take_succ_eq_append_getElem hj, List.getLast?_append] at hp
      simp at hp
      subst hp
      exact hadj j (by omega)
theorem flat_reverse : ∀ rs : List (UInt8 × Nat), flatP rs.reverse = (flatP rs).reverse
  | [] => rfl
  | p :: rs => by
    rw [List.reverse_cons, flatP_snoc, flat_reverse rs, flat_cons, List.reverse_append, List.reverse_replicate]
theorem runs_reverse {l : List UInt8} (hd : l.all digB = true) : runsL l.reverse = (runsL l).reverse := by
  obtain ⟨h1, h2⟩ := good_runs hd
  have e : l.reverse = flatP (runsL l).reverse := by rw [flat_reverse, flat_runsW]
  have := runs_flat (runsL l).reverse (fun p hp => (h1 p (List.mem_reverse.1 hp)).2.2) (fun k h => by
    have hl : k + 1 < (runsL l).length := by simpa using h
    rw [List.getElem_reverse, List.getElem_reverse]
    have := h2 ((runsL l).length - 1 - (k + 1)) (by omega)
    have e2 : (runsL l).length - 1 - (k + 1) + 1 = (runsL l).length - 1 - k := by omega
    intro e3
    apply this
    rw [← e3]
    congr 1
    exact (getElem_congr_idx e2).symm) (runsL l).reverse.length (Nat.le_refl _)
  rw [List.take_length] at this
  rw [e, this]
theorem sayR_len_reverse (rs : List (UInt8 × Nat)) : (sayR rs.reverse).length = (sayR rs).length := by
  unfold sayR
  rw [List.length_flatMap, List.length_flatMap, List.map_reverse, List.sum_reverse]
theorem sayR_all_reverse (rs : List (UInt8 × Nat)) (p : UInt8 → Bool) : (sayR rs.reverse).all p = (sayR rs).all p := by
  rw [Bool.eq_iff_iff, List.all_eq_true, List.all_eq_true]
  unfold sayR
  simp only [List.mem_flatMap, List.mem_reverse]
theorem longR_reverse (rs : List (UInt8 × Nat)) : longR rs.reverse = longR rs := by
  have key : ∀ (a b : List (UInt8 × Nat)), (∀ p ∈ a, p ∈ b) → longR a ≤ longR b := by
    intro a b h
    refine snoc_rec (P := fun a => (∀ p ∈ a, p ∈ b) → longR a ≤ longR b) (fun _ => by simp [longR]) (fun l x ih h => ?_) a h
    rw [longR_snoc]
    have h1 := ih (fun p hp => h p (by simp [hp]))
    have h2 := le_longR' (h x (by simp))
    omega
  exact Nat.le_antisymm (key _ _ (fun p hp => List.mem_reverse.1 hp)) (key _ _ (fun p hp => List.mem_reverse.2 hp))
/-- A word and the word backwards are said alike: if one is said, the other is. -/
theorem said_reverse (l : List UInt8) : (saidO l.reverse).isSome = (saidO l).isSome := by
  have hg : goodL l.reverse = goodL l := by
    unfold goodL
    rw [List.length_reverse]
    congr 1
    rw [Bool.eq_iff_iff, List.all_eq_true, List.all_eq_true]
    simp only [List.mem_reverse]
  cases h : goodL l with
  | false =>
    have e1 : speakL l = false := by unfold speakL; rw [h]; rfl
    have e2 : speakL l.reverse = false := by unfold speakL; rw [hg, h]; rfl
    unfold saidO
    rw [e1, e2]; rfl
  | true =>
    have hd := (good_parts h).1
    have hr := runs_reverse hd
    have e1 : speakL l.reverse = speakL l := by unfold speakL longL; rw [hg, hr, longR_reverse]
    have e2 : goodL (sayL l.reverse) = goodL (sayL l) := by
      unfold sayL
      rw [hr]
      unfold goodL
      rw [sayR_len_reverse, sayR_all_reverse]
    unfold saidO
    rw [e1, e2]
    split <;> rfl
end Go.Proofs.Ytmlghonidheidaa
