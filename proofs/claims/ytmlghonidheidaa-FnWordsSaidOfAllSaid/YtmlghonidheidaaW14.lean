/- What is said is heard again (pure). -/
import Derived.Test.YtmlghonidheidaaW9
namespace Go.Proofs.Ytmlghonidheidaa
open Go.RowKit Go.BigFrame Go.Shelf
set_option linter.unusedSimpArgs false
set_option linter.unusedVariables false
set_option maxRecDepth 4000

def flatP (rs : List (UInt8 × Nat)) : List UInt8 := rs.flatMap fun p => List.replicate p.2 p.1
theorem flatP_snoc (rs : List (UInt8 × Nat)) (p : UInt8 × Nat) : flatP (rs ++ [p]) = flatP rs ++ List.replicate p.2 p.1 := by simp [flatP]
/-- The runs of a word, one behind the other, are the word. -/
theorem flat_runsW (l : List UInt8) : flatP (runsL l) = l := by
  refine snoc_rec (P := fun l => flatP (runsL l) = l) rfl (fun l c ih => ?_) l
  rw [runsL_snoc]
  rcases list_cases_snoc (runsL l) with h | ⟨pre, ⟨d, n⟩, h⟩
  · rw [h] at ih ⊢
    have hl : l = [] := ih.symm
    subst hl
    rfl
  · rw [h] at ih ⊢
    by_cases hd : d = c
    · subst hd
      rw [stepRun_same, flatP_snoc]
      rw [flatP_snoc] at ih
      conv => rhs; rw [← ih]
      rw [List.append_assoc, ← List.replicate_succ']
    · rw [stepRun_other _ _ _ _ hd, flatP_snoc]
      rw [ih]; rfl
/-- The row of a run. -/
def toRow (p : UInt8 × Nat) : List Int := [(p.1.toNat : Int) - 48, (p.2 : Int)]
theorem hear_flatW (rs : List (UInt8 × Nat)) (hok : ∀ p ∈ rs, RunOk p) (hadj : ∀ k (h : k + 1 < rs.length), rs[k].1 ≠ rs[k + 1].1) : ∀ k, k ≤ rs.length →
    hearL ((rs.map toRow).take k) = some (flatP (rs.take k), if k = 0 then 0 else ((rs.getD (k - 1) (0, 0)).1.toNat : Int) - 48)
  | 0, _ => rfl
  | k + 1, hk => by
    have hk' : k < (rs.map toRow).length := by simp; omega
    have hkr : k < rs.length := by omega
    have ho := hok rs[k] (List.getElem_mem hkr)
    rw [hearL_succ _ k hk', hear_flatW rs hok hadj k (by omega)]
    have hrow : (rs.map toRow)[k] = toRow rs[k] := by simp
    rw [hrow]
    unfold hearStep
    dsimp only
    have e0 : (toRow rs[k]).getD 0 0 = (rs[k].1.toNat : Int) - 48 := rfl
    have e1 : (toRow rs[k]).getD 1 0 = (rs[k].2 : Int) := rfl
    rw [e0, e1]
    have hne : ((rs[k].1.toNat : Int) - 48) ≠ (if k = 0 then 0 else ((rs.getD (k - 1) (0, 0)).1.toNat : Int) - 48) := by
      cases k with
      | zero => rw [if_pos rfl]; have := ho.1; omega
      | succ j =>
        rw [if_neg (by omega), Nat.add_sub_cancel]
        have hj : rs.getD j (0, 0) = rs[j] := by rw [List.getD_eq_getElem?_getD, List.getElem?_eq_getElem (by omega)]; rfl
        rw [hj]
        have h1 := hadj j (by omega)
        intro e
        apply h1
        apply UInt8.toNat_inj.1
        have h2 := (hok rs[j] (List.getElem_mem (by omega))).1
        have h3 := ho.1
        omega
    rw [if_pos hne]
    have hd : dgw ((rs[k].1.toNat : Int) - 48) = rs[k].1 := by
      apply UInt8.toNat_inj.1
      have h1 := ho.1; have h2 := ho.2.1
      have := dgw_nat ((rs[k].1.toNat : Int) - 48) (by omega) (by omega)
      omega
    have hg : rs.getD (k + 1 - 1) (0, 0) = rs[k] := by rw [Nat.add_sub_cancel, List.getD_eq_getElem?_getD, List.getElem?_eq_getElem hkr]; rfl
    rw [hd, hg, if_neg (by omega), List.take_succ_eq_append_getElem hkr, flatP_snoc, Int.toNat_natCast]
theorem sayR_at (rs : List (UInt8 × Nat)) (hok : ∀ p ∈ rs, RunOk p) (k : Nat) (h : k < rs.length) : (sayR rs)[2 * k]? = some (nDig rs[k].2) ∧ (sayR rs)[2 * k + 1]? = some rs[k].1 := by
  have e : rs = rs.take k ++ (rs[k] :: rs.drop (k + 1)) := by rw [← List.drop_eq_getElem_cons h, List.take_append_drop]
  have hl : (sayR (rs.take k)).length = 2 * k := by
    rw [sayR_len2 (fun p hp => hok p (List.mem_of_mem_take hp)), List.length_take, Nat.min_eq_left (by omega)]
  have hs : sayR rs = sayR (rs.take k) ++ ([nDig rs[k].2, rs[k].1] ++ sayR (rs.drop (k + 1))) := by
    conv => lhs; rw [e]
    show (rs.take k ++ (rs[k] :: rs.drop (k + 1))).flatMap sayP = _
    rw [List.flatMap_append, List.flatMap_cons, sayP_two (hok _ (List.getElem_mem h))]; rfl
  rw [hs]
  refine ⟨?_, ?_⟩
  · rw [List.getElem?_append_right (by omega), hl, Nat.sub_self]; rfl
  · rw [List.getElem?_append_right (by omega), hl, show 2 * k + 1 - 2 * k = 1 by omega]; rfl
theorem rowsH_say (rs : List (UInt8 × Nat)) (hok : ∀ p ∈ rs, RunOk p) : rowsH (sayR rs) = rs.map toRow := by
  have hlen := sayR_len2 hok
  refine List.ext_getElem (by rw [rowsH_len, hlen, List.length_map]; omega) fun k h1 h2 => ?_
  have hk : k < rs.length := by simpa using h2
  obtain ⟨a1, a2⟩ := sayR_at rs hok k hk
  rw [rowsH_get _ k h1, List.getElem_map, List.getD_eq_getElem?_getD, List.getD_eq_getElem?_getD, a1, a2]
  have h4 := (hok rs[k] (List.getElem_mem hk)).2.2
  unfold toRow
  simp only [Option.getD_some]
  rw [nDig_nat h4.2]
  congr 2
  omega
/-- WHAT IS SAID IS HEARD AGAIN. -/
theorem say_hear {w l : List UInt8} (h : saidO w = some l) : hearO l = some w := by
  unfold saidO at h
  split at h
  · rename_i hc
    obtain ⟨hs, hg⟩ := hc
    cases h
    unfold speakL at hs
    rw [Bool.and_eq_true, decide_eq_true_eq] at hs
    have hd : w.all digB = true := by have := hs.1; unfold goodL at this; simp only [Bool.and_eq_true] at this; exact this.2
    have hok : ∀ p ∈ runsL w, RunOk p := by
      intro p hp
      have h1 := runs_digB hd p hp
      have h2 := le_longR' hp
      have h3 := hs.2
      unfold longL at h3
      have h4 := h1.1
      unfold digB at h4
      rw [decide_eq_true_eq] at h4
      exact ⟨h4.1, h4.2, h1.2, by omega⟩
    have hadj : ∀ k (h : k + 1 < (runsL w).length), (runsL w)[k].1 ≠ (runsL w)[k + 1].1 := fun k h => adj_runs w k _ _ (List.getElem?_eq_getElem (by omega)) (List.getElem?_eq_getElem h)
    have hd2 : (sayL w).all digB = true := by unfold goodL at hg; simp only [Bool.and_eq_true] at hg; exact hg.2
    have hhear := hear_flatW (runsL w) hok hadj (runsL w).length (Nat.le_refl _)
    rw [List.take_of_length_le (by simp), List.take_length, flat_runsW] at hhear
    unfold hearO
    rw [if_pos ⟨hg, by unfold sayL; rw [sayR_len2 hok]; omega⟩, wordO_hear _ (rows_runW hd2)]
    unfold sayL
    rw [rowsH_say _ hok, hhear]
    dsimp only
    rw [if_pos hs.1]
  · cases h
end Go.Proofs.Ytmlghonidheidaa
