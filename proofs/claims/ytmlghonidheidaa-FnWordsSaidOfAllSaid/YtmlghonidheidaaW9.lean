/- What is heard says the word again (pure). -/
import Derived.Test.YtmlghonidheidaaW13
import Derived.Test.YtmlghonidheidaaR1
namespace Go.Proofs.Ytmlghonidheidaa
open Go.RowKit Go.BigFrame Go.Shelf
set_option linter.unusedSimpArgs false
set_option linter.unusedVariables false
set_option maxRecDepth 4000

theorem runs_repW (acc : List (UInt8 × Nat)) (c : UInt8) (hc : ∀ p, acc.getLast? = some p → p.1 ≠ c) : ∀ m, 1 ≤ m → (List.replicate m c).foldl stepRun acc = acc ++ [(c, m)]
  | 1, _ => by
    show stepRun acc c = _
    rcases list_cases_snoc acc with rfl | ⟨pre, ⟨d, n⟩, rfl⟩
    · rfl
    · have hd : d ≠ c := hc (d, n) (by simp)
      rw [stepRun_other _ _ _ _ hd]
  | m + 2, _ => by
    rw [List.replicate_succ', List.foldl_append, runs_repW acc c hc (m + 1) (by omega)]
    show stepRun (acc ++ [(c, m + 1)]) c = _
    rw [stepRun_same]
theorem dgw_injW {x y : Int} (hx : 0 ≤ x ∧ x ≤ 9) (hy : 0 ≤ y ∧ y ≤ 9) (h : dgw x = dgw y) : x = y := by
  have h1 := dgw_nat x hx.1 hx.2
  have h2 := dgw_nat y hy.1 hy.2
  rw [h] at h1; omega
/-- A row as a run. -/
def rowP (r : List Int) : UInt8 × Nat := (dgw (r.getD 0 0), (r.getD 1 0).toNat)
theorem hear_runsW (rows : List (List Int)) (hr : ∀ r ∈ rows, isRunB r = true) : ∀ k, k ≤ rows.length → ∀ t b, hearL (rows.take k) = some (t, b) →
    runsL t = (rows.take k).map rowP ∧ b = if k = 0 then 0 else (rows.getD (k - 1) []).getD 0 0
  | 0, _, t, b, h => by
    simp [hearL] at h
    obtain ⟨rfl, rfl⟩ := h
    exact ⟨rfl, rfl⟩
  | k + 1, hk, t, b, h => by
    have hk' : k < rows.length := by omega
    rw [hearL_succ rows k hk'] at h
    cases h0 : hearL (rows.take k) with
    | none => rw [h0] at h; cases h
    | some p =>
      obtain ⟨t0, b0⟩ := p
      rw [h0] at h
      unfold hearStep at h
      dsimp only at h
      obtain ⟨ih1, ih2⟩ := hear_runsW rows hr k (by omega) t0 b0 h0
      have hrow := of_decide_eq_true (hr rows[k] (List.getElem_mem hk'))
      split at h
      · rename_i hne
        simp only [Option.some.injEq, Prod.mk.injEq] at h
        obtain ⟨rfl, rfl⟩ := h
        refine ⟨?_, ?_⟩
        · show (t0 ++ List.replicate (rows[k].getD 1 0).toNat (dgw (rows[k].getD 0 0))).foldl stepRun [] = _
          rw [List.foldl_append]
          unfold runsL at ih1
          rw [ih1, runs_repW _ _ ?_ _ (by omega), List.take_succ_eq_append_getElem hk', List.map_append]
          · rfl
          · intro p hp
            cases k with
            | zero => simp at hp
            | succ j =>
              have hj : j < rows.length := by omega
              rw [List.take_succ_eq_append_getElem hj, List.map_append, List.getLast?_append] at hp
              simp at hp
              subst hp
              intro e
              have hrj := of_decide_eq_true (hr rows[j] (List.getElem_mem hj))
              have e2 := dgw_injW (by omega) (by omega) e
              have hj2 : rows.getD j [] = rows[j] := by rw [List.getD_eq_getElem?_getD, List.getElem?_eq_getElem hj]; rfl
              rw [if_neg (by omega), Nat.add_sub_cancel, hj2] at ih2
              exact hne (by rw [ih2]; exact e2.symm)
        · have hk2 : rows.getD k [] = rows[k] := by rw [List.getD_eq_getElem?_getD, List.getElem?_eq_getElem hk']; rfl
          rw [if_neg (by omega), Nat.add_sub_cancel, hk2]
      · cases h
theorem dig_atW {l : List UInt8} (hd : l.all digB = true) (i : Nat) (hi : i < l.length) : 49 ≤ l[i].toNat ∧ l[i].toNat ≤ 57 := by
  have h := List.all_eq_true.1 hd l[i] (List.getElem_mem hi)
  unfold digB at h
  rw [decide_eq_true_eq] at h
  exact h
theorem getD_W {l : List UInt8} (i : Nat) (hi : i < l.length) : l.getD i 0 = l[i] := by rw [List.getD_eq_getElem?_getD, List.getElem?_eq_getElem hi, Option.getD_some]
theorem rowP_W {l : List UInt8} (hd : l.all digB = true) (k : Nat) (hk : 2 * k + 1 < l.length) (h : k < (rowsH l).length) : rowP (rowsH l)[k] = (l[2 * k + 1], l[2 * k].toNat - 48) := by
  have h1 := dig_atW hd (2 * k + 1) hk
  have h2 := dig_atW hd (2 * k) (by omega)
  rw [rowsH_get l k h, getD_W _ hk, getD_W (2 * k) (by omega)]
  unfold rowP
  simp only [List.getD_cons_zero, List.getD_cons_succ]
  congr 1
  · apply UInt8.toNat_inj.1
    have := dgw_nat ((l[2 * k + 1].toNat : Int) - 48) (by omega) (by omega)
    omega
  · omega
theorem say_rowsW {l : List UInt8} (hd : l.all digB = true) : ∀ k, 2 * k ≤ l.length → sayR (((rowsH l).take k).map rowP) = l.take (2 * k)
  | 0, _ => rfl
  | k + 1, hk => by
    have hk1 : k < (rowsH l).length := by rw [rowsH_len]; omega
    have h1 := dig_atW hd (2 * k + 1) (by omega)
    have h2 := dig_atW hd (2 * k) (by omega)
    rw [List.take_succ_eq_append_getElem hk1, List.map_append]
    show sayR (((rowsH l).take k).map rowP ++ [rowP (rowsH l)[k]]) = _
    rw [rowP_W hd k (by omega) hk1, sayR_snoc2 ⟨h1.1, h1.2, by show 1 ≤ l[2 * k].toNat - 48; omega, by show l[2 * k].toNat - 48 ≤ 9; omega⟩, say_rowsW hd k (by omega)]
    have e : nDig (l[2 * k].toNat - 48) = l[2 * k] := by
      apply UInt8.toNat_inj.1
      rw [nDig_nat (by omega)]; omega
    show l.take (2 * k) ++ [nDig (l[2 * k].toNat - 48)] ++ [l[2 * k + 1]] = _
    rw [e, show 2 * (k + 1) = 2 * k + 1 + 1 by omega, List.take_succ_eq_append_getElem (by omega), List.take_succ_eq_append_getElem (by omega)]
theorem rows_runW {l : List UInt8} (hd : l.all digB = true) : ∀ r ∈ rowsH l, isRunB r = true := by
  intro r hr
  obtain ⟨k, hk, rfl⟩ := List.mem_map.1 hr
  have hk2 := List.mem_range.1 hk
  have h1 := dig_atW hd (2 * k + 1) (by omega)
  have h2 := dig_atW hd (2 * k) (by omega)
  rw [getD_W (2 * k + 1) (by omega), getD_W (2 * k) (by omega)]
  unfold isRunB
  rw [decide_eq_true_eq]
  refine ⟨rfl, ?_, ?_, ?_⟩
  · show (1 : Int) ≤ (l[2 * k + 1].toNat : Int) - 48; omega
  · show (l[2 * k + 1].toNat : Int) - 48 ≤ 9; omega
  · show (1 : Int) ≤ (l[2 * k].toNat : Int) - 48; omega
/-- WHAT IS HEARD SAYS THE WORD AGAIN. -/
theorem hear_say {l t : List UInt8} (h : hearO l = some t) : saidO t = some l := by
  have hgt := hearO_good h
  unfold hearO at h
  split at h
  · rename_i hc
    obtain ⟨hg, hev⟩ := hc
    have hd : l.all digB = true := by unfold goodL at hg; simp only [Bool.and_eq_true] at hg; exact hg.2
    rw [wordO_hear _ (rows_runW hd)] at h
    cases h0 : hearL (rowsH l) with
    | none => rw [h0] at h; cases h
    | some p =>
      obtain ⟨t0, b⟩ := p
      rw [h0] at h
      dsimp only at h
      split at h
      · cases h
        have hrun := (hear_runsW (rowsH l) (rows_runW hd) (rowsH l).length (Nat.le_refl _) t b (by rw [List.take_length]; exact h0)).1
        have hsay : sayL t = l := by
          unfold sayL
          rw [hrun, rowsH_len, say_rowsW hd (l.length / 2) (by omega), List.take_of_length_le (by omega)]
        have hlong : longL t ≤ 9 := by
          unfold longL
          rw [hrun]
          refine longR_le_of fun p hp => ?_
          obtain ⟨r, hr, rfl⟩ := List.mem_map.1 hp
          rw [List.take_length] at hr
          obtain ⟨k, hk, rfl⟩ := List.mem_map.1 hr
          have hk2 := List.mem_range.1 hk
          have h2 := dig_atW hd (2 * k) (by omega)
          unfold rowP
          simp only [List.getD_cons_zero, List.getD_cons_succ]
          rw [getD_W (2 * k) (by omega)]
          omega
        unfold saidO
        rw [if_pos ⟨by unfold speakL; rw [hgt, Bool.true_and, decide_eq_true_eq]; exact hlong, by rw [hsay]; exact hg⟩, hsay]
      · cases h
  · cases h
/-- What is heard at last is said back as often. -/
theorem htGo_way : ∀ (n : Nat) (l : List UInt8), ∃ ls, wayG saidO (htGo n l).2 (htGo n l).1 = some ls ∧ ls.getLastD [] = l
  | 0, l => ⟨[l], rfl, rfl⟩
  | n + 1, l => by
    cases h : hearO l with
    | none => rw [htGo_none _ _ h]; exact ⟨[l], rfl, rfl⟩
    | some t =>
      rw [htGo_some n l t h]
      obtain ⟨ls, h1, h2⟩ := htGo_way n t
      refine ⟨ls ++ [l], ?_, by simp⟩
      show wayG saidO ((htGo n t).2 + 1) (htGo n t).1 = _
      unfold wayG
      rw [h1]
      dsimp only
      rw [h2, hear_say h]
theorem htGo_le : ∀ (n : Nat) (l : List UInt8), (htGo n l).2 ≤ n
  | 0, l => Nat.le_refl _
  | n + 1, l => by
    cases h : hearO l with
    | none => rw [htGo_none _ _ h]; exact Nat.zero_le _
    | some t => rw [htGo_some n l t h]; have := htGo_le n t; show (htGo n t).2 + 1 ≤ n + 1; omega
/-- Where hearing has ended ahead of the bound, nothing more is heard. -/
theorem htGo_end : ∀ (n : Nat) (l : List UInt8), (htGo n l).2 < n → hearO (htGo n l).1 = none
  | 0, l, h => by simp [htGo] at h
  | n + 1, l, h => by
    cases h0 : hearO l with
    | none => rw [htGo_none _ _ h0]; exact h0
    | some t =>
      rw [htGo_some n l t h0] at h ⊢
      exact htGo_end n t (by have : (htGo n t).2 + 1 < n + 1 := h; omega)
end Go.Proofs.Ytmlghonidheidaa
