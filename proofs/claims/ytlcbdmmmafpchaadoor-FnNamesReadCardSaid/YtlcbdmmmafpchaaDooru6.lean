/- What is said of any digits, noughts too: the model's woRuns, woSay, woTimes. -/
import Derived.Test.YtlcbdmmmafpchaaDoorA5
namespace Go.Proofs.YtlcbdmmmafpchaaDoor
open Go.RowKit Go.BigFrame
set_option linter.unusedSimpArgs false
set_option linter.unusedVariables false
set_option maxRecDepth 4000

def digZ (c : UInt8) : Bool := decide (48 ≤ c.toNat ∧ c.toNat ≤ 57)
theorem dig_atZ (s : ByteArray) (h : s.data.toList.all digZ = true) (k : Nat) (hk : k < s.size) : 48 ≤ s[k].toNat ∧ s[k].toNat ≤ 57 := by
  have h2 := List.all_eq_true.1 h (s.data.toList[k]'(by simpa using hk)) (List.getElem_mem _)
  have e : s.data.toList[k]'(by simpa using hk) = s[k] := by simp; rfl
  rw [e] at h2
  simpa [digZ] using h2
theorem runs_digZ {l : List UInt8} (h : l.all digZ = true) {k : Nat} (hk : k < (runsL l).length) : 48 ≤ (runsL l)[k].1.toNat ∧ (runsL l)[k].1.toNat ≤ 57 := by
  have := runsL_mem (fun c => 48 ≤ c.toNat ∧ c.toNat ≤ 57) l (fun c hc => by simpa [digZ] using List.all_eq_true.1 h c hc) _ (List.getElem_mem hk)
  exact this
theorem numL_digZ (n : Nat) : (numL n).all digZ = true := by
  induction n using Nat.strongRecOn with
  | _ n ih =>
    by_cases h : n < 10
    · rw [numL_one n h]
      simp only [List.all_cons, List.all_nil, Bool.and_true]
      exact decide_eq_true (by rw [UInt8.toNat_ofNat']; omega)
    · rw [numL_more n h, List.all_append, ih (n / 10) (by omega), Bool.true_and]
      simp only [List.all_cons, List.all_nil, Bool.and_true]
      exact decide_eq_true (by rw [UInt8.toNat_ofNat']; omega)
theorem numL_ge (n : Nat) : 1 ≤ (numL n).length := by
  by_cases h : n < 10
  · rw [numL_one n h]; simp
  · rw [numL_more n h]; simp
theorem sayR_facts : ∀ rs : List (UInt8 × Nat), (∀ p ∈ rs, 48 ≤ p.1.toNat ∧ p.1.toNat ≤ 57 ∧ p.2 < 1000) → (sayR rs).all digZ = true ∧ rs.length ≤ (sayR rs).length ∧ (sayR rs).length ≤ 4 * rs.length
  | [], _ => ⟨rfl, Nat.le_refl _, Nat.le_refl _⟩
  | p :: rs, h => by
    obtain ⟨h1, h2, h3⟩ := sayR_facts rs (fun q hq => h q (by simp [hq]))
    obtain ⟨g1, g2, g3⟩ := h p (by simp)
    have e : sayR (p :: rs) = numL p.2 ++ numL (p.1.toNat - 48) ++ sayR rs := by simp [sayR, sayP]
    have l1 := numL_len 2 p.2 (by omega)
    have l2 := numL_len 0 (p.1.toNat - 48) (by omega)
    have l3 := numL_ge p.2
    rw [e]
    refine ⟨by rw [List.all_append, List.all_append, numL_digZ, numL_digZ, h1]; rfl, ?_, ?_⟩ <;> simp only [List.length_append, List.length_cons] <;> omega
theorem sayL_facts {l : List UInt8} (h1 : 1 ≤ l.length) (h9 : l.length ≤ 400) (hd : l.all digZ = true) : (sayL l).all digZ = true ∧ 1 ≤ (sayL l).length ∧ (sayL l).length ≤ 4 * l.length := by
  have hne := runsL_ne h1
  have hln := runsL_len l
  obtain ⟨a, b, c⟩ := sayR_facts (runsL l) (fun p hp => by
    obtain ⟨k, hk, rfl⟩ := List.getElem_of_mem hp
    have g1 := runs_digZ hd hk
    have g2 := runs_cnt hk
    exact ⟨g1.1, g1.2, by omega⟩)
  have : 1 ≤ (runsL l).length := List.length_pos_iff.2 hne
  exact ⟨a, by unfold sayL; omega, by unfold sayL; omega⟩
def dgZ (d : Int) : UInt8 := UInt8.ofNat (48 + d.toNat)
end Go.Proofs.YtlcbdmmmafpchaaDoor
