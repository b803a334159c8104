/- What is said of a word: the model's woSay, woSaid. -/
import Derived.Test.YtlcbdmmmafpchaaDoorMA
namespace Go.Proofs.YtlcbdmmmafpchaaDoor
open Go.RowKit Go.BigFrame
set_option linter.unusedSimpArgs false
set_option linter.unusedVariables false
set_option maxRecDepth 4000

def sayP (p : UInt8 × Nat) : List UInt8 := numL p.2 ++ numL (p.1.toNat - 48)
def sayR (rs : List (UInt8 × Nat)) : List UInt8 := rs.flatMap sayP
def sayL (l : List UInt8) : List UInt8 := sayR (runsL l)
theorem sayR_snoc (rs : List (UInt8 × Nat)) (k : Nat) (h : k < rs.length) : sayR (rs.take (k + 1)) = sayR (rs.take k) ++ (numL rs[k].2 ++ numL (rs[k].1.toNat - 48)) := by
  rw [sayR, List.take_succ_eq_append_getElem h, List.flatMap_append]; simp [sayR, sayP]
/-- Every run of a word of digits is of a digit. -/
theorem stepRun_mem (acc : List (UInt8 × Nat)) (c : UInt8) (P : UInt8 → Prop) (h : ∀ p ∈ acc, P p.1) (hc : P c) : ∀ p ∈ stepRun acc c, P p.1 := by
  unfold stepRun
  split
  · split
    · rename_i d n h1 h2
      intro p hp
      rw [List.mem_append] at hp
      rcases hp with hp | hp
      · exact h p (List.dropLast_subset _ hp)
      · simp at hp; subst hp; subst h2; exact hc
    · intro p hp
      rw [List.mem_append] at hp
      rcases hp with hp | hp
      · exact h p hp
      · simp at hp; subst hp; exact hc
  · intro p hp; simp at hp; subst hp; exact hc
theorem runsL_mem (P : UInt8 → Prop) : ∀ (l : List UInt8), (∀ c ∈ l, P c) → ∀ p ∈ runsL l, P p.1 := by
  intro l
  induction h : l.length generalizing l with
  | zero => intro _ p hp; have : l = [] := List.eq_nil_of_length_eq_zero h; subst this; simp [runsL] at hp
  | succ n ih =>
    intro hl
    have hne : l ≠ [] := by intro e; simp [e] at h
    have hd := List.dropLast_concat_getLast hne
    rw [← hd, runsL_snoc]
    exact stepRun_mem _ _ P (ih l.dropLast (by simp [h]) (fun c hc => hl c (List.dropLast_subset _ hc))) (hl _ (List.getLast_mem hne))
theorem runs_dig {l : List UInt8} (h : l.all digB = true) {k : Nat} (hk : k < (runsL l).length) : 49 ≤ (runsL l)[k].1.toNat ∧ (runsL l)[k].1.toNat ≤ 57 := by
  have := runsL_mem (fun c => 49 ≤ c.toNat ∧ c.toNat ≤ 57) l (fun c hc => by simpa [digB] using List.all_eq_true.1 h c hc) _ (List.getElem_mem hk)
  exact this
theorem le_sum_of_mem (rs : List (UInt8 × Nat)) (p : UInt8 × Nat) (h : p ∈ rs) : p.2 ≤ (rs.map (·.2)).sum := by
  induction rs with
  | nil => simp at h
  | cons a r ih =>
    simp only [List.map_cons, List.sum_cons]
    rcases List.mem_cons.1 h with rfl | h
    · omega
    · have := ih h; omega
theorem runs_cnt {l : List UInt8} {k : Nat} (hk : k < (runsL l).length) : (runsL l)[k].2 ≤ l.length := by
  rw [← runsL_sum l]
  exact le_sum_of_mem _ _ (List.getElem_mem hk)

/-- What is said of a text, if it is a speakable word and this is a word. -/
def saidO (l : List UInt8) : Option (List UInt8) := if speakL l = true ∧ goodL (sayL l) = true then some (sayL l) else none
/-- A text and a bool, or the empty text and false. -/
def strOk : Option (List UInt8) → Value
  | some l => .tuple #[.string (bs l), .bool true]
  | none => .tuple #[.string ⟨#[]⟩, .bool false]
theorem sayR_len (rs : List (UInt8 × Nat)) (h : ∀ p ∈ rs, p.2 ≤ 400) : (sayR rs).length ≤ 40 * rs.length := by
  induction rs with
  | nil => simp [sayR]
  | cons p r ih =>
    have h1 := ih (fun q hq => h q (List.mem_cons_of_mem _ hq))
    have h2 := numL_len19 p.2 (by have := h p List.mem_cons_self; omega)
    have h3 := numL_len19 (p.1.toNat - 48) (by have := p.1.toNat_lt; omega)
    simp only [sayR, List.flatMap_cons, List.length_append, List.length_cons, sayP] at *
    omega

end Go.Proofs.YtlcbdmmmafpchaaDoor
