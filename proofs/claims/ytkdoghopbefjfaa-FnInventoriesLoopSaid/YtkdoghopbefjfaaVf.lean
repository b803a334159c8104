/- Helpers of the law FnInventoriesLoop (drawn): as in XVd. -/
import Derived.Test.YtkdoghopbefjfaaMc
namespace Go.Proofs.Ytkdoghopbefjfaa
open Go.RowKit Go.BigFrame
set_option linter.unusedSimpArgs false
set_option linter.unusedVariables false
set_option maxRecDepth 4000

theorem bs_self (s : ByteArray) : bs s.data.toList = s := (bs_eq rfl).symm
theorem bs_at (l : List UInt8) (i : Nat) (h : i < (bs l).size) (h2 : i < l.length) : (bs l)[i] = l[i] := by
  show (l.toArray)[i]'_ = _
  simp
theorem byte_at (s : ByteArray) (i : Nat) (h : i < s.size) : ∃ h2 : i < s.data.toList.length, s[i] = s.data.toList[i] := by
  refine ⟨by rw [size_list]; exact h, ?_⟩
  show s.data[i]'_ = _
  simp
theorem intsV_at {w : World} {B N : Nat} {v : Value} {ns : List Nat} (h : IntsA w B v (ti ns)) (hN : ns.length = N) (h1 : 1 ≤ N) :
    ∃ g cap, v = .slice (some ⟨g, 0, none⟩) N cap ∧ N ≤ cap ∧ cap ≤ 9223372036854775807 ∧ g < w.heap.size ∧ ∀ i x, ns[i]? = some x → w.cell? ⟨g, i, none⟩ = some (.int .i64 ((x : Nat) : Int)) := by
  obtain ⟨g, cap, e1, e2, e3, _, e4, e5⟩ := intsA_at h (by rw [ti_len]; omega)
  rw [ti_len, hN] at e1 e2
  refine ⟨g, cap, e1, e2, e3, e4, fun i x hx => ?_⟩
  obtain ⟨hi, e⟩ := List.getElem?_eq_some_iff.1 hx
  rw [e5 i (by rw [ti_len]; exact hi)]
  simp [ti, e]
theorem own_list {n : Int} {AL : List (List UInt8)} (h : AL = (ownO n).getD []) :
    (∀ m ∈ AL, goodL m = true ∧ isOwnL m = true ∧ m.length ≤ 18) ∧ (∀ i (hi : i < AL.length), 0 < i → AL[i - 1]'(Nat.lt_of_le_of_lt (Nat.sub_le _ _) hi) < AL[i]) ∧
      ((ownO n).isSome = true → ∃ N : Nat, n = (N : Int) ∧ N ≤ 6 ∧ ∀ s, isOwnL s = true → (s ∈ AL ↔ ∀ ch ∈ s, ch.toNat ≤ 48 + N)) := by
  cases ho : ownO n with
  | none =>
    rw [ho] at h
    simp only [Option.getD_none] at h
    subst h
    exact ⟨fun m hm => by simp at hm, fun i hi => by simp at hi, fun h => by simp at h⟩
  | some L =>
    rw [ho] at h
    simp only [Option.getD_some] at h
    subst h
    have hn : 1 ≤ n ∧ n ≤ 6 := by
      unfold ownO at ho
      split at ho
      · assumption
      · cases ho
    obtain ⟨N, hN⟩ : ∃ N : Nat, n = (N : Int) := ⟨n.toNat, by omega⟩
    subst hN
    obtain ⟨q1, q2, q3⟩ := own_facts (n := N) (by omega) (by omega) ho
    exact ⟨q1, q2, fun _ => ⟨N, rfl, by omega, q3⟩⟩
theorem heard_list {l : List UInt8} {HL : List (List UInt8)} (h : HL = (hearLO l).getD []) :
    (∀ m ∈ HL, invO m = some l ∧ m.length ≤ 7) ∧ (∀ i (hi : i < HL.length), 0 < i → HL[i - 1]'(Nat.lt_of_le_of_lt (Nat.sub_le _ _) hi) < HL[i]) := by
  cases ho : hearLO l with
  | none =>
    rw [ho] at h
    simp only [Option.getD_none] at h
    subst h
    exact ⟨fun m hm => by simp at hm, fun i hi => by simp at hi⟩
  | some L =>
    rw [ho] at h
    simp only [Option.getD_some] at h
    subst h
    exact heard_facts ho
def hiC (n : Int) (ch : UInt8) : Bool := decide ((ch.toNat : Int) - 48 > n)
theorem hi_succ (n : Int) (l : List UInt8) (k : Nat) (h : k < l.length) : (l.take (k + 1)).any (hiC n) = ((l.take k).any (hiC n) || hiC n l[k]) := by
  rw [List.take_succ_eq_append_getElem h, List.any_append]; simp
theorem eq_succ (s : List UInt8) (L : List (List UInt8)) (k : Nat) (h : k < L.length) : (L.take (k + 1)).any (fun t => decide (t = s)) = ((L.take k).any (fun t => decide (t = s)) || decide (L[k] = s)) := by
  rw [List.take_succ_eq_append_getElem h, List.any_append]; simp
end Go.Proofs.Ytkdoghopbefjfaa
