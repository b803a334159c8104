/- Ways of words: something is made of a text again and again: the models' WayOfWord and WayOfInventory, the program's wayFrom and its two callers. -/
import Derived.Test.YtmlghonidheidaaT6
import Derived.Test.YtmlghonidheidaaS
namespace Go.Proofs.Ytmlghonidheidaa
open Go.RowKit Go.BigFrame
set_option linter.unusedSimpArgs false
set_option linter.unusedVariables false
set_option maxRecDepth 4000

/-- A text changed so many times: all of them, or none if one cannot be changed. -/
def wayG (f : List UInt8 → Option (List UInt8)) : Nat → List UInt8 → Option (List (List UInt8))
  | 0, l => some [l]
  | n + 1, l => match wayG f n l with
    | some ls => match f (ls.getLastD []) with
      | some m => some (ls ++ [m])
      | none => none
    | none => none
theorem wayG_len (f : List UInt8 → Option (List UInt8)) : ∀ (n : Nat) (l : List UInt8) (ls : List (List UInt8)), wayG f n l = some ls → ls.length = n + 1
  | 0, l, ls, h => by simp [wayG] at h; subst h; rfl
  | n + 1, l, ls, h => by
    unfold wayG at h
    cases h1 : wayG f n l with
    | none => rw [h1] at h; cases h
    | some ks =>
      rw [h1] at h
      dsimp only at h
      cases h2 : f (ks.getLastD []) with
      | none => rw [h2] at h; cases h
      | some m =>
        rw [h2] at h
        simp at h; subst h
        simp [wayG_len f n l ks h1]
theorem wayG_none (f : List UInt8 → Option (List UInt8)) (l : List UInt8) (n m : Nat) (h : n ≤ m) (h0 : wayG f n l = none) : wayG f m l = none := by
  induction m with
  | zero => obtain rfl : n = 0 := by omega
            exact h0
  | succ m ih =>
    by_cases e : n = m + 1
    · subst e; exact h0
    · unfold wayG; rw [ih (by omega)]
/-- Each text of a way of a word has at most 400 bytes. -/
theorem wayG_mem (f : List UInt8 → Option (List UInt8)) (hf : ∀ l m, f l = some m → m.length ≤ 400) (n : Nat) (l : List UInt8) (hl : l.length ≤ 400) : ∀ ls, wayG f n l = some ls → ∀ m ∈ ls, m.length ≤ 400 := by
  induction n with
  | zero => intro ls h m hm; simp [wayG] at h; subst h; simp at hm; subst hm; exact hl
  | succ n ih =>
    intro ls h
    unfold wayG at h
    cases h1 : wayG f n l with
    | none => rw [h1] at h; cases h
    | some ks =>
      rw [h1] at h
      dsimp only at h
      cases h2 : f (ks.getLastD []) with
      | none => rw [h2] at h; cases h
      | some m =>
        rw [h2] at h
        simp at h; subst h
        intro q hq
        rw [List.mem_append] at hq
        rcases hq with hq | hq
        · exact ih ks h1 q hq
        · simp at hq; subst hq; exact hf _ _ h2
/-- The way, or nothing where the text is no word or the number is not told. -/
def wayGO (f : List UInt8 → Option (List UInt8)) (M : Int) (l : List UInt8) (n : Int) : Option (List (List UInt8)) := if goodL l = true ∧ 0 ≤ n ∧ n ≤ M then wayG f n.toNat l else none
def strVs (ls : List (List UInt8)) : List Value := ls.map (fun l => .string (bs l))
/-- A slice of texts of the call's own and true, or nil and false. -/
def StrsOk (o : Option (List (List UInt8))) (w w' : World) (e : Ending) : Prop :=
  ∃ v, e = .returned (.tuple #[v, .bool o.isSome]) ∧ w'.ownsRow w.heap.size 9 1 v (o.getD []).length (strVs (o.getD [])) ∧ Below w.heap.size w w' ∧ (o = none → v = .slice none 0 0)
theorem info_str : (Try.prog.info? 9).map (fun i => (i.zero, i.size, i.bytes)) = some (some (.string ⟨#[]⟩), 1, 16) := by kernel_rfl

end Go.Proofs.Ytmlghonidheidaa
