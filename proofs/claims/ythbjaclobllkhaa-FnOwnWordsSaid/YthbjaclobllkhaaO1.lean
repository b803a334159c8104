/- The own word of two digits, as a list of numbers: its runs one after another (pure). -/
import Derived.Test.YthbjaclobllkhaaB
namespace Go.Proofs.Ythbjaclobllkhaa
set_option linter.unusedSimpArgs false
set_option linter.unusedVariables false

def gD (a b r : Nat) : Nat := if r % 2 = 1 then b else a
def gG (a b : Nat) : Nat → List Nat
  | 0 => []
  | r + 1 => gG a b r ++ List.replicate ((gG a b r)[r]?.getD (gD a b r)) (gD a b r)
def gOwn (a b n : Nat) : List Nat := (gG a b n).take n

theorem gD_mem (a b r : Nat) : gD a b r = a ∨ gD a b r = b := by unfold gD; split <;> simp
theorem gG_mem (a b : Nat) : ∀ (r : Nat), ∀ x ∈ gG a b r, x = a ∨ x = b
  | 0, x, h => by simp [gG] at h
  | r + 1, x, h => by
    rw [gG, List.mem_append, List.mem_replicate] at h
    rcases h with h | h
    · exact gG_mem a b r x h
    · rw [h.2]; exact gD_mem a b r
def gLen (a b r : Nat) : Nat := (gG a b r)[r]?.getD (gD a b r)
theorem gG_succ (a b r : Nat) : gG a b (r + 1) = gG a b r ++ List.replicate (gLen a b r) (gD a b r) := rfl
theorem gLen_pos (a b r : Nat) (ha : 1 ≤ a) (hb : 1 ≤ b) : 1 ≤ gLen a b r := by
  unfold gLen
  cases h : (gG a b r)[r]? with
  | none => rw [Option.getD_none]; rcases gD_mem a b r with h | h <;> omega
  | some x => rw [Option.getD_some]; rcases gG_mem a b r x (List.mem_of_getElem? h) with h | h <;> omega
theorem gG_len (a b : Nat) (ha : 1 ≤ a) (hb : 1 ≤ b) : ∀ r, r ≤ (gG a b r).length
  | 0 => Nat.zero_le _
  | r + 1 => by
    have h := gG_len a b ha hb r
    have h2 := gLen_pos a b r ha hb
    rw [gG_succ, List.length_append, List.length_replicate]
    omega
theorem gG_pre (a b : Nat) (r : Nat) : ∀ k, gG a b r <+: gG a b (r + k)
  | 0 => List.prefix_refl _
  | k + 1 => (gG_pre a b r k).trans (by rw [← Nat.add_assoc, gG_succ]; exact List.prefix_append _ _)
theorem take_of_pre {xs ys : List Nat} {n : Nat} (h : xs <+: ys) (hn : n ≤ xs.length) : ys.take n = xs.take n := by
  obtain ⟨t, rfl⟩ := h
  exact List.take_append_of_le_length hn
theorem gG_take (a b r n : Nat) (ha : 1 ≤ a) (hb : 1 ≤ b) (h : n ≤ (gG a b r).length) : (gG a b r).take n = gOwn a b n := by
  have h2 := gG_len a b ha hb n
  unfold gOwn
  rcases Nat.le_total r n with hr | hr
  · obtain ⟨k, rfl⟩ := Nat.le.dest hr
    exact (take_of_pre (gG_pre a b r k) h).symm
  · obtain ⟨k, rfl⟩ := Nat.le.dest hr
    exact take_of_pre (gG_pre a b n k) h2
theorem gOwn_len (a b n : Nat) (ha : 1 ≤ a) (hb : 1 ≤ b) : (gOwn a b n).length = n := by
  unfold gOwn
  rw [List.length_take, Nat.min_eq_left (gG_len a b ha hb n)]
theorem gOwn_mem (a b n : Nat) : ∀ x ∈ gOwn a b n, x = a ∨ x = b := fun x h => gG_mem a b n x (List.mem_of_mem_take h)

/-- A round of the program's: the digit at its index waits. -/
theorem gG_round (a b r n : Nat) (G : List Nat) (x : Nat) (hG : G = gG a b r) (hx : G[r]? = some x) (hn : G.length < n) :
    (gG a b (r + 1)).take n = G ++ List.replicate (min x (n - G.length)) (gD a b r) := by
  rw [gG_succ, ← hG, List.take_append, List.take_of_length_le (by omega), List.take_replicate]
  unfold gLen
  rw [← hG, hx, Option.getD_some, Nat.min_comm]
/-- A round of the program's: no digit waits. -/
theorem gG_round0 (a b r n : Nat) (G : List Nat) (hG : G = gG a b r) (hr : G.length = r) (hn : G.length < n) (ha : 1 ≤ a) (hb : 1 ≤ b) :
    (gG a b (r + 1)).take n = G ++ gD a b r :: List.replicate (min (gD a b r - 1) (n - (G.length + 1))) (gD a b r) := by
  rw [gG_succ, ← hG, List.take_append, List.take_of_length_le (by omega), List.take_replicate]
  have h0 : G[r]? = none := by rw [List.getElem?_eq_none_iff]; omega
  unfold gLen
  rw [← hG, h0, Option.getD_none]
  obtain ⟨m, hm⟩ : ∃ m, gD a b r = m + 1 := ⟨gD a b r - 1, by rcases gD_mem a b r with h | h <;> omega⟩
  rw [hm]
  have e : min (n - G.length) (m + 1) = min (m + 1 - 1) (n - (G.length + 1)) + 1 := by omega
  rw [e, List.replicate_succ]
theorem gD_swap (a b r : Nat) : gD b a r = gD a b (r + 1) := by
  unfold gD
  rcases Nat.mod_two_eq_zero_or_one r with h | h
  · rw [if_neg (by omega), if_pos (by omega)]
  · rw [if_pos h, if_neg (by omega)]
end Go.Proofs.Ythbjaclobllkhaa
