/- Chapter 7: an argument that is a language; the laws' helpers on it. -/
import Derived.Test.YtampjipbemmicaaDoor7A
import Derived.Test.YtampjipbemmicaaDoorE5
import Derived.SliceStrings
import Derived.Lib.SmallJoins
namespace Go.Proofs.YtampjipbemmicaaDoor
open Go.RowKit Go.BigFrame
set_option linter.unusedSimpArgs false
set_option linter.unusedVariables false
set_option maxRecDepth 4000

theorem info_strN : (Tryd.prog.info? 9).map (fun i => (i.zero, i.size, i.bytes)) = some (some (.string ⟨#[]⟩), 1, 16) := by kernel_rfl
/-- A row of texts that may be read. -/
def ArgS (w : World) (u : Value) (ls : List (List UInt8)) : Prop :=
  ∃ A C, u = .slice A ls.length C ∧ ls.length ≤ C ∧ C ≤ 9223372036854775807 ∧
    ∀ c (hc : c < ls.length), ∃ b o, A = some ⟨b, o, none⟩ ∧ b < w.heap.size ∧ w.cell? ⟨b, o + c, none⟩ = some (.string (bs ls[c])) ∧ ls[c].length ≤ 9223372036854775807
theorem argS_below {w w' : World} {u : Value} {ns : List (List UInt8)} (h : ArgS w u ns) (hb : Below w.heap.size w w') : ArgS w' u ns := by
  obtain ⟨A, C, h1, h2, h3, h4⟩ := h
  refine ⟨A, C, h1, h2, h3, fun c hc => ?_⟩
  obtain ⟨b, o, e1, e2, e3, e4⟩ := h4 c hc
  exact ⟨b, o, e1, Nat.lt_of_lt_of_le e2 hb.size, (hb.cell (p := ⟨b, o + c, none⟩) e2).trans e3, e4⟩
theorem argS_of {w : World} {B : Nat} {v : Value} {ls : List (List UInt8)} (h : Strs w B v ls) (hl : ∀ l ∈ ls, l.length ≤ 9223372036854775807) : ArgS w v ls := by
  rcases own_open h with ⟨rfl, h2, h3⟩ | ⟨g, cap, rfl, hBg, hg, hn, hm, hcp, hce, hfr⟩
  · obtain rfl : ls = [] := by cases ls with | nil => rfl | cons a t => simp at h2
    exact ⟨none, 0, rfl, by simp, by omega, fun c hc => by simp at hc⟩
  · have hown := h
    refine ⟨some ⟨g, 0, none⟩, cap, rfl, ?_, ?_, fun c hc => ⟨g, 0, rfl, hg, ?_, hl _ (List.getElem_mem hc)⟩⟩
    · have := hown.1; simp at this; omega
    · unfold maxLen at *; omega
    · rw [Nat.zero_add, hce c (by simpa using hc)]; simp
/-- The letters of a row of texts, all together. -/
def szT (ls : List (List UInt8)) : Nat := (ls.map List.length).sum
theorem szT_take (ls : List (List UInt8)) (k : Nat) (h : k < ls.length) : szT (ls.take (k + 1)) = szT (ls.take k) + ls[k].length := by
  unfold szT
  rw [List.take_succ_eq_append_getElem h, List.map_append, List.sum_append]; simp
theorem szT_le (ls : List (List UInt8)) (k : Nat) : szT (ls.take k) ≤ szT ls := by
  have : szT ls = szT (ls.take k) + szT (ls.drop k) := by
    unfold szT
    rw [← List.sum_append, ← List.map_append, List.take_append_drop]
  omega
theorem szT_mem (ls : List (List UInt8)) : ∀ l ∈ ls, l.length ≤ szT ls := by
  induction ls with
  | nil => intro l hl; cases hl
  | cons a t ih =>
    intro l hl
    have e : szT (a :: t) = a.length + szT t := by simp [szT]
    rcases List.mem_cons.1 hl with rfl | h
    · omega
    · have := ih l h; omega

set_option maxHeartbeats 1000000 in
theorem szStringS_any (w : World) (u : Value) (ls : List (List UInt8)) (L : Nat) (h : ArgS w u ls) (hL : L ≤ 1048576) :
    Calls Tryd.prog 48 #[u, .int .i64 (L : Int)] w fun e w' => e = .returned (.int .i64 (if ls.length + szT ls ≤ L then ((L - ls.length - szT ls : Nat) : Int) else -1)) ∧ w = w' := by
  obtain ⟨A, C, rfl, hC, hCm, hcell⟩ := h
  obtain ⟨N, hN⟩ : ∃ N, N = ls.length := ⟨_, rfl⟩
  have HC := Lib.hid hcell
  have HN := Lib.hid hN
  rw [← hN] at hC ⊢
  obtain ⟨R, hR⟩ : ∃ R : Int, R = if N + szT ls ≤ L then ((L - N - szT ls : Nat) : Int) else -1 := ⟨_, rfl⟩
  rw [← hR]
  have HR := Lib.hid hR
  clear hcell hN hR
  by_cases hn : N ≤ L
  · go_enter Tryd.func48, Tryd.ntmps48
    go_wp2_with fail
    go_loop [1, 5] (fun l i => ∃ (k m : Nat), i = .int .i64 (k : Int) ∧ l = .int .i64 (m : Int) ∧ k ≤ N ∧ m ≤ L ∧ Hid (m + N + szT (ls.take k) = L)) (fun _ i => N - (intOf i).toNat)
    case atStart => exact ⟨0, L - N, rfl, by go_num, Nat.zero_le _, by omega, (by show L - N + N + szT (ls.take 0) = L; simp [szT]; omega)⟩
    case round =>
      obtain ⟨k, m, rfl, rfl, hk, hm9, HX⟩ := hrel
      by_cases hlt : k < N
      · have hk' : k < ls.length := by rw [← HN.out]; exact hlt
        obtain ⟨b, o, rfl, hb, hc, hl⟩ := HC.out k hk'
        have hst := szT_take ls k hk'
        have hle := szT_le ls (k + 1)
        obtain ⟨x, hx⟩ : ∃ x, x = ls[k] := ⟨_, rfl⟩
        rw [← hx] at hc hl hst
        have hbs : (bs x).size = x.length := bs_size _
        have hX := HX.out
        by_cases hm : x.length ≤ m
        · have hnew : Hid (m - x.length + N + szT (ls.take (k + 1)) = L) := Lib.hid (by rw [hst]; omega)
          clear hx hst hle hX
          go_wp2_with fail
          go_round
          case rel => exact ⟨k + 1, m - x.length, by go_num, by go_num, by omega, by omega, hnew⟩
          case measure => simp [intOf] <;> omega
        · have hbig : ¬ (N + szT ls ≤ L) := by omega
          clear hx hst hle hX
          go_wp2_with fail
          go_ret
          exact ⟨ret_int (by rw [HR.out, if_neg hbig]), rfl⟩
      · obtain rfl : k = N := by omega
        have hX := HX.out
        rw [List.take_of_length_le (by rw [← HN.out]; exact Nat.le_refl _)] at hX
        have e1 : k + szT ls ≤ L := by omega
        have e2 : L - k - szT ls = m := by omega
        clear hX
        go_wp2_with fail
        go_ret
        exact ⟨ret_int (by rw [HR.out, if_pos e1, e2]), rfl⟩
  · have hbig : ¬ (N + szT ls ≤ L) := by omega
    go_enter Tryd.func48, Tryd.ntmps48
    go_wp2_with fail
    go_ret
    exact ⟨ret_int (by rw [HR.out, if_neg hbig]), rfl⟩
end Go.Proofs.YtampjipbemmicaaDoor
