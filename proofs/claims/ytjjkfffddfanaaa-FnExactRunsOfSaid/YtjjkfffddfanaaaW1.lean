/- The walks of the laws IsSpeakable, RunsOf, SayWord (model part). -/
import Derived.Test.YtjjkfffddfanaaaI1
import Derived.Test.YtjjkfffddfanaaaE2
namespace Go.Proofs.Ytjjkfffddfanaaa
open Go.RowKit Go.BigFrame
set_option linter.unusedSimpArgs false
set_option linter.unusedVariables false
set_option maxRecDepth 4000

theorem law_IsSpeakable (s : ByteArray) (w : World) (hs : s.size ≤ maxLen) :
    Calls Try.prog 4 #[.string s] w fun e w' => e = .returned (.bool true) ∧ Below w.heap.size w w' := by
  by_cases hb : 1048576 < s.size
  · go_enter Try.func4, Try.ntmps4
    go_wp2_with fail
    go_ret
    exact ⟨rfl, Below.refl _ _⟩
  · obtain ⟨x, hx⟩ : ∃ x, x = speakL s.data.toList := ⟨_, rfl⟩
    obtain ⟨y, hy⟩ : ∃ y, y = goodL s.data.toList := ⟨_, rfl⟩
    have HX := Lib.hid hx; have HY := Lib.hid hy; clear hx hy
    go_enter Try.func4, Try.ntmps4
    go_wp2_with fail
    refine (specIsSpeakable_any s w hs).mono ?_
    rintro e w1 ⟨rfl, h1⟩
    rw [← HX.out, ← HY.out]
    have H1 := Lib.hid h1; clear h1
    go_wp2_with fail
    refine (implIsSpeakable_any s w1 hs).mono ?_
    rintro e w2 ⟨rfl, h2⟩
    rw [← HX.out, ← HY.out]
    have H2 := Lib.hid h2; clear h2
    have e1 : (x != x) = false := by simp
    have e2 : (y != y) = false := by simp
    go_wp2_with fail
    go_ret
    exact ⟨rfl, below_trans H1.out H2.out⟩

/-- The runs of a word, as numbers; none for another text. -/
def rowsN (l : List UInt8) : List (List Int) := if goodL l = true then (runsL l).map (fun p => [(p.1.toNat : Int) - 48, (p.2 : Int)]) else []
theorem rowsN_rows (l : List UInt8) : (rowsN l).map (fun x => x.map (Value.int .i64)) = if goodL l = true then rowsL l else [] := by
  unfold rowsN rowsL
  split
  · rw [List.map_map]; rfl
  · rfl
theorem totalSS_two (rs : List (UInt8 × Nat)) : totalSS (rs.map (fun p => [(p.1.toNat : Int) - 48, (p.2 : Int)])) = 2 * rs.length := by
  induction rs with
  | nil => rfl
  | cons p r ih => simp only [totalSS, List.map_cons, List.sum_cons, List.length_cons, List.length_nil] at *; omega
theorem rowsN_total (l : List UInt8) : totalSS (rowsN l) ≤ 800 := by
  unfold rowsN
  split
  · rename_i h
    rw [totalSS_two]
    have h1 := runsL_len l
    have h2 : l.length ≤ 400 := by unfold goodL at h; simp at h; omega
    omega
  · simp [totalSS]
theorem rowsOk_ints {l : List UInt8} {w w' : World} {e : Ending} (h : RowsOk l w w' e) :
    ∃ v vs, e = .returned (.tuple #[v, .bool (goodL l)]) ∧ IntsRR w' w.heap.size v vs (rowsN l) ∧ Below w.heap.size w w' := by
  obtain ⟨v, vs, h1, h2, h3⟩ := h
  refine ⟨v, vs, h1, ?_, h3⟩
  unfold IntsRR
  rw [rowsN_rows]
  exact h2

end Go.Proofs.Ytjjkfffddfanaaa
