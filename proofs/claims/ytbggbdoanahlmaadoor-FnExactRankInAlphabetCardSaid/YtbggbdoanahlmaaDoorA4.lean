/- Words backwards and said: the model's functions. -/
import Derived.Test.YtbggbdoanahlmaaDoorA3
import Derived.Deep.RegionWith
namespace Go.Proofs.YtbggbdoanahlmaaDoor
open Go.RowKit Go.BigFrame
set_option linter.unusedSimpArgs false
set_option linter.unusedVariables false
set_option maxRecDepth 4000

/-- Decimal digits. -/
def numL (n : Nat) : List UInt8 := if h : n < 10 then [UInt8.ofNat (48 + n)] else numL (n / 10) ++ [UInt8.ofNat (48 + n % 10)]
termination_by n
decreasing_by omega
theorem numL_one (n : Nat) (h : n < 10) : numL n = [UInt8.ofNat (48 + n)] := by rw [numL, dif_pos h]
theorem numL_more (n : Nat) (h : ¬ n < 10) : numL n = numL (n / 10) ++ [UInt8.ofNat (48 + n % 10)] := by rw [numL, dif_neg h]
theorem numL_len (k : Nat) : ∀ n, n < 10 ^ (k + 1) → (numL n).length ≤ k + 1 := by
  induction k with
  | zero => intro n h; rw [numL_one n (by simpa using h)]; simp
  | succ k ih =>
    intro n h
    by_cases h2 : n < 10
    · rw [numL_one n h2]; simp
    · rw [numL_more n h2]
      have := ih (n / 10) (by rw [Nat.pow_succ] at h; omega)
      simp; omega
theorem numL_len19 (n : Nat) (h : n ≤ 9223372036854775807) : (numL n).length ≤ 19 := numL_len 18 n (by omega)
theorem conv1 (W : World) (x : Int) : (convert 51 9 (.slice (some ⟨W.heap.size, 0, none⟩) 1 1)).run Tryd.prog (W.alloc (.cells #[.int .u8 x] 5)) = .ok (.string (bs [UInt8.ofNat x.toNat])) (W.alloc (.cells #[.int .u8 x] 5)) := by
  have h := run_convert_bytes_arg (P := Tryd.prog) (W.alloc (.cells #[.int .u8 x] 5)) 51 5 Tryd.underlying51 Tryd.underlying5 W.heap.size 0 1 1 [x] rfl (fun i hi => by
    obtain rfl : i = 0 := by omega
    rw [World.cell?_alloc_at _ _ _ _ rfl]; rfl) 9 Tryd.underlying9
  rw [h]; rfl

theorem conv1_at (W : World) (g : Nat) (x : Int) (h : W.cell? ⟨g, 0, none⟩ = some (.int .u8 x)) : (convert 51 9 (.slice (some ⟨g, 0, none⟩) 1 1)).run Tryd.prog W = .ok (.string (bs [UInt8.ofNat x.toNat])) W := by
  have h := run_convert_bytes_arg (P := Tryd.prog) W 51 5 Tryd.underlying51 Tryd.underlying5 g 0 1 1 [x] rfl (fun i hi => by
    obtain rfl : i = 0 := by omega
    exact h) 9 Tryd.underlying9
  rw [h]; rfl
theorem conv1_kept {W w1 : World} (hb : Below W.heap.size W w1) (g : Nat) (x : Int) (hg : g < W.heap.size) (h : W.cell? ⟨g, 0, none⟩ = some (.int .u8 x)) :
    (convert 51 9 (.slice (some ⟨g, 0, none⟩) 1 1)).run Tryd.prog w1 = .ok (.string (bs [UInt8.ofNat x.toNat])) w1 :=
  conv1_at w1 g x ((hb.cell (p := ⟨g, 0, none⟩) hg).trans h)

end Go.Proofs.YtbggbdoanahlmaaDoor
