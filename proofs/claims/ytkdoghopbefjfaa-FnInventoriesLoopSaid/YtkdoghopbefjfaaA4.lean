/- Words backwards and said: the model's functions. -/
import Derived.Test.YtkdoghopbefjfaaA3
import Derived.Deep.RegionWith
namespace Go.Proofs.Ytkdoghopbefjfaa
open Go.RowKit Go.BigFrame
set_option linter.unusedSimpArgs false
set_option linter.unusedVariables false
set_option maxRecDepth 4000

/-- Decimal digits. -/
def numL (n : Nat) : List UInt8 := if h : n < 10 then [UInt8.ofNat (48 + n)] else numL (n / 10) ++ [UInt8.ofNat (48 + n % 10)]
termination_by n
decreasing_by omega
theorem numL_one (n : Nat) (h : n < 10) : numL n = [UInt8.ofNat (48 + n)] := by rw [numL, dif_pos h]
theorem numL_more (n : Nat) (h : ¬ n < 10) : numL n = numL (n / 10) ++ [UInt8.ofNat (48 + n % 10)] := by rw [numL, dif_neg h]
theorem numL_len (k : Nat) : ∀ n, n < 10 ^ (k + 1) → (numL n).length ≤ k + 1 := by
  induction k with
  | zero => intro n h; rw [numL_one n (by simpa using h)]; simp
  | succ k ih =>
    intro n h
    by_cases h2 : n < 10
    · rw [numL_one n h2]; simp
    · rw [numL_more n h2]
      have := ih (n / 10) (by rw [Nat.pow_succ] at h; omega)
      simp; omega
theorem numL_len19 (n : Nat) (h : n ≤ 9223372036854775807) : (numL n).length ≤ 19 := numL_len 18 n (by omega)
theorem conv1 (W : World) (x : Int) : (convert 22 9 (.slice (some ⟨W.heap.size, 0, none⟩) 1 1)).run Try.prog (W.alloc (.cells #[.int .u8 x] 5)) = .ok (.string (bs [UInt8.ofNat x.toNat])) (W.alloc (.cells #[.int .u8 x] 5)) := by
  have h := run_convert_bytes_arg (P := Try.prog) (W.alloc (.cells #[.int .u8 x] 5)) 22 5 Try.underlying22 Try.underlying5 W.heap.size 0 1 1 [x] rfl (fun i hi => by
    obtain rfl : i = 0 := by omega
    rw [World.cell?_alloc_at _ _ _ _ rfl]; rfl) 9 Try.underlying9
  rw [h]; rfl

theorem conv1_at (W : World) (g : Nat) (x : Int) (h : W.cell? ⟨g, 0, none⟩ = some (.int .u8 x)) : (convert 22 9 (.slice (some ⟨g, 0, none⟩) 1 1)).run Try.prog W = .ok (.string (bs [UInt8.ofNat x.toNat])) W := by
  have h := run_convert_bytes_arg (P := Try.prog) W 22 5 Try.underlying22 Try.underlying5 g 0 1 1 [x] rfl (fun i hi => by
    obtain rfl : i = 0 := by omega
    exact h) 9 Try.underlying9
  rw [h]; rfl
theorem conv1_kept {W w1 : World} (hb : Below W.heap.size W w1) (g : Nat) (x : Int) (hg : g < W.heap.size) (h : W.cell? ⟨g, 0, none⟩ = some (.int .u8 x)) :
    (convert 22 9 (.slice (some ⟨g, 0, none⟩) 1 1)).run Try.prog w1 = .ok (.string (bs [UInt8.ofNat x.toNat])) w1 :=
  conv1_at w1 g x ((hb.cell (p := ⟨g, 0, none⟩) hg).trans h)

theorem l1Num_any (k : Nat) : ∀ (n : Int) (w : World), n.toNat ≤ k → 0 ≤ n → n ≤ 9223372036854775807 →
    Calls Try.prog 96 #[.int .i64 n] w fun e w' => e = .returned (.string (bs (numL n.toNat))) ∧ Below w.heap.size w w' := by
  have hcv := conv1
  induction k with
  | zero =>
    intro n w hk h0 h1
    obtain rfl : n = 0 := by omega
    go_enter Try.func96, Try.ntmps96
    go_wp2_with fail
    go_ret
    exact ⟨ret_str (by rw [numL_one _ (by simp)]; rfl), below_alloc _ _⟩
  | succ k ih =>
    intro n w hk h0 h1
    obtain ⟨m, rfl⟩ := Int.eq_ofNat_of_zero_le h0
    by_cases hm : m < 10
    · go_enter Try.func96, Try.ntmps96
      go_wp2_with fail
      go_ret
      exact ⟨ret_str (by rw [Int.toNat_natCast, numL_one _ hm]), below_alloc _ _⟩
    · have hl := numL_len19 ((m : Int) / 10).toNat (by omega)
      rw [← bs_size] at hl
      have hl2 : ∀ c, (bs [c]).size = 1 := fun c => bs_size _
      have hih := fun (W : World) => ih ((m : Int) / 10) W (by omega) (by omega) (by omega)
      have IH := Lib.hid hih
      clear ih hih
      go_enter Try.func96, Try.ntmps96
      go_wp2_with fail
      have e1 : IntKind.i64.wrap ((m : Int) / 10) = (m : Int) / 10 := IntWalk.i64_in _ (by omega)
      have e2 : (m : Int).tmod 10 = (m : Int) % 10 := Int.tmod_eq_emod_of_nonneg (by omega)
      have e3 : IntKind.i64.wrap (48 + (m : Int) % 10) = 48 + (m : Int) % 10 := IntWalk.i64_in _ (by omega)
      have e4 : IntKind.u8.wrap (48 + (m : Int) % 10) = 48 + (m : Int) % 10 := IntWalk.u8_in _ (by omega)
      have hca := fun W => conv1_at W w.heap.size (48 + (m : Int) % 10)
      go_region_with (go_at_call 96; refine (IH.out _).mono ?_; rintro e w1 ⟨rfl, hb⟩; have hc := conv1_kept hb w.heap.size (48 + (m : Int) % 10))
      all_goals
        go_wp2_with fail
        go_ret
        exact ⟨ret_str (by rw [Int.toNat_natCast, numL_more _ hm, bs_append]; simp), by first
          | exact below_trans (below_drew w) hb
          | exact below_trans (below_trans (below_alloc w _) (below_drew _)) hb
          | exact below_trans (below_trans (below_drew w) hb) (below_alloc _ _)⟩
end Go.Proofs.Ytkdoghopbefjfaa
