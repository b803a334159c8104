/- Marks: a row of numbers is overwritten with counted marks, and they are found again. -/
import Derived.Test.YtjnegoninojglaaDoorE1
namespace Go.Proofs.YtjnegoninojglaaDoor
open Go.RowKit Go.BigFrame
set_option linter.unusedSimpArgs false
set_option linter.unusedVariables false
set_option maxRecDepth 4000

def markI (k n : Nat) : List Int := (List.range n).map (fun i => ((k + i : Nat) : Int))
theorem markI_len (k n : Nat) : (markI k n).length = n := by simp [markI]
theorem markI_succ (k n : Nat) : markI k (n + 1) = markI k n ++ [((k + n : Nat) : Int)] := by simp [markI, List.range_succ]
theorem markI_get (k n i : Nat) (h : i < n) : (markI k n)[i]'(by rw [markI_len]; exact h) = ((k + i : Nat) : Int) := by simp [markI]
def markSS : Nat → List (List Int) → List (List Int)
  | _, [] => []
  | k, xs :: r => markI k xs.length :: markSS (k + xs.length) r
def totalSS (nss : List (List Int)) : Nat := (nss.map List.length).sum
theorem markSS_len : ∀ (k : Nat) (nss : List (List Int)), (markSS k nss).length = nss.length
  | _, [] => rfl
  | k, xs :: r => by simp [markSS, markSS_len (k + xs.length) r]
theorem totalSS_take (nss : List (List Int)) (i : Nat) (h : i < nss.length) : totalSS (nss.take (i + 1)) = totalSS (nss.take i) + nss[i].length := by
  rw [totalSS, List.take_succ_eq_append_getElem h, List.map_append, List.sum_append]; simp [totalSS]
theorem markSS_get : ∀ (k : Nat) (nss : List (List Int)) (i : Nat) (h : i < nss.length), (markSS k nss)[i]? = some (markI (k + totalSS (nss.take i)) nss[i].length)
  | k, [], i, h => by simp at h
  | k, xs :: r, 0, h => by simp [markSS, totalSS]
  | k, xs :: r, i + 1, h => by
    simp only [markSS, List.getElem?_cons_succ, List.getElem_cons_succ, List.take_succ_cons]
    rw [markSS_get (k + xs.length) r i (by simpa using h)]
    simp [totalSS, Nat.add_assoc]
theorem totalSS_le (nss : List (List Int)) (i : Nat) : totalSS (nss.take i) ≤ totalSS nss := by
  have : totalSS nss = totalSS (nss.take i) + totalSS (nss.drop i) := by
    conv => lhs; rw [← List.take_append_drop i nss]
    simp only [totalSS, List.map_append, List.sum_append]
  omega

set_option maxHeartbeats 1000000 in
theorem markIntS_any (w : World) (B k0 : Nat) (v : Value) (xs : List Int) (ha : Ints w B v xs) (hk0 : k0 + xs.length ≤ 1000000) :
    Calls Tryd.prog 39 #[v, .int .i64 k0] w fun e w' => e = .returned (.int .i64 ((k0 + xs.length : Nat) : Int)) ∧ Ints w' B v (markI k0 xs.length) ∧ w.grownBy w' v.ownBlock := by
  rcases ints_open ha with ⟨rfl, rfl⟩ | ⟨g, cap, rfl, _, hg, hn, hcp, hca, hfr⟩
  · clear ha
    go_enter Tryd.func39, Tryd.ntmps39
    go_wp2_with fail
    refine wp_loop_rounds 1 ?_
    rw [rounds_succ]
    go_wp2
    go_ret
    exact ⟨rfl, World.ownsRow_nil _ _ _ _, World.grownBy.refl _ _⟩
  · have hfz : ∀ k, w.frozen? ⟨g, k, none⟩ = false := hfr
    have HA := Lib.hid ha; have HF := Lib.hid hfz; have HC := Lib.hid hca
    obtain ⟨N, hN⟩ : ∃ N, N = xs.length := ⟨_, rfl⟩
    have HN := Lib.hid hN
    rw [← hN] at hn hk0 ⊢
    clear ha hca hfr hfz hN
    go_enter Tryd.func39, Tryd.ntmps39
    go_wp2_with fail
    go_loopw [1, 5] (fun q i wr => ∃ (k : Nat), k ≤ N ∧ i = .int .i64 k ∧ q = .int .i64 ((k0 + k : Nat) : Int) ∧ Hid (wr.ownsRow B 3 1 (.slice (some ⟨g, 0, none⟩) N cap) N ((markI k0 k ++ xs.drop k).map (.int .i64)) ∧ w.grownBy wr (some g))) (fun _ i _ => N - (intOf i).toNat)
    case atStart => exact ⟨0, Nat.zero_le _, rfl, rfl, by
      have := HA.out
      unfold Ints at this
      rw [← HN.out] at this
      exact ⟨by simpa [markI] using this, World.grownBy.refl _ _⟩⟩
    case round =>
      obtain ⟨k, hk, rfl, rfl, HW⟩ := hrel
      by_cases hlt : k < N
      · have hlen : ((markI k0 k ++ xs.drop k).map (Value.int .i64)).length = N := by have := own_len HW.out.1; exact this
        have h1 : ∃ x, wr.cell? ⟨g, k, none⟩ = some x := by
          rcases own_open HW.out.1 with ⟨e, _⟩ | ⟨g', cap', e, _, _, _, _, hl, hc, _⟩
          · cases e
          · cases e
            exact ⟨_, hc k (by rw [hl]; exact hlt)⟩
        obtain ⟨x, h1⟩ := h1
        have h2 : wr.frozen? ⟨g, k, none⟩ = false := HW.out.1.frozenAt k
        clear hlen
        go_wp2_with fail
        go_roundw
        case rel =>
          refine ⟨k + 1, by omega, by go_num, by go_num, ?_⟩
          have hs := HW.out.1.stored k (.int .i64 ((k0 + k : Nat) : Int))
          refine ⟨?_, HW.out.2.trans hs.2⟩
          have e : ((markI k0 k ++ xs.drop k).map (Value.int .i64)).set k (.int .i64 ((k0 + k : Nat) : Int)) = (markI k0 (k + 1) ++ xs.drop (k + 1)).map (.int .i64) := by
            have hd : xs.drop k = xs[k]'(by rw [← HN.out]; exact hlt) :: xs.drop (k + 1) := List.drop_eq_getElem_cons _
            rw [markI_succ, hd, List.map_append, List.map_cons, List.set_append_right _ _ (by simp [markI_len])]
            simp only [List.length_map, markI_len, Nat.sub_self, List.set_cons_zero, List.map_append, List.map_cons, List.map_nil, List.append_assoc, List.cons_append, List.nil_append]
          rw [← e]
          exact hs.1
        case measure => simp [intOf] <;> omega
      · obtain rfl : k = N := by omega
        go_wp2_with fail
        go_ret
        refine ⟨rfl, ?_, HW.out.2⟩
        have := HW.out.1
        rw [List.drop_of_length_le (by rw [← HN.out]; exact Nat.le_refl _), List.append_nil] at this
        unfold Ints
        rw [markI_len]
        exact this

set_option maxHeartbeats 1000000 in
theorem heldIntS_any (w : World) (B k0 n : Nat) (v : Value) (ha : Ints w B v (markI k0 n)) (hk0 : k0 + n ≤ 1000000) :
    Calls Tryd.prog 40 #[v, .int .i64 k0] w fun e w' => e = .returned (.int .i64 ((k0 + n : Nat) : Int)) ∧ Below w.heap.size w w' := by
  rcases ints_open ha with ⟨rfl, h0⟩ | ⟨g, cap, hv, _, hg, hn, hcp, hca, hfr⟩
  · obtain rfl : n = 0 := by have := markI_len k0 n; rw [h0] at this; simpa using this.symm
    clear ha
    go_enter Tryd.func40, Tryd.ntmps40
    go_wp2_with fail
    refine wp_loop_rounds 1 ?_
    rw [rounds_succ]
    go_wp2
    go_ret
    exact ⟨rfl, Below.refl _ _⟩
  · rw [markI_len] at hv hn
    subst hv
    have hat : ∀ k, k < n → w.cell? ⟨g, k, none⟩ = some (.int .i64 ((k0 : Int) + (k : Int))) := by
      intro k hk
      have := hca k (by rw [markI_len]; exact hk)
      rw [markI_get k0 n k hk] at this
      rw [this]; congr 2
    have HC := Lib.hid hat
    clear ha hca hfr hat
    go_enter Tryd.func40, Tryd.ntmps40
    go_wp2_with fail
    go_loopw [1, 5] (fun q i wr => ∃ (k : Nat), k ≤ n ∧ i = .int .i64 k ∧ q = .int .i64 ((k0 + k : Nat) : Int) ∧ Hid (Below w.heap.size w wr)) (fun _ i _ => n - (intOf i).toNat)
    case atStart => exact ⟨0, Nat.zero_le _, rfl, rfl, below_refl _⟩
    case round =>
      obtain ⟨k, hk, rfl, rfl, HW⟩ := hrel
      by_cases hlt : k < n
      · have h1 : wr.cell? ⟨g, k, none⟩ = some (.int .i64 ((k0 : Int) + (k : Int))) := (HW.out.cell (p := ⟨g, k, none⟩) hg).trans (HC.out k hlt)
        have hx : (((k0 : Int) + (k : Int)) != ((k0 : Int) + (k : Int))) = false := by simp
        go_wp2_with fail
        go_roundw
        case rel => exact ⟨k + 1, by omega, by go_num, by go_num, HW.out⟩
        case measure => simp [intOf] <;> omega
      · obtain rfl : k = n := by omega
        go_wp2_with fail
        go_ret
        exact ⟨rfl, HW.out⟩

end Go.Proofs.YtjnegoninojglaaDoor
