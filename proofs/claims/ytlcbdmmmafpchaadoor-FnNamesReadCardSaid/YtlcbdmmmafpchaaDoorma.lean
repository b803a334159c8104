/- Chapter 8: the program's words of names. -/
import Derived.Test.YtlcbdmmmafpchaaDoorMA
namespace Go.Proofs.YtlcbdmmmafpchaaDoor
open Go.RowKit Go.BigFrame
set_option linter.unusedSimpArgs false
set_option linter.unusedVariables false
set_option maxRecDepth 4000

theorem info_sN : (Tryd.prog.info? 9).map (fun i => (i.zero, i.size, i.bytes)) = some (some (.string ⟨#[]⟩), 1, 16) := by kernel_rfl
theorem NamesAt.from {w w' : World} {B : Nat} (h : NamesAt w) (hB : w.heap.size ≤ B) (hb : Below B w w') : NamesAt w' := h.below (hb.mono hB)
theorem strs_parts {w : World} {B : Nat} {v : Value} {ls : List (List UInt8)} (h : Strs w B v ls) (hne : ls ≠ []) : ∃ g c, v = .slice (some ⟨g, 0, none⟩) ls.length c ∧ B ≤ g ∧ g < w.heap.size ∧ ls.length ≤ c ∧ c ≤ maxLen ∧ ∀ i (hi : i < ls.length), w.cell? ⟨g, i, none⟩ = some (.string (bs ls[i])) := by
  rcases own_open h with ⟨_, h0, _⟩ | ⟨g, cap, hv, hB, hg, hn, hm, _, hc, _⟩
  · exact absurd (List.eq_nil_of_length_eq_zero h0) hne
  · exact ⟨g, cap, hv, hB, hg, hn, hm, fun i hi => by have := hc i (by simpa using hi); simpa using this⟩

set_option maxHeartbeats 1000000 in
theorem tensName_any (n : Nat) (w : World) (h2 : 20 ≤ n) (h : n < 100) (NA : NamesAt w) :
    Calls Tryd.prog 92 #[.int .i64 (n : Int)] w fun e w' => e = .returned (.string (bs (wd100 n))) ∧ w = w' := by
  have h1 : ¬ n < 20 := by omega
  have ht := tnN_len (n / 10) (by omega)
  have hs := (smN_len (n % 10) (by omega)).2
  obtain ⟨T, hT⟩ : ∃ T, T = tnN (n / 10) := ⟨_, rfl⟩
  obtain ⟨S, hS⟩ : ∃ S, S = smN (n % 10) := ⟨_, rfl⟩
  have hq : (n : Int).tdiv 10 = ((n / 10 : Nat) : Int) := by rw [Int.tdiv_eq_ediv_of_nonneg (by omega)]; omega
  have hm : (n : Int).tmod 10 = ((n % 10 : Nat) : Int) := by rw [Int.tmod_eq_emod_of_nonneg (by omega)]; omega
  have c1 := NA.tens (n / 10) (by omega) (by omega)
  have c2 := NA.small (n % 10) (by omega)
  rw [← hT] at c1 ht; rw [← hS] at c2 hs
  obtain ⟨R, hR⟩ : ∃ R, R = wd100 n := ⟨_, rfl⟩
  rw [← hR]
  have e : R = if n % 10 = 0 then T else T ++ [45] ++ S := by rw [hR]; unfold wd100; rw [if_neg h1, hT, hS]
  obtain ⟨q, hq'⟩ : ∃ q, n / 10 = q + 2 := ⟨n / 10 - 2, by omega⟩
  have hqb : q ≤ 7 := by omega
  rw [hq'] at hq
  rw [hq', Nat.add_sub_cancel] at c1
  obtain ⟨k, hk⟩ : ∃ k, k = n % 10 := ⟨_, rfl⟩
  rw [← hk] at hm c2 e
  have hk9 : k ≤ 9 := by omega
  have hq3 : ((q + 2 : Nat) : Int) - 2 = (q : Int) := by omega
  have b1 : (bs T).size = T.length := bs_size _
  have b2 : (bs S).size = S.length := bs_size _
  have b3 : (⟨#[45]⟩ : ByteArray).size = 1 := rfl
  have b4 : (bs T ++ (⟨#[45]⟩ : ByteArray)).size = T.length + 1 := by rw [ByteArray.size_append, b1]; rfl
  have hqa : ((q + 2 : Nat) : Int) = (q : Int) + 2 := by omega
  rw [hqa] at hq
  by_cases h3 : k = 0
  · rw [if_pos h3] at e
    subst h3; subst e
    clear hR hT hS hk hq' hs b2 b4 hq3 hqa NA
    go_enter Tryd.func92, Tryd.ntmps92
    go_wp2_with fail
    go_ret
    exact ⟨rfl, rfl⟩
  · rw [if_neg h3] at e
    have h3z : ((k : Int) == 0) = false := by simp; omega
    have hres : bs T ++ (⟨#[45]⟩ : ByteArray) ++ bs S = bs R := by rw [e, ← bs_append, ← bs_append]; rfl
    have HRES := Lib.hid hres
    clear hres hR hT hS hk hq' hq3 hqa e NA h3
    go_enter Tryd.func92, Tryd.ntmps92
    go_wp2_with fail
    go_ret
    exact ⟨ret_str HRES.out, rfl⟩

set_option maxHeartbeats 1000000 in
theorem words100_any (n : Nat) (w : World) (h : n < 100) (NA : NamesAt w) :
    Calls Tryd.prog 60 #[.int .i64 (n : Int)] w fun e w' => e = .returned (.slice (some ⟨w.heap.size, 0, none⟩) 1 1) ∧ w' = w.alloc (.cells #[.string (bs (wd100 n))] 9) := by
  by_cases h1 : n < 20
  · have e : wd100 n = smN n := by unfold wd100; rw [if_pos h1]
    rw [e]
    have c2 := NA.small n h1
    generalize smN n = S at *
    have h1z : (n : Int) < 20 := by omega
    clear e h NA
    go_enter Tryd.func60, Tryd.ntmps60
    go_wp2_with fail
    go_ret
    exact ⟨rfl, rfl⟩
  · have h0z : ¬ (n : Int) < 20 := by omega
    have h1z : (n : Int) < 100 := by omega
    have H := Lib.hid (tensName_any n w (by omega) h NA)
    generalize wd100 n = S at *
    clear h NA
    go_enter Tryd.func60, Tryd.ntmps60
    go_wp2_with fail
    refine H.out.mono ?_
    rintro e w1 ⟨rfl, rfl⟩
    go_wp2_with fail
    go_ret
    exact ⟨rfl, rfl⟩
end Go.Proofs.YtlcbdmmmafpchaaDoor
