/- The longest run, speakable words: the model's functions. -/
import Derived.Test.YthbjaclobllkhaaA2
namespace Go.Proofs.Ythbjaclobllkhaa
open Go.RowKit Go.BigFrame
set_option linter.unusedSimpArgs false
set_option linter.unusedVariables false
set_option maxRecDepth 4000

def longR (rs : List (UInt8 × Nat)) : Nat := rs.foldl (fun a p => max a p.2) 0
def longL (l : List UInt8) : Nat := longR (runsL l)
def speakL (l : List UInt8) : Bool := goodL l && decide (longL l ≤ 9)
theorem longR_snoc (rs : List (UInt8 × Nat)) (p : UInt8 × Nat) : longR (rs ++ [p]) = max (longR rs) p.2 := by simp [longR]
theorem longR_le (rs : List (UInt8 × Nat)) : longR rs ≤ (rs.map (·.2)).sum := by
  induction h : rs.length generalizing rs with
  | zero => have : rs = [] := List.eq_nil_of_length_eq_zero h; subst this; simp [longR]
  | succ n ih =>
    have hne : rs ≠ [] := by intro e; simp [e] at h
    have hd := List.dropLast_concat_getLast hne
    rw [← hd, longR_snoc, List.map_append, List.sum_append]
    have := ih rs.dropLast (by simp [h])
    simp only [List.map_cons, List.map_nil, List.sum_cons, List.sum_nil]; omega
theorem longL_le (l : List UInt8) : longL l ≤ l.length := by
  have := longR_le (runsL l); rw [runsL_sum] at this; exact this
theorem goodL_parts {s : ByteArray} (h : goodL s.data.toList = true) : 1 ≤ s.size ∧ s.size ≤ 400 ∧ s.data.toList.all digB = true := by
  rw [goodL_of s (by simp)] at h
  simp only [Bool.and_eq_true, decide_eq_true_eq] at h
  exact ⟨h.1.1, h.1.2, h.2⟩

theorem l1Most_is (a b c : Int) (w : World) (h : max a b = c) :
    Calls Try.prog 70 #[.int .i64 a, .int .i64 b] w fun e w' => e = .returned (.int .i64 c) ∧ w = w' := by
  subst h
  by_cases h : b < a
  all_goals
    go_enter Try.func70, Try.ntmps70
    go_wp2
    go_ret
    exact ⟨ret_int (by omega), rfl⟩

theorem longR_take_succ (rs : List (UInt8 × Nat)) (k : Nat) (h : k < rs.length) : longR (rs.take (k + 1)) = max (longR (rs.take k)) rs[k].2 := by
  rw [List.take_succ_eq_append_getElem h, longR_snoc]
theorem runsL_ne {l : List UInt8} (h : 1 ≤ l.length) : runsL l ≠ [] := by
  have hne : l ≠ [] := by intro e; simp [e] at h
  have hd := List.dropLast_concat_getLast hne
  rw [← hd, runsL_snoc]
  exact stepRun_ne _ _

set_option maxHeartbeats 1000000 in
theorem woLongest_any (s : ByteArray) (w : World) (h1 : 1 ≤ s.size) (hs : s.size ≤ 400) (hd : s.data.toList.all digB = true) :
    Calls Try.prog 65 #[.string s] w fun e w' => e = .returned (.int .i64 (longL s.data.toList)) ∧ Below w.heap.size w w' := by
  go_enter Try.func65, Try.ntmps65
  go_wp2_with fail
  refine (woRuns_any s w hs hd).mono ?_
  rintro e w1 ⟨v, vs, rfl, hrr, hb⟩
  have HR := Lib.hid hrr
  have HB := Lib.hid hb
  obtain ⟨rs, hrs⟩ : ∃ rs, rs = runsL s.data.toList := ⟨_, rfl⟩
  have hsum : (rs.map (·.2)).sum ≤ 400 := by rw [hrs, runsL_sum]; simpa using hs
  have hrows : rowsL s.data.toList = rs.map rowOf := by rw [hrs]; rfl
  have hlong : longL s.data.toList = longR rs := by rw [hrs]; rfl
  obtain ⟨N, hN⟩ : ∃ N, N = rs.length := ⟨_, rfl⟩
  have hN4 : N ≤ 400 := by rw [hN, hrs]; exact Nat.le_trans (runsL_len _) (by simpa using hs)
  rw [hrows] at hrr
  rcases ownsRR_open hrr with ⟨_, _, hx⟩ | ⟨g, cap, rfl, hc1, hc2, _, _, hcell⟩
  · exact absurd hx (by simp [hrs]; exact runsL_ne (by simpa using h1))
  · have hat : ∀ k (h : k < rs.length), ∃ b c, w1.cell? ⟨g, k, none⟩ = some (.slice (some ⟨b, 0, none⟩) 2 c) ∧ w1.cell? ⟨b, 1, none⟩ = some (.int .i64 (rs[k].2 : Int)) := by
      intro k h
      obtain ⟨b, c, e1, _, e3⟩ := ownsRR_at2 hrr (i := k) (x := .int .i64 ((rs[k].1.toNat : Int) - 48)) (y := .int .i64 (rs[k].2 : Int)) (by simp [h, rowOf])
      exact ⟨b, c, hcell k (by simpa using h) _ e1, e3⟩
    have HA := Lib.hid hat
    have HL := Lib.hid hlong; have HN := Lib.hid hN; have HS := Lib.hid hsum
    simp only [List.length_map, ← hN] at hc1 ⊢
    clear hrr hb hlong hrows hrs hcell hat hsum hN
    go_wp2_with fail
    go_loop [3, 9] (fun m i => ∃ k : Nat, k ≤ N ∧ i = .int .i64 k ∧ m = .int .i64 (longR (rs.take k))) (fun _ i => N - (intOf i).toNat)
    case atStart => exact ⟨0, Nat.zero_le _, rfl, rfl⟩
    case round =>
      obtain ⟨k, hk, rfl, rfl⟩ := hrel
      by_cases hlt : k < N
      · obtain ⟨b, c, hc0, hc1'⟩ := HA.out k (by rw [← HN.out]; exact hlt)
        have hmx := Lib.hid (longR_take_succ rs k (by rw [← HN.out]; exact hlt))
        go_wp2_with fail
        refine (l1Most_is _ _ _ _ rfl).mono ?_
        rintro e w2 ⟨rfl, rfl⟩
        go_wp2
        go_round
        case rel => exact ⟨k + 1, by omega, by go_num, by rw [hmx.out]; congr 1; omega⟩
        case measure => simp [intOf]; omega
      · obtain rfl : k = N := by omega
        go_wp2
        go_ret
        exact ⟨ret_int (by rw [HL.out, List.take_of_length_le (by rw [← HN.out]; exact Nat.le_refl _)]), HB.out⟩

theorem woSpeakable_any (s : ByteArray) (w : World) (hs : s.size ≤ maxLen) :
    Calls Try.prog 49 #[.string s] w fun e w' => e = .returned (.bool (speakL s.data.toList)) ∧ Below w.heap.size w w' := by
  by_cases hg : goodL s.data.toList = true
  · obtain ⟨h1, h2, h3⟩ := goodL_parts hg
    have HG := Lib.hid hg; clear hg
    obtain ⟨n, hn⟩ : ∃ n, n = longL s.data.toList := ⟨_, rfl⟩
    have HN := Lib.hid hn; clear hn
    go_enter Try.func49, Try.ntmps49
    go_wp2_with fail
    refine (woGood_any s w hs).mono ?_
    rintro e w1 ⟨rfl, rfl⟩
    rw [HG.out]
    go_wp2_with fail
    refine (woLongest_any s w h1 h2 h3).mono ?_
    rintro e w1 ⟨rfl, hb⟩
    rw [← HN.out]
    have HB := Lib.hid hb; clear hb
    go_wp2
    go_ret
    exact ⟨ret_bool (by unfold speakL; rw [HG.out, ← HN.out]; simp only [Bool.true_and, decide_eq_decide]; omega), HB.out⟩
  · have hg : goodL s.data.toList = false := by simpa using hg
    have HG := Lib.hid hg; clear hg
    go_enter Try.func49, Try.ntmps49
    go_wp2_with fail
    refine (woGood_any s w hs).mono ?_
    rintro e w1 ⟨rfl, rfl⟩
    rw [HG.out]
    go_wp2
    go_ret
    exact ⟨ret_bool (by unfold speakL; rw [HG.out]; simp), Below.refl _ _⟩

end Go.Proofs.Ythbjaclobllkhaa
