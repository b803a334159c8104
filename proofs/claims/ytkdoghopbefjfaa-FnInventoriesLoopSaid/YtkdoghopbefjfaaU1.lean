/- Told lists: pure facts; the model's taList, taTell; the program's tallyList, tellFirst. -/
import Derived.Test.YtkdoghopbefjfaaT2
import Derived.Test.YtkdoghopbefjfaaE4
import Derived.Test.YtkdoghopbefjfaaT8
import Derived.Test.YtkdoghopbefjfaaT4
namespace Go.Proofs.Ytkdoghopbefjfaa
open Go.RowKit Go.BigFrame
set_option linter.unusedSimpArgs false
set_option linter.unusedVariables false
set_option maxRecDepth 4000

/-- A told list? -/
def tolL (xs : List Int) : Bool := decide (1 ≤ xs.length ∧ xs.length ≤ 9) && xs.all (fun x => decide (0 ≤ x ∧ x ≤ (xs.length : Int)))
theorem tolL_nat {xs : List Int} (h : tolL xs = true) : ∃ ns : List Nat, xs = ti ns ∧ 1 ≤ ns.length ∧ ns.length ≤ 9 ∧ ∀ n ∈ ns, n ≤ ns.length := by
  unfold tolL at h
  simp only [Bool.and_eq_true, decide_eq_true_eq, List.all_eq_true] at h
  refine ⟨xs.map Int.toNat, ?_, by simpa using h.1.1, by simpa using h.1.2, ?_⟩
  · unfold ti
    rw [List.map_map]
    conv => lhs; rw [← List.map_id xs]
    apply List.map_congr_left
    intro x hx
    have := h.2 x hx
    simp; omega
  · intro n hn
    rw [List.length_map]
    obtain ⟨x, hx, rfl⟩ := List.mem_map.1 hn
    have := h.2 x hx
    omega
theorem tolL_ti {ns : List Nat} (h1 : 1 ≤ ns.length) (h9 : ns.length ≤ 9) (h : ∀ n ∈ ns, n ≤ ns.length) : tolL (ti ns) = true := by
  unfold tolL
  simp only [Bool.and_eq_true, decide_eq_true_eq, List.all_eq_true, ti_len]
  refine ⟨⟨h1, h9⟩, fun x hx => ?_⟩
  simp only [ti, List.mem_map] at hx
  obtain ⟨n, hn, rfl⟩ := hx
  have := h n hn
  omega
/-- What is told of numbers: how often 0, .., n - 1 are there. -/
def tel (n : Nat) (ns : List Nat) : List Nat := (List.range n).map fun i => ns.count i
def telP (n : Nat) (ns : List Nat) : List Nat := (List.range 9).map fun i => if i < n then ns.count i else 0
theorem tel_len (n : Nat) (ns : List Nat) : (tel n ns).length = n := by simp [tel]
theorem telP_len (n : Nat) (ns : List Nat) : (telP n ns).length = 9 := by simp [telP]
theorem tel_at (n : Nat) (ns : List Nat) (x : Nat) (h : x < n) : (tel n ns)[x]? = some (ns.count x) := by simp [tel, h]
theorem telP_at (n : Nat) (ns : List Nat) (x : Nat) (h : x < n) (h9 : n ≤ 9) : (telP n ns)[x]? = some (ns.count x) := by simp [telP, h, (by omega : x < 9)]
theorem tel_step (n : Nat) (ns : List Nat) (x : Nat) (h : x < n) : tel n (ns ++ [x]) = (tel n ns).set x (ns.count x + 1) := by
  apply List.ext_getElem (by simp [tel])
  intro i h1 h2
  rw [List.getElem_set]
  simp only [tel, List.getElem_map, List.getElem_range, List.count_append, List.count_singleton]
  by_cases e : x = i
  · subst e; simp
  · simp [e]
theorem tel_skip (n : Nat) (ns : List Nat) (x : Nat) (h : ¬ x < n) : tel n (ns ++ [x]) = tel n ns := by
  apply List.ext_getElem (by simp [tel])
  intro i h1 h2
  simp only [tel, List.length_map, List.length_range] at h1
  simp only [tel, List.getElem_map, List.getElem_range, List.count_append, List.count_singleton]
  have : x ≠ i := by omega
  simp [this]
theorem telP_step (n : Nat) (ns : List Nat) (x : Nat) (h : x < n) : telP n (ns ++ [x]) = (telP n ns).set x (ns.count x + 1) := by
  apply List.ext_getElem (by simp [telP])
  intro i h1 h2
  rw [List.getElem_set]
  simp only [telP, List.getElem_map, List.getElem_range, List.count_append, List.count_singleton]
  by_cases e : x = i
  · subst e; simp [h]
  · simp [e]
theorem telP_skip (n : Nat) (ns : List Nat) (x : Nat) (h : ¬ x < n) : telP n (ns ++ [x]) = telP n ns := by
  apply List.ext_getElem (by simp [telP])
  intro i h1 h2
  simp only [telP, List.getElem_map, List.getElem_range, List.count_append, List.count_singleton]
  split
  · have : x ≠ i := by omega
    simp [this]
  · rfl
theorem telP_nil (n : Nat) : telP n [] = zeros9 := by
  apply List.ext_getElem (by simp [telP, zeros9])
  intro i h1 h2
  rw [show zeros9[i] = 0 from List.getElem_replicate _]
  simp [telP]
theorem tel_nil (n : Nat) : tel n [] = List.replicate n 0 := by
  apply List.ext_getElem (by simp [tel])
  intro i h1 h2
  simp [tel]
theorem telP_take (n : Nat) (ns : List Nat) (h : n ≤ 9) : (telP n ns).take n = tel n ns := by
  apply List.ext_getElem (by simp [tel, telP]; omega)
  intro i h1 h2
  simp only [tel, List.length_map, List.length_range] at h2
  simp [tel, telP, h2]
theorem tel_le (n : Nat) (ns : List Nat) : ∀ x ∈ tel n ns, x ≤ ns.length := by
  intro x hx
  simp only [tel, List.mem_map] at hx
  obtain ⟨i, _, rfl⟩ := hx
  exact List.count_le_length
/-- Numbers with zeros behind them. -/
def pad (ns : List Nat) : List Nat := ns ++ List.replicate (9 - ns.length) 0
theorem pad_len (ns : List Nat) (h : ns.length ≤ 9) : (pad ns).length = 9 := by simp [pad]; omega
theorem pad_take (ns : List Nat) : (pad ns).take ns.length = ns := by simp [pad]
theorem pad_nil : pad [] = zeros9 := rfl
theorem pad_snoc (ns : List Nat) (x : Nat) (h : ns.length < 9) : pad (ns ++ [x]) = (pad ns).set ns.length x := by
  unfold pad
  rw [List.set_append_right _ _ (Nat.le_refl _), Nat.sub_self, List.length_append, List.length_singleton]
  obtain ⟨m, hm⟩ : ∃ m, 9 - ns.length = m + 1 := ⟨9 - ns.length - 1, by omega⟩
  rw [hm, show 9 - (ns.length + 1) = m from by omega, List.replicate_succ, List.set_cons_zero]
  simp
theorem pad_at (ns : List Nat) (h : ns.length < 9) : (pad ns)[ns.length]? = some 0 := by
  unfold pad
  rw [List.getElem?_append_right (Nat.le_refl _), Nat.sub_self, List.getElem?_replicate, if_pos (by omega)]
theorem pad_inj {ps qs : List Nat} (h : ps.length = qs.length) : pad ps = pad qs ↔ ps = qs := by
  constructor
  · intro e
    have := congrArg (List.take ps.length) e
    rw [pad_take] at this
    rw [this, h, pad_take]
  · rintro rfl; rfl
theorem telP_pad (ns : List Nat) (n : Nat) (h : n ≤ 9) : telP n ns = pad (tel n ns) := by
  unfold pad
  rw [tel_len]
  apply List.ext_getElem (by simp [telP, tel]; omega)
  intro i h1 h2
  rw [List.getElem_append]
  split
  · rename_i h3
    simp only [tel, List.length_map, List.length_range] at h3
    simp [telP, tel, h3]
  · rename_i h3
    simp only [tel, List.length_map, List.length_range] at h3
    simp [telP, h3]

/-! ### Reading rows of numbers -/
theorem intsA_at {w : World} {B : Nat} {v : Value} {xs : List Int} (h : IntsA w B v xs) (h1 : 1 ≤ xs.length) :
    ∃ g cap, v = .slice (some ⟨g, 0, none⟩) xs.length cap ∧ xs.length ≤ cap ∧ cap ≤ 9223372036854775807 ∧ B ≤ g ∧ g < w.heap.size ∧ (∀ i (hi : i < xs.length), w.cell? ⟨g, i, none⟩ = some (.int .i64 xs[i])) := by
  rcases intsA_open h with ⟨rfl, rfl⟩ | ⟨g, cap, E, rest, rfl, hB, hg, _, _, hcp, hcc, hce⟩
  · simp at h1
  · exact ⟨g, cap, rfl, hcc, hcp, hB, hg, hce⟩
theorem intsA_slice {w : World} {B : Nat} {v : Value} {xs : List Int} (h : IntsA w B v xs) : ∃ a cap, v = .slice a xs.length cap ∧ cap ≤ 9223372036854775807 ∧ xs.length ≤ 9223372036854775807 := by
  rcases intsA_open h with ⟨rfl, rfl⟩ | ⟨g, cap, E, rest, rfl, hB, hg, _, hn, hcp, hcc, hce⟩
  · exact ⟨_, 0, rfl, by omega, by simp⟩
  · exact ⟨_, _, rfl, hcp, hn⟩
theorem allI_succ (p : Int → Bool) (xs : List Int) (k : Nat) (h : k < xs.length) : (xs.take (k + 1)).all p = ((xs.take k).all p && p xs[k]) := by
  rw [List.take_succ_eq_append_getElem h, List.all_append]; simp
theorem allI_false (p : Int → Bool) (xs : List Int) (k : Nat) (h : (xs.take k).all p = false) : xs.all p = false := by
  rw [← List.take_append_drop k xs, List.all_append, h]; rfl
def inB (lo hi : Int) (x : Int) : Bool := decide (lo ≤ x ∧ x ≤ hi)

set_option maxHeartbeats 1000000 in
theorem l1All_any (w : World) (B : Nat) (v : Value) (xs : List Int) (lo hi : Int) (ha : IntsA w B v xs) (h1 : 1 ≤ xs.length) :
    Calls Try.prog 106 #[v, .int .i64 lo, .int .i64 hi] w fun e w' => e = .returned (.bool (xs.all (inB lo hi))) ∧ w = w' := by
  obtain ⟨g, cap, rfl, hc1, hc2, _, hg, hce⟩ := intsA_at ha h1
  have HC := Lib.hid hce
  obtain ⟨N, hN⟩ : ∃ N, N = xs.length := ⟨_, rfl⟩
  have HN := Lib.hid hN
  rw [← hN] at hc1 h1 ⊢
  clear ha hce hN
  go_enter Try.func106, Try.ntmps106
  go_wp2_with fail
  go_loop [11] (fun i => ∃ k : Nat, i = .int .i64 k ∧ k ≤ N ∧ Hid ((xs.take k).all (inB lo hi) = true)) (fun i => N - (intOf i).toNat)
  case atStart => exact ⟨0, rfl, Nat.zero_le _, rfl⟩
  case round =>
    obtain ⟨k, rfl, hk, HX⟩ := hrel
    by_cases hlt : k < N
    · have hk' : k < xs.length := by rw [← HN.out]; exact hlt
      have h2 : w.cell? ⟨g, k, none⟩ = some (.int .i64 xs[k]) := HC.out k hk'
      have hs := allI_succ (inB lo hi) xs k hk'
      rw [HX.out, Bool.true_and] at hs
      obtain ⟨x, hx⟩ : ∃ x, x = xs[k] := ⟨_, rfl⟩
      rw [← hx] at h2 hs
      obtain ⟨b, hb⟩ : ∃ b, b = decide (lo ≤ x ∧ x ≤ hi) := ⟨_, rfl⟩
      rw [show inB lo hi x = b from hb.symm] at hs
      have HS := Lib.hid hs; have HB := Lib.hid hb; clear hs hx hb
      go_wp2_with fail
      refine (l1In_is b _ _ _ _ HB.out.symm).mono ?_
      rintro e w2 ⟨rfl, rfl⟩
      cases b with
      | true =>
        go_wp2_with fail
        go_round
        case rel => exact ⟨k + 1, by go_num, by omega, HS.out⟩
        case measure => simp [intOf] <;> omega
      | false =>
        have hf := allI_false (inB lo hi) xs (k + 1) HS.out
        have HF := Lib.hid hf; clear hf
        go_wp2_with fail
        go_ret
        exact ⟨by rw [HF.out]; rfl, rfl⟩
    · obtain rfl : k = N := by omega
      have hf : xs.all (inB lo hi) = true := by have := HX.out; rw [List.take_of_length_le (by rw [← HN.out]; exact Nat.le_refl _)] at this; exact this
      have HF := Lib.hid hf; clear hf
      go_wp2_with fail
      go_ret
      exact ⟨by rw [HF.out]; rfl, rfl⟩

set_option maxHeartbeats 1000000 in
theorem taList_any (w : World) (B : Nat) (v : Value) (xs : List Int) (ha : IntsA w B v xs) :
    Calls Try.prog 84 #[v] w fun e w' => e = .returned (.bool (tolL xs)) ∧ w = w' := by
  obtain ⟨a, cap, hv, hcp, hn⟩ := intsA_slice ha
  by_cases h1 : 1 ≤ xs.length ∧ xs.length ≤ 9
  · have ht : tolL xs = xs.all (inB 0 xs.length) := by unfold tolL; rw [decide_eq_true h1]; rfl
    have hall := l1All_any w B v xs 0 xs.length ha h1.1
    rw [← ht] at hall
    have hd : decide ((1 : Int) ≤ (xs.length : Int) ∧ (xs.length : Int) ≤ 9) = true := by simp; omega
    obtain ⟨N, hN⟩ : ∃ N, N = xs.length := ⟨_, rfl⟩
    rw [← hN] at hv hall hd
    subst hv
    have HALL := Lib.hid hall; have HD := Lib.hid hd; clear hall hd ht ha hN
    go_enter Try.func84, Try.ntmps84
    go_wp2_with fail
    refine (l1In_is true _ _ _ _ HD.out).mono ?_
    rintro e w2 ⟨rfl, rfl⟩
    go_wp2_with fail
    refine HALL.out.mono ?_
    rintro e w2 ⟨rfl, rfl⟩
    go_wp2_with fail
    go_ret
    exact ⟨rfl, rfl⟩
  · have ht : tolL xs = false := by unfold tolL; rw [decide_eq_false h1]; rfl
    have hd : decide ((1 : Int) ≤ (xs.length : Int) ∧ (xs.length : Int) ≤ 9) = false := by simp; omega
    obtain ⟨N, hN⟩ : ∃ N, N = xs.length := ⟨_, rfl⟩
    rw [← hN] at hv hd
    subst hv
    rw [ht]
    have HD := Lib.hid hd; clear hd ht ha hN
    go_enter Try.func84, Try.ntmps84
    go_wp2_with fail
    refine (l1In_is false _ _ _ _ HD.out).mono ?_
    rintro e w2 ⟨rfl, rfl⟩
    go_wp2_with fail
    go_ret
    exact ⟨rfl, rfl⟩

set_option maxHeartbeats 1000000 in
theorem taTell_any (w : World) (B : Nat) (v : Value) (ns : List Nat) (ha : IntsA w B v (ti ns)) (h1 : 1 ≤ ns.length) (h9 : ns.length ≤ 9) :
    Calls Try.prog 85 #[v] w fun e w' => ∃ g, e = .returned (.slice (some ⟨g, 0, none⟩) ns.length ns.length) ∧ w'.ownsRow w.heap.size 3 1 (.slice (some ⟨g, 0, none⟩) ns.length ns.length) ns.length (tvl (tel ns.length ns)) ∧ Below w.heap.size w w' := by
  obtain ⟨i0, hi, hz0, hz1, hz2⟩ := info_parts info_intT
  obtain ⟨g, cap, rfl, hc1, hc2, _, hg, hce⟩ := intsA_at ha (by rw [ti_len]; exact h1)
  rw [ti_len] at hc1 ⊢
  obtain ⟨N, hN⟩ : ∃ N, N = ns.length := ⟨_, rfl⟩
  have hce' : ∀ i (hi : i < ns.length), w.cell? ⟨g, i, none⟩ = some (.int .i64 (ns[i] : Nat)) := fun i hi => by
    rw [hce i (by rw [ti_len]; exact hi)]; simp [ti]
  have HC := Lib.hid hce'; have HN := Lib.hid hN
  rw [← hN] at hc1 h1 h9 ⊢
  clear ha hce hce' hN
  go_enter Try.func85, Try.ntmps85
  go_wp2_with (refine wpList_make_full _ rfl _ _ 32 rfl w.heap.size 3 i0 (.int .i64 0) 1 Try.underlying32 hi hz0 hz1 .i64 .i64 (N : Int) (N : Int) N rfl rfl rfl rfl (by rw [hz2]; omega) (by unfold maxLen; omega) (Nat.le_refl _) ?_; intro w1 hown hgr; have HO := Lib.hid hown; have HB := Lib.hid ((Below.refl w.heap.size w).grown hgr (Nat.le_refl _) (fun k h => by cases h)); clear hown hgr)
  go_loopw [11] (fun i wr => ∃ k : Nat, i = .int .i64 k ∧ k ≤ N ∧ Hid (wr.ownsRow w.heap.size 3 1 (.slice (some ⟨w.heap.size, 0, none⟩) N N) N (tvl (tel N (ns.take k))) ∧ Below w.heap.size w wr)) (fun i _ => N - (intOf i).toNat)
  case atStart =>
    refine ⟨0, rfl, Nat.zero_le _, ?_, HB.out⟩
    rw [List.take_zero, tel_nil]
    have e : (madeCells (Value.int .i64 0).cells (N * 1)).toList = tvl (List.replicate N 0) := by rw [Nat.mul_one]; refine (toList_madeCells_one _ _).trans ?_; simp [tvl]
    exact e ▸ HO.out
  case round =>
    obtain ⟨k, rfl, hk, HX⟩ := hrel
    by_cases hlt : k < N
    · have hk' : k < ns.length := by rw [← HN.out]; exact hlt
      have h2 : wr.cell? ⟨g, k, none⟩ = some (.int .i64 (ns[k] : Nat)) := (HX.out.2.cell (p := ⟨g, k, none⟩) hg).trans (HC.out k hk')
      have htk : ns.take (k + 1) = ns.take k ++ [ns[k]] := List.take_succ_eq_append_getElem hk'
      obtain ⟨x, hx⟩ : ∃ x, x = ns[k] := ⟨_, rfl⟩
      rw [← hx] at h2 htk
      by_cases hxn : x < N
      · have hst := tel_step N (ns.take k) x hxn
        have hat := tel_at N (ns.take k) x hxn
        obtain ⟨c, hc⟩ : ∃ c, c = (ns.take k).count x := ⟨_, rfl⟩
        have hc9 : c ≤ 9 := by rw [hc]; exact Nat.le_trans List.count_le_length (by simp; omega)
        rw [← hc] at hst hat
        rw [← htk] at hst
        have h3 : wr.cell? ⟨w.heap.size, x, none⟩ = some (.int .i64 (c : Int)) := by
          rw [HX.out.1.cellAt x (by omega)]; simp [tvl, hat]
        have h4 : wr.frozen? ⟨w.heap.size, x, none⟩ = false := HX.out.1.frozenAt x
        have HST := Lib.hid hst; clear hst hat hc hx htk
        go_wp2_with fail
        go_roundw
        case rel =>
          refine ⟨k + 1, by go_num, by omega, ?_, HX.out.2.setCell (p := ⟨w.heap.size, x, none⟩) (Nat.le_refl _) _⟩
          have := (HX.out.1.stored x (.int .i64 ((c + 1 : Nat) : Int))).1
          rw [HST.out, tvl, List.map_set]
          exact this
        case measure => simp [intOf] <;> omega
      · have hsk := tel_skip N (ns.take k) x hxn
        rw [← htk] at hsk
        have HSK := Lib.hid hsk; clear hsk hx htk
        go_wp2_with fail
        go_roundw
        case rel => exact ⟨k + 1, by go_num, by omega, by rw [HSK.out]; exact HX.out.1, HX.out.2⟩
        case measure => simp [intOf] <;> omega
    · obtain rfl : k = N := by omega
      go_wp2_with fail
      go_ret
      refine ⟨_, rfl, ?_, HX.out.2⟩
      have := HX.out.1
      rw [List.take_of_length_le (by rw [← HN.out]; exact Nat.le_refl _)] at this
      exact this
end Go.Proofs.Ytkdoghopbefjfaa
