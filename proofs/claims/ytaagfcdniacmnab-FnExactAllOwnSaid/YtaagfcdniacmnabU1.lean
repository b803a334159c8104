/- Told lists: pure facts; the model's taList, taTell; the program's tallyList, tellFirst. -/
import Derived.Test.YtaagfcdniacmnabT2
import Derived.Test.YtaagfcdniacmnabE4
import Derived.Test.YtaagfcdniacmnabT8
import Derived.Test.YtaagfcdniacmnabT4
namespace Go.Proofs.Ytaagfcdniacmnab
open Go.RowKit Go.BigFrame
set_option linter.unusedSimpArgs false
set_option linter.unusedVariables false
set_option maxRecDepth 4000

/-- A told list? -/
def tolL (xs : List Int) : Bool := decide (1 ≤ xs.length ∧ xs.length ≤ 9) && xs.all (fun x => decide (0 ≤ x ∧ x ≤ (xs.length : Int)))
theorem tolL_nat {xs : List Int} (h : tolL xs = true) : ∃ ns : List Nat, xs = ti ns ∧ 1 ≤ ns.length ∧ ns.length ≤ 9 ∧ ∀ n ∈ ns, n ≤ ns.length := by
  unfold tolL at h
  simp only [Bool.and_eq_true, decide_eq_true_eq, List.all_eq_true] at h
  refine ⟨xs.map Int.toNat, ?_, by simpa using h.1.1, by simpa using h.1.2, ?_⟩
  · unfold ti
    rw [List.map_map]
    conv => lhs; rw [← List.map_id xs]
    apply List.map_congr_left
    intro x hx
    have := h.2 x hx
    simp; omega
  · intro n hn
    rw [List.length_map]
    obtain ⟨x, hx, rfl⟩ := List.mem_map.1 hn
    have := h.2 x hx
    omega
theorem tolL_ti {ns : List Nat} (h1 : 1 ≤ ns.length) (h9 : ns.length ≤ 9) (h : ∀ n ∈ ns, n ≤ ns.length) : tolL (ti ns) = true := by
  unfold tolL
  simp only [Bool.and_eq_true, decide_eq_true_eq, List.all_eq_true, ti_len]
  refine ⟨⟨h1, h9⟩, fun x hx => ?_⟩
  simp only [ti, List.mem_map] at hx
  obtain ⟨n, hn, rfl⟩ := hx
  have := h n hn
  omega
/-- What is told of numbers: how often 0, .., n - 1 are there. -/
def tel (n : Nat) (ns : List Nat) : List Nat := (List.range n).map fun i => ns.count i
def telP (n : Nat) (ns : List Nat) : List Nat := (List.range 9).map fun i => if i < n then ns.count i else 0
theorem tel_len (n : Nat) (ns : List Nat) : (tel n ns).length = n := by simp [tel]
theorem telP_len (n : Nat) (ns : List Nat) : (telP n ns).length = 9 := by simp [telP]
theorem tel_at (n : Nat) (ns : List Nat) (x : Nat) (h : x < n) : (tel n ns)[x]? = some (ns.count x) := by simp [tel, h]
theorem telP_at (n : Nat) (ns : List Nat) (x : Nat) (h : x < n) (h9 : n ≤ 9) : (telP n ns)[x]? = some (ns.count x) := by simp [telP, h, (by omega : x < 9)]
theorem tel_step (n : Nat) (ns : List Nat) (x : Nat) (h : x < n) : tel n (ns ++ [x]) = (tel n ns).set x (ns.count x + 1) := by
  apply List.ext_getElem (by simp [tel])
  intro i h1 h2
  rw [List.getElem_set]
  simp only [tel, List.getElem_map, List.getElem_range, List.count_append, List.count_singleton]
  by_cases e : x = i
  · subst e; simp
  · simp [e]
theorem tel_skip (n : Nat) (ns : List Nat) (x : Nat) (h : ¬ x < n) : tel n (ns ++ [x]) = tel n ns := by
  apply List.ext_getElem (by simp [tel])
  intro i h1 h2
  simp only [tel, List.length_map, List.length_range] at h1
  simp only [tel, List.getElem_map, List.getElem_range, List.count_append, List.count_singleton]
  have : x ≠ i := by omega
  simp [this]
theorem telP_step (n : Nat) (ns : List Nat) (x : Nat) (h : x < n) : telP n (ns ++ [x]) = (telP n ns).set x (ns.count x + 1) := by
  apply List.ext_getElem (by simp [telP])
  intro i h1 h2
  rw [List.getElem_set]
  simp only [telP, List.getElem_map, List.getElem_range, List.count_append, List.count_singleton]
  by_cases e : x = i
  · subst e; simp [h]
  · simp [e]
theorem telP_skip (n : Nat) (ns : List Nat) (x : Nat) (h : ¬ x < n) : telP n (ns ++ [x]) = telP n ns := by
  apply List.ext_getElem (by simp [telP])
  intro i h1 h2
  simp only [telP, List.getElem_map, List.getElem_range, List.count_append, List.count_singleton]
  split
  · have : x ≠ i := by omega
    simp [this]
  · rfl
theorem telP_nil (n : Nat) : telP n [] = zeros9 := by
  apply List.ext_getElem (by simp [telP, zeros9])
  intro i h1 h2
  rw [show zeros9[i] = 0 from List.getElem_replicate _]
  simp [telP]
theorem tel_nil (n : Nat) : tel n [] = List.replicate n 0 := by
  apply List.ext_getElem (by simp [tel])
  intro i h1 h2
  simp [tel]
theorem telP_take (n : Nat) (ns : List Nat) (h : n ≤ 9) : (telP n ns).take n = tel n ns := by
  apply List.ext_getElem (by simp [tel, telP]; omega)
  intro i h1 h2
  simp only [tel, List.length_map, List.length_range] at h2
  simp [tel, telP, h2]
theorem tel_le (n : Nat) (ns : List Nat) : ∀ x ∈ tel n ns, x ≤ ns.length := by
  intro x hx
  simp only [tel, List.mem_map] at hx
  obtain ⟨i, _, rfl⟩ := hx
  exact List.count_le_length
/-- Numbers with zeros behind them. -/
def pad (ns : List Nat) : List Nat := ns ++ List.replicate (9 - ns.length) 0
theorem pad_len (ns : List Nat) (h : ns.length ≤ 9) : (pad ns).length = 9 := by simp [pad]; omega
theorem pad_take (ns : List Nat) : (pad ns).take ns.length = ns := by simp [pad]
theorem pad_nil : pad [] = zeros9 := rfl
theorem pad_snoc (ns : List Nat) (x : Nat) (h : ns.length < 9) : pad (ns ++ [x]) = (pad ns).set ns.length x := by
  unfold pad
  rw [List.set_append_right _ _ (Nat.le_refl _), Nat.sub_self, List.length_append, List.length_singleton]
  obtain ⟨m, hm⟩ : ∃ m, 9 - ns.length = m + 1 := ⟨9 - ns.length - 1, by omega⟩
  rw [hm, show 9 - (ns.length + 1) = m from by omega, List.replicate_succ, List.set_cons_zero]
  simp
theorem pad_at (ns : List Nat) (h : ns.length < 9) : (pad ns)[ns.length]? = some 0 := by
  unfold pad
  rw [List.getElem?_append_right (Nat.le_refl _), Nat.sub_self, List.getElem?_replicate, if_pos (by omega)]
theorem pad_inj {ps qs : List Nat} (h : ps.length = qs.length) : pad ps = pad qs ↔ ps = qs := by
  constructor
  · intro e
    have := congrArg (List.take ps.length) e
    rw [pad_take] at this
    rw [this, h, pad_take]
  · rintro rfl; rfl
theorem telP_pad (ns : List Nat) (n : Nat) (h : n ≤ 9) : telP n ns = pad (tel n ns) := by
  unfold pad
  rw [tel_len]
  apply List.ext_getElem (by simp [telP, tel]; omega)
  intro i h1 h2
  rw [List.getElem_append]
  split
  · rename_i h3
    simp only [tel, List.length_map, List.length_range] at h3
    simp [telP, tel, h3]
  · rename_i h3
    simp only [tel, List.length_map, List.length_range] at h3
    simp [telP, h3]

/-! ### Reading rows of numbers -/
theorem intsA_at {w : World} {B : Nat} {v : Value} {xs : List Int} (h : IntsA w B v xs) (h1 : 1 ≤ xs.length) :
    ∃ g cap, v = .slice (some ⟨g, 0, none⟩) xs.length cap ∧ xs.length ≤ cap ∧ cap ≤ 9223372036854775807 ∧ B ≤ g ∧ g < w.heap.size ∧ (∀ i (hi : i < xs.length), w.cell? ⟨g, i, none⟩ = some (.int .i64 xs[i])) := by
  rcases intsA_open h with ⟨rfl, rfl⟩ | ⟨g, cap, E, rest, rfl, hB, hg, _, _, hcp, hcc, hce⟩
  · simp at h1
  · exact ⟨g, cap, rfl, hcc, hcp, hB, hg, hce⟩
theorem intsA_slice {w : World} {B : Nat} {v : Value} {xs : List Int} (h : IntsA w B v xs) : ∃ a cap, v = .slice a xs.length cap ∧ cap ≤ 9223372036854775807 ∧ xs.length ≤ 9223372036854775807 := by
  rcases intsA_open h with ⟨rfl, rfl⟩ | ⟨g, cap, E, rest, rfl, hB, hg, _, hn, hcp, hcc, hce⟩
  · exact ⟨_, 0, rfl, by omega, by simp⟩
  · exact ⟨_, _, rfl, hcp, hn⟩
theorem allI_succ (p : Int → Bool) (xs : List Int) (k : Nat) (h : k < xs.length) : (xs.take (k + 1)).all p = ((xs.take k).all p && p xs[k]) := by
  rw [List.take_succ_eq_append_getElem h, List.all_append]; simp
theorem allI_false (p : Int → Bool) (xs : List Int) (k : Nat) (h : (xs.take k).all p = false) : xs.all p = false := by
  rw [← List.take_append_drop k xs, List.all_append, h]; rfl
def inB (lo hi : Int) (x : Int) : Bool := decide (lo ≤ x ∧ x ≤ hi)

end Go.Proofs.Ytaagfcdniacmnab
