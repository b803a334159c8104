/- Words of which a word is the inventory: plain lists; the model's taHeard. -/
import Derived.Test.YtaagfcdniacmnabT17
import Derived.Test.YtaagfcdniacmnabT9
namespace Go.Proofs.Ytaagfcdniacmnab
open Go.RowKit Go.BigFrame
set_option linter.unusedSimpArgs false
set_option linter.unusedVariables false
set_option maxRecDepth 4000

def heardK (rec : List Nat → List UInt8 → List (List UInt8)) (ts : List Nat) (b : List UInt8) (k : Nat) : List (List UInt8) :=
  (List.range k).flatMap fun i => if ts.getD i 0 = 0 then [] else rec (ts.set i (ts.getD i 0 - 1)) (b ++ numL (i + 1))
/-- All texts with so many of each digit behind a beginning, in order. -/
def heardL : Nat → List Nat → List UInt8 → List (List UInt8)
  | 0, _, b => [b]
  | n + 1, ts, b => heardK (heardL n) ts b 9
theorem heardK_succ (rec : List Nat → List UInt8 → List (List UInt8)) (ts : List Nat) (b : List UInt8) (k m : Nat) (h : ts[k]? = some m) :
    heardK rec ts b (k + 1) = heardK rec ts b k ++ if m = 0 then [] else rec (ts.set k (m - 1)) (b ++ numL (k + 1)) := by
  unfold heardK
  rw [List.range_succ, List.flatMap_append, List.flatMap_singleton, List.getD_eq_getElem?_getD, h]
  rfl
theorem heardK_len (rec : List Nat → List UInt8 → List (List UInt8)) (ts : List Nat) (b : List UInt8) (M : Nat) (h : ∀ i m, ts[i]? = some (m + 1) → (rec (ts.set i m) (b ++ numL (i + 1))).length ≤ M) : ∀ k, k ≤ ts.length → (heardK rec ts b k).length ≤ k * M
  | 0, _ => by simp [heardK]
  | k + 1, hk => by
    have h1 := heardK_len rec ts b M h k (by omega)
    rw [heardK_succ rec ts b k _ (List.getElem?_eq_getElem (by omega)), List.length_append, Nat.succ_mul]
    split
    · simp; omega
    · rename_i hne
      obtain ⟨m, hm⟩ : ∃ m, ts[k] = m + 1 := ⟨ts[k] - 1, by omega⟩
      have := h k m (by rw [List.getElem?_eq_getElem (by omega), hm])
      rw [hm, Nat.add_sub_cancel]
      omega
theorem heardK_pos (rec : List Nat → List UInt8 → List (List UInt8)) (ts : List Nat) (b : List UInt8) (h : ∀ i m, ts[i]? = some (m + 1) → 0 < (rec (ts.set i m) (b ++ numL (i + 1))).length) (i m : Nat) (hi : ts[i]? = some (m + 1)) : ∀ k, i < k → 0 < (heardK rec ts b k).length
  | 0, hk => by omega
  | k + 1, hk => by
    by_cases e : i = k
    · subst e
      rw [heardK_succ rec ts b i _ hi, List.length_append, if_neg (by omega), Nat.add_sub_cancel]
      have := h i m hi
      omega
    · have h1 := heardK_pos rec ts b h i m hi k (by omega)
      have : heardK rec ts b (k + 1) = heardK rec ts b k ++ (fun i => if ts.getD i 0 = 0 then [] else rec (ts.set i (ts.getD i 0 - 1)) (b ++ numL (i + 1))) k := by
        unfold heardK
        rw [List.range_succ, List.flatMap_append, List.flatMap_singleton]
      rw [this, List.length_append]
      omega
theorem sum_set : ∀ (ts : List Nat) (i m : Nat), ts[i]? = some (m + 1) → (ts.set i m).sum + 1 = ts.sum
  | [], i, m, h => by simp at h
  | a :: r, 0, m, h => by simp at h; subst h; simp; omega
  | a :: r, i + 1, m, h => by
    have := sum_set r i m (by simpa using h)
    simp; omega
theorem sum_zero {ts : List Nat} (h9 : ts.length = 9) : ts.sum = 0 ↔ ts = zeros9 := by
  constructor
  · intro h
    apply List.ext_getElem h9
    intro i h1 h2
    rw [show zeros9[i] = 0 from List.getElem_replicate _]
    have : ∀ (l : List Nat), l.sum = 0 → ∀ x ∈ l, x = 0 := by
      intro l
      induction l with
      | nil => simp
      | cons a r ih =>
        intro hs x hx
        simp at hs
        rcases List.mem_cons.1 hx with rfl | hx
        · omega
        · exact ih (by omega) x hx
    exact this ts h _ (List.getElem_mem _)
  · rintro rfl; rfl
theorem le_sumT : ∀ (ts : List Nat) (i m : Nat), ts[i]? = some m → m ≤ ts.sum
  | [], i, m, h => by simp at h
  | a :: r, 0, m, h => by simp at h; subst h; simp
  | a :: r, i + 1, m, h => by have := le_sumT r i m (by simpa using h); simp; omega
theorem pos_of_sum {ts : List Nat} {n : Nat} (h9 : ts.length = 9) (h : ts.sum = n + 1) : ∃ i m, i < 9 ∧ ts[i]? = some (m + 1) := by
  apply Classical.byContradiction
  intro hh
  have hz : ts = zeros9 := by
    apply List.ext_getElem h9
    intro i h1 h2
    rw [show zeros9[i] = 0 from List.getElem_replicate _]
    apply Classical.byContradiction
    intro hne
    exact hh ⟨i, ts[i] - 1, by omega, by rw [List.getElem?_eq_getElem h1]; congr 1; omega⟩
  rw [hz] at h
  simp [zeros9] at h
theorem heardL_facts : ∀ (n : Nat) (ts : List Nat) (b : List UInt8), ts.length = 9 → ts.sum = n → 0 < (heardL n ts b).length ∧ (heardL n ts b).length ≤ 9 ^ n
  | 0, ts, b, _, _ => by simp [heardL]
  | n + 1, ts, b, h9, hs => by
    have ih : ∀ i m, ts[i]? = some (m + 1) → 0 < (heardL n (ts.set i m) (b ++ numL (i + 1))).length ∧ (heardL n (ts.set i m) (b ++ numL (i + 1))).length ≤ 9 ^ n := fun i m h =>
      heardL_facts n _ _ (by simpa using h9) (by have := sum_set ts i m h; omega)
    obtain ⟨i, m, hi9, hi⟩ := pos_of_sum h9 hs
    refine ⟨heardK_pos _ ts b (fun i m h => (ih i m h).1) i m hi 9 hi9, ?_⟩
    have := heardK_len (heardL n) ts b (9 ^ n) (fun i m h => (ih i m h).2) 9 (by omega)
    rw [Nat.pow_succ]
    simp only [heardL]
    omega

theorem own_copyV {w : World} {g : Nat} {xs : List Int} (hce : ∀ i (hi : i < xs.length), w.cell? ⟨g, i, none⟩ = some (.int .i64 xs[i])) : ∀ j u, (ivs xs)[j]? = some u → (w.alloc (.cells #[] 3)).cell? ((⟨g, 0, none⟩ : Addr).add j) = some u := by
  intro j u hj
  rw [add_plainT, Nat.zero_add]
  obtain ⟨hjl, e⟩ := List.getElem?_eq_some_iff.1 hj
  have hjl' : j < xs.length := by simpa [ivs] using hjl
  have hlt := World.block_lt_of_cell? w _ (hce j hjl')
  rw [(below_alloc w _).cell (p := ⟨g, j, none⟩) hlt, hce j hjl', ← e]
  simp [ivs]
theorem intsA_atV {w : World} {B : Nat} {v : Value} {xs : List Int} (h : IntsA w B v xs) (h1 : 1 ≤ xs.length) :
    ∃ g cap, v = .slice (some ⟨g, 0, none⟩) xs.length cap ∧ xs.length ≤ cap ∧ cap ≤ 9223372036854775807 ∧ B ≤ g ∧ g < w.heap.size ∧ (∀ i (hi : i < xs.length), w.cell? ⟨g, i, none⟩ = some (.int .i64 xs[i])) := by
  rcases intsA_open h with ⟨rfl, rfl⟩ | ⟨g, cap, E, rest, rfl, hB, hg, _, _, hcp, hcc, hce⟩
  · simp at h1
  · exact ⟨g, cap, rfl, hcc, hcp, hB, hg, hce⟩
theorem intsA_sliceV {w : World} {B : Nat} {v : Value} {xs : List Int} (h : IntsA w B v xs) : ∃ a cap, v = .slice a xs.length cap ∧ cap ≤ 9223372036854775807 ∧ xs.length ≤ 9223372036854775807 := by
  rcases intsA_open h with ⟨rfl, rfl⟩ | ⟨g, cap, E, rest, rfl, hB, hg, _, hn, hcp, hcc, hce⟩
  · exact ⟨_, 0, rfl, by omega, by simp⟩
  · exact ⟨_, _, rfl, hcp, hn⟩
/-- What a call that gives texts leaves. -/
def TextsOk (ls : List (List UInt8)) (w w' : World) (e : Ending) : Prop :=
  ∃ g c, e = .returned (.slice (some ⟨g, 0, none⟩) ls.length c) ∧ w'.ownsRow w.heap.size 9 1 (.slice (some ⟨g, 0, none⟩) ls.length c) ls.length (strVs ls) ∧ Below w.heap.size w w'
theorem strs_news {w : World} {B g n c : Nat} {ls : List (List UInt8)} (h : w.ownsRow B 9 1 (.slice (some ⟨g, 0, none⟩) n c) n (strVs ls)) (hn : n = ls.length) : ∀ j u, (strVs ls)[j]? = some u → w.cell? ((⟨g, 0, none⟩ : Addr).add j) = some u := by
  intro j u hj
  rw [add_plainT, Nat.zero_add]
  obtain ⟨hjl, e⟩ := List.getElem?_eq_some_iff.1 hj
  have hjl' : j < ls.length := by simpa [strVs] using hjl
  rw [strs_cells h hn j hjl', ← e]
  simp [strVs]
theorem strs_one (ls : List (List UInt8)) : ∀ u ∈ strVs ls, u.oneCell' = true := by
  intro u hu
  simp only [strVs, List.mem_map] at hu
  obtain ⟨l, _, rfl⟩ := hu
  rfl
end Go.Proofs.Ytaagfcdniacmnab
