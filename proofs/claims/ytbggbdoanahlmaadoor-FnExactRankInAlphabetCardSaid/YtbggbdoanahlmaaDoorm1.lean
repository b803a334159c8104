/- Chapter 8 (pure): names of numbers, their words and letters. -/
import Derived.Test.YtbggbdoanahlmaaDoorB
import Derived.Lib.Join
namespace Go.Proofs.YtbggbdoanahlmaaDoor
open Go.RowKit
set_option linter.unusedSimpArgs false
set_option linter.unusedVariables false
set_option maxRecDepth 4000

def smT : List (List UInt8) := [[122, 101, 114, 111], [111, 110, 101], [116, 119, 111], [116, 104, 114, 101, 101], [102, 111, 117, 114], [102, 105, 118, 101], [115, 105, 120], [115, 101, 118, 101, 110], [101, 105, 103, 104, 116], [110, 105, 110, 101], [116, 101, 110], [101, 108, 101, 118, 101, 110], [116, 119, 101, 108, 118, 101], [116, 104, 105, 114, 116, 101, 101, 110], [102, 111, 117, 114, 116, 101, 101, 110], [102, 105, 102, 116, 101, 101, 110], [115, 105, 120, 116, 101, 101, 110], [115, 101, 118, 101, 110, 116, 101, 101, 110], [101, 105, 103, 104, 116, 101, 101, 110], [110, 105, 110, 101, 116, 101, 101, 110]]
def tnT : List (List UInt8) := [[116, 119, 101, 110, 116, 121], [116, 104, 105, 114, 116, 121], [102, 111, 114, 116, 121], [102, 105, 102, 116, 121], [115, 105, 120, 116, 121], [115, 101, 118, 101, 110, 116, 121], [101, 105, 103, 104, 116, 121], [110, 105, 110, 101, 116, 121]]
def hundredL : List UInt8 := [104, 117, 110, 100, 114, 101, 100]
def thousandL : List UInt8 := [116, 104, 111, 117, 115, 97, 110, 100]
def smN (n : Nat) : List UInt8 := smT.getD n []
/-- The name of k tens. -/
def tnN (k : Nat) : List UInt8 := tnT.getD (k - 2) []
def wd100 (n : Nat) : List UInt8 := if n < 20 then smN n else if n % 10 = 0 then tnN (n / 10) else tnN (n / 10) ++ [45] ++ smN (n % 10)
def wd1000 (n : Nat) : List (List UInt8) := if n < 100 then [wd100 n] else [smN (n / 100), hundredL] ++ (if n % 100 = 0 then [] else [wd100 (n % 100)])
def wdsN (n : Nat) : List (List UInt8) := if n < 1000 then wd1000 n else wd1000 (n / 1000) ++ [thousandL] ++ (if n % 1000 = 0 then [] else wd1000 (n % 1000))
/-- Words with blanks between them. -/
def joinS : List (List UInt8) → List UInt8
  | [] => []
  | [a] => a
  | a :: b :: t => a ++ [32] ++ joinS (b :: t)
def nm1000 (n : Nat) : List UInt8 := if n < 100 then wd100 n else smN (n / 100) ++ [32] ++ hundredL ++ (if n % 100 = 0 then [] else [32] ++ wd100 (n % 100))
def nmN (n : Nat) : List UInt8 := if n < 1000 then nm1000 n else nm1000 (n / 1000) ++ [32] ++ thousandL ++ (if n % 1000 = 0 then [] else [32] ++ nm1000 (n % 1000))
def azB (c : UInt8) : Bool := decide (97 ≤ c.toNat ∧ c.toNat ≤ 122)
def ltN (n : Nat) : List UInt8 := (nmN n).filter azB

theorem joinS_append (a b : List (List UInt8)) (ha : a ≠ []) (hb : b ≠ []) : joinS (a ++ b) = joinS a ++ [32] ++ joinS b := by
  induction a with
  | nil => exact absurd rfl ha
  | cons x t ih =>
    cases t with
    | nil =>
      cases b with
      | nil => exact absurd rfl hb
      | cons y s => rfl
    | cons z t =>
      have := ih (by simp)
      simp only [List.cons_append, joinS] at this ⊢
      rw [this]; simp
theorem lib_joinS : ∀ ns : List (List UInt8), Go.Lib.join ns [32] = joinS ns
  | [] => rfl
  | [a] => by simp [Go.Lib.join, joinS]
  | a :: b :: t => by
    have := lib_joinS (b :: t)
    simp [Go.Lib.join, joinS] at this ⊢
    rw [this]
theorem lib_join0 : ∀ ns : List (List UInt8), Go.Lib.join ns [] = ns.flatten
  | [] => rfl
  | [a] => by simp [Go.Lib.join]
  | a :: b :: t => by
    have := lib_join0 (b :: t)
    simp [Go.Lib.join] at this ⊢
    rw [this]
theorem wd1000_ne (n : Nat) : wd1000 n ≠ [] := by unfold wd1000; split <;> simp
theorem wdsN_ne (n : Nat) : wdsN n ≠ [] := by unfold wdsN; split; exact wd1000_ne n; simp
theorem join1000 (n : Nat) : joinS (wd1000 n) = nm1000 n := by
  unfold wd1000 nm1000
  split
  · rfl
  · split
    · simp [joinS]
    · simp [joinS]
theorem joinN (n : Nat) : joinS (wdsN n) = nmN n := by
  unfold wdsN nmN
  split
  · exact join1000 n
  · rw [List.append_assoc, joinS_append _ _ (wd1000_ne _) (by simp), join1000]
    split
    · simp [joinS]
    · rw [joinS_append _ _ (by simp) (wd1000_ne _), join1000]; simp [joinS]

/-- A word: of letters and '-', neither empty nor long. -/
def wordB (l : List UInt8) : Bool := decide (1 ≤ l.length ∧ l.length ≤ 13) && l.all (fun c => azB c || c == 45)
theorem smN_word : ∀ n, n < 20 → wordB (smN n) = true := by decide +kernel
theorem wd100_word : ∀ n, n < 100 → wordB (wd100 n) = true := by decide +kernel
theorem smN_len : ∀ n, n < 20 → 1 ≤ (smN n).length ∧ (smN n).length ≤ 9 := by decide +kernel
theorem smN_len10 : ∀ n, n < 10 → 1 ≤ (smN n).length ∧ (smN n).length ≤ 5 := by decide +kernel
theorem tnN_len : ∀ n, n < 10 → (tnN n).length ≤ 7 := by decide +kernel
theorem wd1000_word (n : Nat) (h : n < 1000) : ∀ x ∈ wd1000 n, wordB x = true := by
  intro x hx
  unfold wd1000 at hx
  split at hx
  · rename_i h1
    simp at hx; subst hx
    exact wd100_word n h1
  · simp only [List.mem_append, List.mem_cons, List.not_mem_nil, or_false] at hx
    rcases hx with (rfl | rfl) | hx
    · exact smN_word _ (by omega)
    · rfl
    · split at hx
      · simp at hx
      · simp at hx; subst hx
        exact wd100_word _ (Nat.mod_lt _ (by decide))
theorem wdsN_word (n : Nat) (h : n < 1000000) : ∀ x ∈ wdsN n, wordB x = true := by
  intro x hx
  unfold wdsN at hx
  split at hx
  · rename_i h1
    exact wd1000_word n h1 x hx
  · simp only [List.mem_append, List.mem_cons, List.not_mem_nil, or_false] at hx
    rcases hx with (hx | rfl) | hx
    · exact wd1000_word _ (by omega) x hx
    · rfl
    · split at hx
      · simp at hx
      · exact wd1000_word _ (Nat.mod_lt _ (by decide)) x hx
theorem wd1000_len (n : Nat) : (wd1000 n).length ≤ 3 := by
  unfold wd1000; split
  · simp
  · split <;> simp
theorem wdsN_len (n : Nat) : (wdsN n).length ≤ 7 := by
  have h1 := wd1000_len n
  have h2 := wd1000_len (n / 1000)
  have h3 := wd1000_len (n % 1000)
  unfold wdsN; split
  · omega
  · split <;> simp <;> omega
theorem wd100_len (n : Nat) (h : n < 100) : (wd100 n).length ≤ 13 := by
  have := wd100_word n h
  unfold wordB at this
  simp only [Bool.and_eq_true, decide_eq_true_eq] at this
  exact this.1.2
theorem nm1000_len (n : Nat) (h : n < 1000) : (nm1000 n).length ≤ 27 := by
  unfold nm1000
  split
  · rename_i h1
    have := wd100_len n h1; omega
  · have h1 := (smN_len10 (n / 100) (by omega)).2
    have h2 := wd100_len (n % 100) (Nat.mod_lt _ (by decide))
    simp only [List.length_append]
    have h3 : hundredL.length = 7 := rfl
    have h4 : ([32] : List UInt8).length = 1 := rfl
    split <;> simp only [List.length_append, List.length_nil] <;> omega
theorem nmN_len (n : Nat) (h : n < 1000000) : (nmN n).length ≤ 64 := by
  unfold nmN
  split
  · rename_i h1
    have := nm1000_len n h1; omega
  · have h1 := nm1000_len (n / 1000) (by omega)
    have h2 := nm1000_len (n % 1000) (Nat.mod_lt _ (by decide))
    simp only [List.length_append]
    have h3 : thousandL.length = 8 := rfl
    have h4 : ([32] : List UInt8).length = 1 := rfl
    split <;> simp only [List.length_append, List.length_nil] <;> omega
theorem ltN_len (n : Nat) (h : n < 1000000) : (ltN n).length ≤ 64 := Nat.le_trans (List.length_filter_le _ _) (nmN_len n h)
/-- The words without '-', one behind the other, are the letters of the name. -/
theorem filter_join (p : UInt8 → Bool) (hp : p 32 = false) : ∀ ns : List (List UInt8), (joinS ns).filter p = ns.flatten.filter p
  | [] => rfl
  | [a] => by simp [joinS]
  | a :: b :: t => by
    have := filter_join p hp (b :: t)
    simp only [joinS, List.filter_append, this]
    simp [hp]
theorem word_filter {x : List UInt8} (h : wordB x = true) : x.filter (fun c => c != 45) = x.filter azB := by
  unfold wordB at h
  simp only [Bool.and_eq_true, List.all_eq_true] at h
  refine List.filter_congr fun c hc => ?_
  have := h.2 c hc
  by_cases h45 : c = 45
  · subst h45; rfl
  · have h1 : (c == 45) = false := by simpa using h45
    rw [h1, Bool.or_false] at this
    rw [this]
    simpa using h45
theorem flat_filter : ∀ ns : List (List UInt8), (∀ x ∈ ns, wordB x = true) → ns.flatten.filter (fun c => c != 45) = ns.flatten.filter azB
  | [], _ => rfl
  | a :: t, h => by
    rw [List.flatten_cons, List.filter_append, List.filter_append, word_filter (h a (by simp)), flat_filter t (fun x hx => h x (by simp [hx]))]
theorem letters_of (n : Nat) (h : n < 1000000) : (wdsN n).flatten.filter (fun c => c != 45) = ltN n := by
  rw [flat_filter _ (wdsN_word n h), ltN, ← joinN, filter_join _ (by decide)]
theorem ltN_all (n : Nat) : ∀ c ∈ ltN n, 97 ≤ c.toNat ∧ c.toNat ≤ 122 := by
  intro c hc
  have := (List.mem_filter.1 hc).2
  simpa [azB] using this
theorem flat_len : ∀ ns : List (List UInt8), (∀ x ∈ ns, wordB x = true) → ns.flatten.length ≤ 13 * ns.length
  | [], _ => Nat.le_refl _
  | a :: t, h => by
    have h1 := flat_len t (fun x hx => h x (by simp [hx]))
    have h2 := h a (by simp)
    unfold wordB at h2
    simp only [Bool.and_eq_true, decide_eq_true_eq] at h2
    rw [List.flatten_cons, List.length_append, List.length_cons]
    omega
theorem wdsN_flat (n : Nat) (h : n < 1000000) : (wdsN n).flatten.length ≤ 91 := by
  have := flat_len _ (wdsN_word n h)
  have := wdsN_len n
  omega
end Go.Proofs.YtbggbdoanahlmaaDoor
