/- Chapter 8 (pure): names read: words added up. -/
import Derived.Test.YtbggbdoanahlmaaDoorm1
namespace Go.Proofs.YtbggbdoanahlmaaDoor
open Go.RowKit
set_option linter.unusedSimpArgs false
set_option linter.unusedVariables false
set_option maxRecDepth 4000

/-- The place of a word in a list; none if it is not there. -/
def plcF (x : List UInt8) : List (List UInt8) → Nat → Option Nat
  | [], _ => none
  | a :: t, i => if a = x then some i else plcF x t (i + 1)
/-- What a word adds. -/
def worthN (x : List UInt8) : Nat := match plcF x smT 0 with
  | some n => n
  | none => match plcF x tnT 0 with
    | some k => 20 + 10 * k
    | none => 0
def wrapI (z : Int) : Int := IntKind.i64.wrap z
/-- One word more: thousands and what stands behind them. -/
def addW (p : Int × Int) (x : List UInt8) : Int × Int :=
  if x = thousandL then (wrapI (p.2 * 1000), 0) else if x = hundredL then (p.1, wrapI (p.2 * 100)) else (p.1, wrapI (p.2 + (worthN x : Int)))
/-- The pieces of names: words cut at '-'. -/
def pc100 (n : Nat) : List (List UInt8) := if n < 20 then [smN n] else if n % 10 = 0 then [tnN (n / 10)] else [tnN (n / 10), smN (n % 10)]
def pc1000 (n : Nat) : List (List UInt8) := if n < 100 then pc100 n else [smN (n / 100), hundredL] ++ (if n % 100 = 0 then [] else pc100 (n % 100))
def pcN (n : Nat) : List (List UInt8) := if n < 1000 then pc1000 n else pc1000 (n / 1000) ++ [thousandL] ++ (if n % 1000 = 0 then [] else pc1000 (n % 1000))
theorem pc100_ok : ∀ n, n < 100 → (∀ x ∈ pc100 n, x ≠ thousandL ∧ x ≠ hundredL) ∧ ((pc100 n).map worthN).sum = n := by decide +kernel
theorem smN_worth : ∀ n, n < 20 → worthN (smN n) = n ∧ smN n ≠ thousandL ∧ smN n ≠ hundredL := by decide +kernel
theorem wrapI_id (z : Int) (h0 : 0 ≤ z) (h : z ≤ 1000000000) : wrapI z = z := by unfold wrapI; rw [IntKind.wrap_i64]; omega
theorem fold_plain : ∀ (l : List (List UInt8)) (a : Int) (m : Nat), (∀ x ∈ l, x ≠ thousandL ∧ x ≠ hundredL) → m + (l.map worthN).sum ≤ 1000000000 → l.foldl addW (a, (m : Int)) = (a, ((m + (l.map worthN).sum : Nat) : Int))
  | [], a, m, _, _ => by simp
  | x :: t, a, m, h, hs => by
    have hx := h x (by simp)
    rw [List.map_cons, List.sum_cons] at hs ⊢
    rw [List.foldl_cons, show addW (a, (m : Int)) x = (a, ((m + worthN x : Nat) : Int)) from ?_, fold_plain t a (m + worthN x) (fun y hy => h y (by simp [hy])) (by omega)]
    · congr 2; omega
    · unfold addW
      rw [if_neg hx.1, if_neg hx.2]
      simp only
      rw [wrapI_id _ (by omega) (by omega)]; congr 1
theorem fold100 (n : Nat) (h : n < 100) (a : Int) (m : Nat) (hm : m ≤ 1000) : (pc100 n).foldl addW (a, (m : Int)) = (a, ((m + n : Nat) : Int)) := by
  obtain ⟨h1, h2⟩ := pc100_ok n h
  rw [fold_plain _ a m h1 (by omega), h2]
theorem fold1000 (n : Nat) (h : n < 1000) (a : Int) : (pc1000 n).foldl addW (a, 0) = (a, (n : Int)) := by
  unfold pc1000
  by_cases h1 : n < 100
  · rw [if_pos h1]
    have := fold100 n h1 a 0 (by omega)
    simpa using this
  · rw [if_neg h1, List.foldl_append]
    have h2 : [smN (n / 100), hundredL].foldl addW (a, 0) = (a, ((100 * (n / 100) : Nat) : Int)) := by
      obtain ⟨e1, e2, e3⟩ := smN_worth (n / 100) (by omega)
      simp only [List.foldl_cons, List.foldl_nil]
      rw [show addW (a, 0) (smN (n / 100)) = (a, ((n / 100 : Nat) : Int)) from ?_]
      · unfold addW
        rw [if_neg (by decide), if_pos rfl]
        simp only
        rw [wrapI_id _ (by omega) (by omega)]; congr 1; omega
      · unfold addW
        rw [if_neg e2, if_neg e3, e1]
        simp only
        rw [wrapI_id _ (by omega) (by omega)]; congr 1; omega
    rw [h2]
    by_cases h3 : n % 100 = 0
    · rw [if_pos h3]
      simp only [List.foldl_nil]
      congr 2; omega
    · rw [if_neg h3, fold100 (n % 100) (by omega) a _ (by omega)]
      congr 2; omega
theorem foldN (n : Nat) (h : n < 1000000) : (pcN n).foldl addW (0, 0) = (((n - n % 1000 : Nat) : Int) * (if n < 1000 then 0 else 1), ((n % 1000 : Nat) : Int)) := by
  unfold pcN
  by_cases h1 : n < 1000
  · rw [if_pos h1, if_pos h1, fold1000 n h1, Nat.mod_eq_of_lt h1]; simp
  · rw [if_neg h1, if_neg h1, List.foldl_append, List.foldl_append, fold1000 (n / 1000) (by omega)]
    rw [show [thousandL].foldl addW ((0 : Int), ((n / 1000 : Nat) : Int)) = (((n - n % 1000 : Nat) : Int) * 1, 0) from ?_]
    · by_cases h3 : n % 1000 = 0
      · rw [if_pos h3, h3]; rfl
      · rw [if_neg h3, fold1000 (n % 1000) (by omega)]
    · simp only [List.foldl_cons, List.foldl_nil]
      unfold addW
      rw [if_pos rfl]
      simp only
      rw [wrapI_id _ (by omega) (by omega)]; congr 1; omega
/-- The words of a name make its number. -/
theorem add_pcN (n : Nat) (h : n < 1000000) : wrapI (((pcN n).foldl addW (0, 0)).1 + ((pcN n).foldl addW (0, 0)).2) = (n : Int) := by
  rw [foldN n h]
  by_cases h1 : n < 1000
  · rw [if_pos h1]; simp only; rw [wrapI_id _ (by omega) (by omega)]; omega
  · rw [if_neg h1]; simp only; rw [wrapI_id _ (by omega) (by omega)]; omega
/-- A text cut at blanks and '-', without empty parts. -/
def cutG : List UInt8 → List UInt8 → List (List UInt8)
  | [], cur => if cur = [] then [] else [cur]
  | c :: t, cur => if c = 32 ∨ c = 45 then (if cur = [] then cutG t [] else cur :: cutG t []) else cutG t (cur ++ [c])
theorem cutG_word : ∀ (x t cur : List UInt8), (∀ c ∈ x, c ≠ 32 ∧ c ≠ 45) → cutG (x ++ t) cur = cutG t (cur ++ x)
  | [], t, cur, _ => by simp
  | c :: x, t, cur, h => by
    have hc := h c (by simp)
    rw [List.cons_append, cutG, if_neg (by simp [hc]), cutG_word x t (cur ++ [c]) (fun y hy => h y (by simp [hy]))]
    simp
/-- Texts whose cutting is known, whatever follows behind a sign that cuts. -/
def Cuts (x : List UInt8) (ps : List (List UInt8)) : Prop := cutG x [] = ps ∧ ∀ (c : UInt8) (t : List UInt8), c = 32 ∨ c = 45 → cutG (x ++ c :: t) [] = ps ++ cutG t []
theorem cuts_one (x : List UInt8) (hx : x ≠ []) (h : ∀ c ∈ x, c ≠ 32 ∧ c ≠ 45) : Cuts x [x] := by
  refine ⟨?_, fun c t hc => ?_⟩
  · have := cutG_word x [] [] h
    rw [List.append_nil] at this
    rw [this]; simp [cutG, hx]
  · rw [cutG_word x _ [] h, List.nil_append, cutG, if_pos hc, if_neg hx]; rfl
theorem cuts_two {x y : List UInt8} {ps qs : List (List UInt8)} (c : UInt8) (hc : c = 32 ∨ c = 45) (h1 : Cuts x ps) (h2 : Cuts y qs) : Cuts (x ++ [c] ++ y) (ps ++ qs) := by
  refine ⟨?_, fun d t hd => ?_⟩
  · rw [List.append_assoc, List.singleton_append, h1.2 c y hc, h2.1]
  · rw [List.append_assoc, List.append_assoc, List.singleton_append, h1.2 c _ hc, h2.2 d t hd, List.append_assoc]
def plainB (x : List UInt8) : Bool := !x.isEmpty && x.all (fun c => c != 32 && c != 45)
theorem cuts_plain {x : List UInt8} (h : plainB x = true) : Cuts x [x] := by
  unfold plainB at h
  simp only [Bool.and_eq_true, List.all_eq_true] at h
  refine cuts_one x (by intro e; subst e; simp at h) (fun c hc => ?_)
  have := h.2 c hc
  simpa using this
theorem smN_plain : ∀ n, n < 20 → plainB (smN n) = true := by decide +kernel
theorem tnN_plain : ∀ n, n < 10 → 2 ≤ n → plainB (tnN n) = true := by decide +kernel
theorem cuts100 (n : Nat) (h : n < 100) : Cuts (wd100 n) (pc100 n) := by
  unfold wd100 pc100
  split
  · rename_i h1; exact cuts_plain (smN_plain n h1)
  · split
    · exact cuts_plain (tnN_plain _ (by omega) (by omega))
    · exact cuts_two (ps := [tnN (n / 10)]) (qs := [smN (n % 10)]) 45 (.inr rfl) (cuts_plain (tnN_plain _ (by omega) (by omega))) (cuts_plain (smN_plain _ (by omega)))
theorem cuts1000 (n : Nat) (h : n < 1000) : Cuts (nm1000 n) (pc1000 n) := by
  unfold nm1000 pc1000
  split
  · rename_i h1; exact cuts100 n h1
  · have h1 : Cuts (smN (n / 100) ++ [32] ++ hundredL) [smN (n / 100), hundredL] := cuts_two (ps := [smN (n / 100)]) (qs := [hundredL]) 32 (.inl rfl) (cuts_plain (smN_plain _ (by omega))) (cuts_plain rfl)
    split
    · simpa using h1
    · rw [← List.append_assoc]
      exact cuts_two 32 (.inl rfl) h1 (cuts100 _ (by omega))
theorem cutsN (n : Nat) (h : n < 1000000) : Cuts (nmN n) (pcN n) := by
  unfold nmN pcN
  split
  · rename_i h1; exact cuts1000 n h1
  · have h1 : Cuts (nm1000 (n / 1000) ++ [32] ++ thousandL) (pc1000 (n / 1000) ++ [thousandL]) := cuts_two 32 (.inl rfl) (cuts1000 _ (by omega)) (cuts_plain rfl)
    split
    · simpa using h1
    · rw [← List.append_assoc]
      exact cuts_two 32 (.inl rfl) h1 (cuts1000 _ (by omega))
/-- The parts of a name make its number: so no two numbers have one name. -/
theorem add_name (n : Nat) (h : n < 1000000) : wrapI (((cutG (nmN n) []).foldl addW (0, 0)).1 + ((cutG (nmN n) []).foldl addW (0, 0)).2) = (n : Int) := by
  rw [(cutsN n h).1]; exact add_pcN n h
theorem nmN_inj {n m : Nat} (hn : n < 1000000) (hm : m < 1000000) (h : nmN n = nmN m) : n = m := by
  have h1 := add_name n hn
  rw [h, add_name m hm] at h1
  omega
theorem nmN_ascii (n : Nat) (h : n < 1000000) : ∀ c ∈ nmN n, c.toNat < 128 := by
  have hw : ∀ ns : List (List UInt8), (∀ x ∈ ns, wordB x = true) → ∀ c ∈ joinS ns, c.toNat < 128 := by
    intro ns
    induction ns with
    | nil => intro _ c hc; simp [joinS] at hc
    | cons a t ih =>
      intro hx c hc
      have ha := hx a (by simp)
      have hA : ∀ c ∈ a, c.toNat < 128 := by
        intro c hc
        unfold wordB at ha
        simp only [Bool.and_eq_true, List.all_eq_true] at ha
        have := ha.2 c hc
        simp only [Bool.or_eq_true, azB, decide_eq_true_eq, beq_iff_eq] at this
        rcases this with h | h
        · omega
        · subst h; decide
      cases t with
      | nil => exact hA c (by simpa [joinS] using hc)
      | cons b t =>
        simp only [joinS, List.mem_append, List.mem_cons, List.not_mem_nil, or_false] at hc
        rcases hc with (hc | rfl) | hc
        · exact hA c hc
        · decide
        · exact ih (fun x h => hx x (by simp [h])) c hc
  rw [← joinN]
  exact hw _ (wdsN_word n h)
end Go.Proofs.YtbggbdoanahlmaaDoor
