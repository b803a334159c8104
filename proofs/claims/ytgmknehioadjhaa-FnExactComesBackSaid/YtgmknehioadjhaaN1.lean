/- The table of the elements from a word, in the order of finding: plain lists. -/
import Derived.Test.YtgmknehioadjhaaK11
import Derived.Test.YtgmknehioadjhaaK12
namespace Go.Proofs.Ytgmknehioadjhaa
open Go.RowKit Go.BigFrame
set_option linter.unusedSimpArgs false
set_option linter.unusedVariables false
set_option maxRecDepth 4000

/-- The place of a text among names. -/
def posN (p : List UInt8) (ns : List (List UInt8)) : Nat := posB (bs p) (ns.map bs)
def addN (ns : List (List UInt8)) (p : List UInt8) : List (List UInt8) := if posN p ns < ns.length then ns else ns ++ [p]
def nmT : List (List UInt8) → List (List UInt8) → List (List UInt8)
  | ns, [] => ns
  | ns, p :: r => nmT (addN ns p) r
theorem nmT_snoc : ∀ (ps ns : List (List UInt8)) (p : List UInt8), nmT ns (ps ++ [p]) = addN (nmT ns ps) p
  | [], _, _ => rfl
  | q :: ps, ns, p => nmT_snoc ps (addN ns q) p
def ixT : List (List UInt8) → List (List UInt8) → List Nat
  | _, [] => []
  | ns, p :: r => posN p ns :: ixT (addN ns p) r
theorem ixT_snoc : ∀ (ps ns : List (List UInt8)) (p : List UInt8), ixT ns (ps ++ [p]) = ixT ns ps ++ [posN p (nmT ns ps)]
  | [], _, _ => rfl
  | q :: ps, ns, p => by simp only [List.cons_append, ixT, nmT, ixT_snoc ps (addN ns q) p]
theorem ixT_len : ∀ (ps ns : List (List UInt8)), (ixT ns ps).length = ps.length
  | [], _ => rfl
  | q :: ps, ns => by simp [ixT, ixT_len ps (addN ns q)]
theorem addN_len (ns : List (List UInt8)) (p : List UInt8) : ns.length ≤ (addN ns p).length ∧ (addN ns p).length ≤ ns.length + 1 := by
  unfold addN; split
  · omega
  · simp
theorem nmT_len : ∀ (ps ns : List (List UInt8)), ns.length ≤ (nmT ns ps).length ∧ (nmT ns ps).length ≤ ns.length + ps.length
  | [], ns => by simp [nmT]
  | q :: ps, ns => by
    have h1 := addN_len ns q; have h2 := nmT_len ps (addN ns q)
    simp only [nmT, List.length_cons]; omega
theorem nmT_take_le (ns ps : List (List UInt8)) (j : Nat) : (nmT ns (ps.take j)).length ≤ (nmT ns ps).length := by
  have e : ∀ (a b n : List (List UInt8)), nmT n (a ++ b) = nmT (nmT n a) b := by
    intro a
    induction a with
    | nil => intro b n; rfl
    | cons q a ih => intro b n; exact ih b (addN n q)
  have h := e (ps.take j) (ps.drop j) ns
  rw [List.take_append_drop] at h
  rw [h]
  exact (nmT_len _ _).1
theorem mem_addN {ns : List (List UInt8)} {p x : List UInt8} (h : x ∈ addN ns p) : x ∈ ns ∨ x = p := by
  unfold addN at h
  split at h
  · exact .inl h
  · simpa using h
theorem mem_nmT : ∀ {ps ns : List (List UInt8)} {x : List UInt8}, x ∈ nmT ns ps → x ∈ ns ∨ x ∈ ps
  | [], _, _, h => .inl h
  | q :: ps, ns, x, h => by
    rcases mem_nmT (ps := ps) h with h1 | h1
    · rcases mem_addN h1 with h2 | h2
      · exact .inl h2
      · exact .inr (by simp [h2])
    · exact .inr (by simp [h1])
theorem posN_le (p : List UInt8) (ns : List (List UInt8)) : posN p ns ≤ ns.length := by
  unfold posN
  have : ∀ l : List ByteArray, posB (bs p) l ≤ l.length := by
    intro l
    induction l with
    | nil => exact Nat.le_refl _
    | cons a r ih => unfold posB; split <;> simp <;> omega
  have h := this (ns.map bs)
  simpa using h
theorem posN_mem {p : List UInt8} : ∀ {ns : List (List UInt8)}, posN p ns < ns.length ↔ p ∈ ns
  | [] => by simp [posN, posB]
  | a :: r => by
    have ih := posN_mem (p := p) (ns := r)
    unfold posN at ih ⊢
    simp only [List.map_cons, posB, List.length_cons, List.mem_cons]
    by_cases e : bs a = bs p
    · rw [if_pos e]; simp [bs_inj e]
    · rw [if_neg e]
      constructor
      · intro h; exact .inr (ih.1 (by omega))
      · rintro (h | h)
        · exact absurd (by rw [h]) e
        · have := ih.2 h; omega
theorem posN_old {p : List UInt8} {ns : List (List UInt8)} (q : List UInt8) (h : p ∈ ns) : posN p (ns ++ [q]) = posN p ns := by
  unfold posN
  induction ns with
  | nil => simp at h
  | cons a r ih =>
    simp only [List.map_cons, List.cons_append, posB]
    by_cases e : bs a = bs p
    · rw [if_pos e, if_pos e]
    · rw [if_neg e, if_neg e]
      rcases List.mem_cons.1 h with h1 | h1
      · exact absurd (by rw [h1]) e
      · rw [ih h1]
theorem posN_new {p : List UInt8} {ns : List (List UInt8)} (h : ¬ posN p ns < ns.length) : posN p ns = ns.length := by
  have := posN_le p ns; omega
theorem posN_last {p : List UInt8} {ns : List (List UInt8)} (h : ¬ posN p ns < ns.length) : posN p (ns ++ [p]) = ns.length := by
  have hno : p ∉ ns := fun hm => h (posN_mem.2 hm)
  unfold posN
  clear h
  induction ns with
  | nil => simp [posB]
  | cons a r ih =>
    simp only [List.map_cons, List.cons_append, posB]
    rw [if_neg (fun e => hno (by rw [bs_inj e]; simp)), ih (fun hm => hno (by simp [hm]))]
    simp

/-- Each name can be said, and is short. -/
def NmOk (ns : List (List UInt8)) : Prop := ∀ p ∈ ns, sayB p = true ∧ p.length ≤ 60
def bigP (ps : List (List UInt8)) : Bool := ps.any fun p => decide (60 < p.length)
theorem bigP_no {ps : List (List UInt8)} (h : bigP ps = false) : ∀ p ∈ ps, p.length ≤ 60 := fun p hp => by
  unfold bigP at h
  rw [List.any_eq_false] at h
  have := h p hp
  simp at this; omega
/-- The parts of what is said of a name. -/
def sdP (p : List UInt8) : List (List UInt8) := partsL (sayL p)
def runF : Nat → Nat → List (List UInt8) → Option (List (List UInt8))
  | 0, _, _ => none
  | f + 1, k, ns =>
    if h : k < ns.length then
      if bigP (sdP ns[k]) = true then none
      else if 200 < (nmT ns (sdP ns[k])).length then none
      else runF f (k + 1) (nmT ns (sdP ns[k]))
    else some ns
def tabF (w : List UInt8) : Option (List (List UInt8)) := runF 201 0 (nmT [] (partsL w))
theorem runF_end {f k : Nat} {ns : List (List UInt8)} (h : ¬ k < ns.length) : runF (f + 1) k ns = some ns := by rw [runF, dif_neg h]
theorem runF_big {f k : Nat} {ns : List (List UInt8)} (h : k < ns.length) (hb : bigP (sdP ns[k]) = true) : runF (f + 1) k ns = none := by rw [runF, dif_pos h, if_pos hb]
theorem runF_many {f k : Nat} {ns : List (List UInt8)} (h : k < ns.length) (hb : 200 < (nmT ns (sdP ns[k])).length) : runF (f + 1) k ns = none := by
  rw [runF, dif_pos h, if_pos hb]; split <;> rfl
theorem runF_on {f k : Nat} {ns : List (List UInt8)} (h : k < ns.length) (hb : bigP (sdP ns[k]) = false) (h2 : ¬ 200 < (nmT ns (sdP ns[k])).length) : runF (f + 1) k ns = runF f (k + 1) (nmT ns (sdP ns[k])) := by
  rw [runF, dif_pos h, if_neg (by rw [hb]; simp), if_neg h2]

/-! ### parts -/
theorem longL_take_le (l : List UInt8) (n : Nat) (h : sayB l = true) (h0 : 0 < n) (hn : n ≤ l.length) : sayB (l.take n) = true := by
  obtain ⟨h1, h2, h3⟩ := sayB_iff.1 h
  refine sayB_iff.2 ⟨?_, all_take h2 n, Nat.le_trans (longL_take l n) h3⟩
  intro e; have := congrArg List.length e; simp at this
  rcases this with h | h
  · omega
  · exact h1 h
theorem cutsL_mem {l : List UInt8} (hl : sayB l = true) : ∀ (ps : List Nat) (f : Nat), (f :: ps).Pairwise (· < ·) → (∀ p ∈ ps, p ≤ l.length) → ∀ x ∈ cutsL l f ps, sayB x = true ∧ x.length ≤ l.length
  | [], _, _, _, x, hx => by simp [cutsL] at hx
  | p :: ps, f, hs, hp, x, hx => by
    simp only [cutsL, List.mem_cons] at hx
    rcases hx with rfl | hx
    · have hfp : f < p := (List.pairwise_cons.1 hs).1 p (by simp)
      have hpl := hp p (by simp)
      refine ⟨longL_take_le _ _ (sayB_drop hl (by omega)) (by omega) (by simp; omega), by simp; omega⟩
    · exact cutsL_mem hl ps p (List.pairwise_cons.1 hs).2 (fun q hq => hp q (by simp [hq])) x hx
theorem parts_ok {l : List UInt8} (hl : sayB l = true) : ∀ x ∈ partsL l, sayB x = true ∧ x.length ≤ l.length := by
  have hne := (sayB_iff.1 hl).1
  have hpos : 0 < l.length := Nat.pos_of_ne_zero (fun e => hne (List.eq_nil_of_length_eq_zero e))
  refine cutsL_mem hl _ 0 ?_ ?_
  · rw [List.pairwise_cons]
    refine ⟨fun p hp => ?_, ?_⟩
    · rw [List.mem_append] at hp
      rcases hp with hp | hp
      · have := (splits_lt l l.length p hp).1; omega
      · simp at hp; omega
    · rw [List.pairwise_append]
      refine ⟨splits_sorted _ _, by simp, fun a ha b hb => ?_⟩
      simp at hb; subst hb
      exact (splits_lt _ _ a ha).2
  · intro p hp
    rw [List.mem_append] at hp
    rcases hp with hp | hp
    · have := (splits_lt l l.length p hp).2; omega
    · simp at hp; omega
theorem parts_len {l : List UInt8} (hl : sayB l = true) : (partsL l).length ≤ l.length + 1 := by
  rw [partsL_len]
  have := splitsTo_len l l.length
  unfold splitsL; omega
theorem say_len {p : List UInt8} (h : sayB p = true) : (sayL p).length ≤ 2 * p.length := by
  have := sayN_len h 1
  simpa [sayN] using this
theorem sd_ok {p : List UInt8} (h : sayB p = true) (hl : p.length ≤ 60) : (∀ x ∈ sdP p, sayB x = true) ∧ (sdP p).length ≤ 121 ∧ sayB (sayL p) = true ∧ (sayL p).length ≤ 120 := by
  have h1 := sayB_say h; have h2 := say_len h; have h3 := parts_len h1
  exact ⟨fun x hx => (parts_ok h1 x hx).1, by unfold sdP; omega, h1, by omega⟩
theorem nmOk_take {ns ps : List (List UInt8)} (h : NmOk ns) (hp : ∀ x ∈ ps, sayB x = true) (hs : ∀ x ∈ ps, x.length ≤ 60) : NmOk (nmT ns ps) := fun x hx => by
  rcases mem_nmT hx with h1 | h1
  · exact h x h1
  · exact ⟨hp x h1, hs x h1⟩
end Go.Proofs.Ytgmknehioadjhaa
