/- Inventories made again and again: pure facts; the library's Index at texts; the model's taWay. -/
import Derived.Test.YtaagfcdniacmnabT3
import Derived.Test.YtaagfcdniacmnabT13
import Derived.Test.YtaagfcdniacmnabT9
namespace Go.Proofs.Ytaagfcdniacmnab
open Go.RowKit Go.BigFrame
set_option linter.unusedSimpArgs false
set_option linter.unusedVariables false
set_option maxRecDepth 4000

/-- The number of an inventory. -/
def cdI (m : List UInt8) : Nat := code9 ((toldF 0 zeros9 m).getD [])
theorem invO_told {l m : List UInt8} (h : invO l = some m) : toldF 0 zeros9 m = some (tal l) ∧ ∀ n ∈ tal l, n ≤ 9 := by
  unfold invO at h
  split at h
  · rename_i hh
    have hok : ∀ n ∈ tal l, n ≤ 9 := fun n hn => by simpa using List.all_eq_true.1 hh.2 n hn
    refine ⟨?_, hok⟩
    rw [← Option.some.inj h, invT_prF (tal_len l), told_of_pr (tal l) 0 0 zeros9 (Nat.le_refl _) (by rw [tal_len]) rfl (fun i _ hi => zeros9_get i hi) hok]
    rfl
  · cases h
theorem cdI_lt {l m : List UInt8} (h : invO l = some m) : cdI m < 1000000000 := by
  obtain ⟨h1, h2⟩ := invO_told h
  unfold cdI
  rw [h1]
  have := code9_lt (tal l) h2
  rw [tal_len] at this
  exact this
theorem cdI_inj {a b u v : List UInt8} (ha : invO a = some u) (hb : invO b = some v) (h : cdI u = cdI v) : u = v := by
  obtain ⟨h1, h2⟩ := invO_told ha
  obtain ⟨k1, k2⟩ := invO_told hb
  unfold cdI at h
  rw [h1, k1] at h
  have e := code9_inj (tal a) (tal b) (by rw [tal_len, tal_len]) h2 k2 h
  unfold invO at ha hb
  split at ha
  · split at hb
    · rw [← Option.some.inj ha, ← Option.some.inj hb, e]
    · cases hb
  · cases ha
theorem wayI_len {x0 x : List UInt8} {way : List (List UInt8)} (h : Way invO x0 way x) : way.length ≤ 1000000001 :=
  way_len h cdI 1000000000 (fun a b u v ha hb e => cdI_inj ha hb e) (fun a u ha => cdI_lt ha)

theorem idx_at {α : Type} [DecidableEq α] (x : α) : ∀ (l : List α) (k : Nat) (hk : k < l.length), l[k] = x → (∀ j (hj : j < l.length), j < k → l[j] ≠ x) → x ∈ l ∧ posL x l = k
  | [], k, hk, _, _ => by simp at hk
  | a :: r, 0, _, h, _ => by
    simp at h; subst h
    exact ⟨List.mem_cons_self, by simp [posL]⟩
  | a :: r, k + 1, hk, h, hn => by
    have h0 : a ≠ x := hn 0 (by simp) (by omega)
    obtain ⟨h1, h2⟩ := idx_at x r k (by simpa using hk) (by simpa using h) (fun j hj hjk => hn (j + 1) (by simpa using hj) (by omega))
    exact ⟨List.mem_cons_of_mem _ h1, by unfold posL; rw [if_neg h0, h2]⟩
theorem idx_none {α : Type} {x : α} {l : List α} (h : ∀ j (hj : j < l.length), l[j] ≠ x) : x ∉ l := by
  intro hm
  obtain ⟨i, hi, e⟩ := List.mem_iff_getElem.1 hm
  exact h i hi e
/-- Where a text stands, or -1. -/
def idxI (xs : List (List UInt8)) (x : List UInt8) : Int := if x ∈ xs then (posL x xs : Int) else -1
theorem bs_beq (x y : List UInt8) : ((bs x).toList == (bs y).toList) = decide (x = y) := by
  rw [bytes_toListT, bytes_toListT, bs_list, bs_list]
  by_cases h : x = y
  · rw [h]; simp
  · rw [decide_eq_false h, beq_eq_false_iff_ne]; exact h
theorem strs_cells {w : World} {B g cap n : Nat} {ls : List (List UInt8)} (h : w.ownsRow B 9 1 (.slice (some ⟨g, 0, none⟩) n cap) n (strVs ls)) (hn : n = ls.length) (k : Nat) (hk : k < ls.length) : w.cell? ⟨g, k, none⟩ = some (.string (bs ls[k])) := by
  rw [h.cellAt k (by omega)]
  simp [strVs, hk]

/-- The way and the place of what comes again, and true; or nothing and false. -/
def LoopOk (o : Option (List (List UInt8) × Nat)) (w w' : World) (e : Ending) : Prop :=
  ∃ v, e = .returned (.tuple #[v, .int .i64 (o.getD ([], 0)).2, .bool o.isSome]) ∧ w'.ownsRow w.heap.size 9 1 v (o.getD ([], 0)).1.length (strVs (o.getD ([], 0)).1) ∧ Below w.heap.size w w' ∧ (o = none → v = .slice none 0 0) ∧ (o ≠ none → (o.getD ([], 0)).2 < (o.getD ([], 0)).1.length ∧ (o.getD ([], 0)).1.length ≤ 2000000000)
def lenV : Value → Nat
  | .slice _ n _ => n
  | _ => 0
theorem loopF_step {K m : Nat} {f : List UInt8 → Option (List UInt8)} {way : List (List UInt8)} {x : List UInt8} (hK : K = m + 1) (hx : x ∉ way) : loopF f K way x = match f x with | none => none | some y => loopF f m (way ++ [x]) y := by
  subst hK; rw [loopF, if_neg hx]; cases f x <;> rfl
theorem loopF_end {K m : Nat} {f : List UInt8 → Option (List UInt8)} {way : List (List UInt8)} {x : List UInt8} (hK : K = m + 1) (hx : x ∈ way) : loopF f K way x = some (way, posL x way) := by
  subst hK; rw [loopF, if_pos hx]

end Go.Proofs.Ytaagfcdniacmnab
