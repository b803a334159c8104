/- A map that holds a sequence is ranged over, in whatever order: the sum, how often a value is there. -/
import Derived.Test.YtakmmoplepghjaaG5
import Derived.Laws.IdiomRangeMap
namespace Go.Proofs.Ytakmmoplepghjaa
open Go.RowKit Go.BigFrame Go.Maps
set_option linter.unusedSimpArgs false
set_option linter.unusedVariables false
set_option maxRecDepth 4000

/-- The sum of h over those places that have come. -/
def cameS (first k : Nat) (left : Lit → Bool) (h : Nat → Nat) : Nat := ((List.range k).map fun i => if left (kI ((first + i : Nat) : Int)) then 0 else h (first + i)).sum
def allS' (first k : Nat) (h : Nat → Nat) : Nat := ((List.range k).map fun i => h (first + i)).sum
theorem cameS_start {first k : Nat} {left : Lit → Bool} (h : Nat → Nat) (hl : ∀ i : Nat, i < k → left (kI ((first + i : Nat) : Int)) = true) : cameS first k left h = 0 := by
  unfold cameS
  rw [List.map_congr_left (g := fun _ => 0)]
  · induction k with
    | zero => rfl
    | succ k ih => rw [List.range_succ, List.map_append, List.sum_append, ih (fun i hi => hl i (by omega))]; rfl
  · intro i hi
    rw [hl i (List.mem_range.1 hi)]; rfl
theorem cameS_end {first k : Nat} {left : Lit → Bool} (h : Nat → Nat) (hl : ∀ kl, left kl = false) : cameS first k left h = allS' first k h := by
  unfold cameS allS'
  congr 1
  apply List.map_congr_left
  intro i _
  rw [hl]; simp
theorem cameS_step {first k : Nat} {left : Lit → Bool} (h : Nat → Nat) (j : Nat) (hj : j < k) (hl : left (kI ((first + j : Nat) : Int)) = true) :
    cameS first k (fun z => left z && !z.sameKey (kI ((first + j : Nat) : Int))) h = cameS first k left h + h (first + j) := by
  induction k with
  | zero => omega
  | succ k ih =>
    unfold cameS at ih ⊢
    rw [List.range_succ, List.map_append, List.map_append, List.sum_append, List.sum_append]
    have hne : ∀ i : Nat, i ≠ j → (kI ((first + i : Nat) : Int)).sameKey (kI ((first + j : Nat) : Int)) = false := fun i hi => sameKey_ne (kI_ne (by omega))
    have hsame : (kI ((first + j : Nat) : Int)).sameKey (kI ((first + j : Nat) : Int)) = true := by simp [Lit.sameKey]
    by_cases e : j = k
    · subst e
      have hrest : ((List.range j).map fun i => if (left (kI ((first + i : Nat) : Int)) && !(kI ((first + i : Nat) : Int)).sameKey (kI ((first + j : Nat) : Int))) = true then 0 else h (first + i)) = (List.range j).map fun i => if left (kI ((first + i : Nat) : Int)) = true then 0 else h (first + i) := by
        apply List.map_congr_left
        intro i hi
        rw [hne i (by have := List.mem_range.1 hi; omega)]
        simp
      rw [hrest]
      simp only [List.map_cons, List.map_nil, List.sum_cons, List.sum_nil, hl, hsame]
      simp
    · rw [ih (by omega)]
      have : (left (kI ((first + k : Nat) : Int)) && !(kI ((first + k : Nat) : Int)).sameKey (kI ((first + j : Nat) : Int))) = left (kI ((first + k : Nat) : Int)) := by rw [hne k (fun h => e h.symm)]; simp
      simp only [List.map_cons, List.map_nil, this]
      simp only [List.sum_cons, List.sum_nil]
      omega

theorem cameS_le {first : Nat} (left : Lit → Bool) (h : Nat → Nat) (M : Nat) : ∀ k : Nat, (∀ i, i < k → h (first + i) ≤ M) → cameS first k left h ≤ M * k
  | 0, _ => by simp [cameS]
  | k + 1, hh => by
    have ih := cameS_le (first := first) left h M k (fun i hi => hh i (by omega))
    have h2 := hh k (by omega)
    unfold cameS at ih ⊢
    rw [List.range_succ, List.map_append, List.sum_append, Nat.mul_succ]
    simp only [List.map_cons, List.map_nil, List.sum_cons, List.sum_nil]
    split
    · omega
    · omega
theorem SeqD.left_in {D : DataW Unit} {first k : Nat} {f : Nat → Nat} (h : SeqD D first k f) {left : Lit → Bool} (hsub : ∀ z, left z = true → Maps.has D z = true) {x : Int} (hl : left (kI x) = true) : ∃ j, j < k ∧ x = ((first + j : Nat) : Int) := by
  have := hsub _ hl
  rw [h.keys] at this
  have h2 : (first : Int) ≤ x ∧ x < (first : Int) + (k : Int) := by simpa using this
  exact ⟨(x - first).toNat, by omega, by omega⟩
theorem SeqD.val {D : DataW Unit} {first k : Nat} {f : Nat → Nat} (h : SeqD D first k f) {j : Nat} (hj : j < k) {c : Int} (hat : ∀ zd, D.atKey (kI ((first + j : Nat) : Int)) zd = .lit (.int .i64 c)) : c = (f (first + j) : Nat) :=
  h.at_eq (hat _) (first + j) rfl (by omega) (by omega)

set_option maxHeartbeats 1000000 in
theorem seqSum_any (w : World) (b n first k : Nat) (f : Nat → Nat) (D : DataW Unit) (hown : OwnI w b n D) (hD : SeqD D first k f) (hf : ∀ i, i < k → f (first + i) ≤ 3000) (hk : k ≤ 4000) :
    Calls Try.prog 60 #[.map (some b)] w fun e w' => e = .returned (.int .i64 (allS' first k f : Nat)) ∧ Below w.heap.size w w' := by
  have hbl := hown.lt
  have hle : ∀ left : Lit → Bool, cameS first k left f ≤ 3000 * k := fun left => cameS_le left _ 3000 k hf
  have HD := Lib.hid hD; have HF := Lib.hid hf; have HLE := Lib.hid hle
  clear hD hf hle
  go_enter Try.func60, Try.ntmps60
  go_wp2_with (at_range; refine wpList_range_own _ rfl _ 43 rfl 3 3 lawI Try.underlying43 _ b n _ rfl hown ?_; intro w0 hrg0 hg0 hs0; have HR0 := Lib.hid hrg0; have HG0 := Lib.hid hg0; clear hrg0 hg0 hs0)
  go_frame
  go_loopw [3] (fun s wr => ∃ (left : Lit → Bool) (cnt c0 : Nat), s = .int .i64 (c0 : Nat) ∧ c0 ≤ 3000 * k ∧ Hid (c0 = cameS first k left f) ∧ Hid (wr.ranges Try.prog 3 (plainElem Try.prog 3) b w.heap.size n D left cnt ∧ (∀ z, left z = true → Maps.has D z = true) ∧ Below w.heap.size w wr)) (fun _ wr => wr.rangeLeft b w.heap.size)
  case atStart =>
    refine ⟨Maps.has D, Maps.size D, 0, rfl, by omega, ?_, HR0.out, fun z h => h, (Below.refl _ _).grown HG0.out (Nat.le_refl _) (fun j hj => by cases hj)⟩
    exact (cameS_start _ (fun i hi => by rw [HD.out.keys]; simp; omega)).symm
  case round =>
    obtain ⟨left, cnt, c0, rfl, hc0, HC, HH⟩ := hrel
    go_wp2_with (at_next; refine wpList_next_ranges_ii _ rfl _ rfl 3 3 .i64 .i64 lawI Try.underlying3 Try.underlying3 b w.heap.size n _ _ _ rfl HH.out.1 ?_ ?_)
    · intro _ hl0
      have he := cameS_end (first := first) (k := k) f hl0
      rw [← HC.out] at he
      have HE := Lib.hid he
      clear he hl0
      go_wp2_with fail
      go_ret
      exact ⟨by rw [← HE.out]; rfl, HH.out.2.2⟩
    · intro x c w1 cnt1 hwx hwc hlx hat hrg1 hlt hg1 hs1 hen
      obtain ⟨j, hj, rfl⟩ := HD.out.left_in HH.out.2.1 hlx
      obtain rfl := HD.out.val hj hat
      have hst := cameS_step f j hj hlx
      rw [← HC.out] at hst
      have hb := HLE.out (fun z => left z && !z.sameKey (kI ((first + j : Nat) : Int)))
      rw [hst] at hb
      have hv9 := HF.out j hj
      have HST := Lib.hid hst; have HR1 := Lib.hid hrg1; have HL := Lib.hid hlt; have HG1 := Lib.hid hg1
      clear hst hrg1 hlt hg1 hs1 hat hlx hwx hwc
      obtain ⟨y, hy⟩ : ∃ y, y = f (first + j) := ⟨_, rfl⟩
      have HY := Lib.hid hy
      rw [← hy] at hv9 hb hen
      clear hy
      go_wp2_with fail
      go_roundw
      case rel => exact ⟨(fun z => left z && !z.sameKey (kI ((first + j : Nat) : Int))), cnt1, c0 + y, by go_num, hb, Lib.hid (by rw [HST.out, HY.out]), HR1.out, fun z hz => HH.out.2.1 z (by simp only [Bool.and_eq_true] at hz; exact hz.1), HH.out.2.2.grown HG1.out HH.out.2.2.size (fun j hj => by cases hj; exact Nat.le_refl _)⟩
      case measure => rw [HR1.out.left_eq, HH.out.1.left_eq]; exact HL.out

set_option maxHeartbeats 1000000 in
theorem seqTimes_any (w : World) (b n first k : Nat) (f : Nat → Nat) (D : DataW Unit) (val : Nat) (hown : OwnI w b n D) (hD : SeqD D first k f) (hf : ∀ i, i < k → f (first + i) ≤ 3000) (hk : k ≤ 4000) :
    Calls Try.prog 74 #[.map (some b), .int .i64 (val : Int)] w fun e w' => e = .returned (.int .i64 (allS' first k (fun i => if f i = val then 1 else 0) : Nat)) ∧ Below w.heap.size w w' := by
  have hbl := hown.lt
  have hle : ∀ left : Lit → Bool, cameS first k left (fun i => if f i = val then 1 else 0) ≤ 1 * k := fun left => cameS_le left _ 1 k (fun i _ => by split <;> omega)
  have HD := Lib.hid hD; have HF := Lib.hid hf; have HLE := Lib.hid hle
  clear hD hf hle
  go_enter Try.func74, Try.ntmps74
  go_wp2_with (at_range; refine wpList_range_own _ rfl _ 43 rfl 3 3 lawI Try.underlying43 _ b n _ rfl hown ?_; intro w0 hrg0 hg0 hs0; have HR0 := Lib.hid hrg0; have HG0 := Lib.hid hg0; clear hrg0 hg0 hs0)
  go_frame
  go_loopw [5] (fun s wr => ∃ (left : Lit → Bool) (cnt c0 : Nat), s = .int .i64 (c0 : Nat) ∧ c0 ≤ 1 * k ∧ Hid (c0 = cameS first k left (fun i => if f i = val then 1 else 0)) ∧ Hid (wr.ranges Try.prog 3 (plainElem Try.prog 3) b w.heap.size n D left cnt ∧ (∀ z, left z = true → Maps.has D z = true) ∧ Below w.heap.size w wr)) (fun _ wr => wr.rangeLeft b w.heap.size)
  case atStart =>
    refine ⟨Maps.has D, Maps.size D, 0, rfl, by omega, ?_, HR0.out, fun z h => h, (Below.refl _ _).grown HG0.out (Nat.le_refl _) (fun j hj => by cases hj)⟩
    exact (cameS_start _ (fun i hi => by rw [HD.out.keys]; simp; omega)).symm
  case round =>
    obtain ⟨left, cnt, c0, rfl, hc0, HC, HH⟩ := hrel
    go_wp2_with (at_next; refine wpList_next_ranges_ii _ rfl _ rfl 3 3 .i64 .i64 lawI Try.underlying3 Try.underlying3 b w.heap.size n _ _ _ rfl HH.out.1 ?_ ?_)
    · intro _ hl0
      have he := cameS_end (first := first) (k := k) (fun i => if f i = val then 1 else 0) hl0
      rw [← HC.out] at he
      have HE := Lib.hid he
      clear he hl0
      go_wp2_with fail
      go_ret
      exact ⟨by rw [← HE.out]; rfl, HH.out.2.2⟩
    · intro x c w1 cnt1 hwx hwc hlx hat hrg1 hlt hg1 hs1 hen
      obtain ⟨j, hj, rfl⟩ := HD.out.left_in HH.out.2.1 hlx
      obtain rfl := HD.out.val hj hat
      have hst := cameS_step (fun i => if f i = val then 1 else 0) j hj hlx
      rw [← HC.out] at hst
      have hb := HLE.out (fun z => left z && !z.sameKey (kI ((first + j : Nat) : Int)))
      rw [hst] at hb
      have hv9 := HF.out j hj
      have HST := Lib.hid hst; have HR1 := Lib.hid hrg1; have HL := Lib.hid hlt; have HG1 := Lib.hid hg1
      clear hst hrg1 hlt hg1 hs1 hat hlx hwx hwc
      obtain ⟨y, hy⟩ : ∃ y, y = f (first + j) := ⟨_, rfl⟩
      have HY := Lib.hid hy
      rw [← hy] at hv9 hen
      simp only [← hy] at hb
      clear hy
      by_cases hyv : y = val
      · have e1 : ((y : Int) == (val : Int)) = true := by simp [hyv]
        rw [if_pos hyv] at hb
        have HYV := Lib.hid hyv; clear hyv
        go_wp2_with fail
        go_roundw
        case rel => exact ⟨(fun z => left z && !z.sameKey (kI ((first + j : Nat) : Int))), cnt1, c0 + 1, by go_num, hb, Lib.hid (by rw [HST.out, ← HY.out, if_pos HYV.out]), HR1.out, fun z hz => HH.out.2.1 z (by simp only [Bool.and_eq_true] at hz; exact hz.1), HH.out.2.2.grown HG1.out HH.out.2.2.size (fun j hj => by cases hj; exact Nat.le_refl _)⟩
        case measure => rw [HR1.out.left_eq, HH.out.1.left_eq]; exact HL.out
      · have e1 : ((y : Int) == (val : Int)) = false := by simp; omega
        rw [if_neg hyv] at hb
        have HYV := Lib.hid hyv; clear hyv
        go_wp2_with fail
        go_roundw
        case rel => exact ⟨(fun z => left z && !z.sameKey (kI ((first + j : Nat) : Int))), cnt1, c0, by go_num, by omega, Lib.hid (by rw [HST.out, ← HY.out, if_neg HYV.out]; rfl), HR1.out, fun z hz => HH.out.2.1 z (by simp only [Bool.and_eq_true] at hz; exact hz.1), HH.out.2.2.grown HG1.out HH.out.2.2.size (fun j hj => by cases hj; exact Nat.le_refl _)⟩
        case measure => rw [HR1.out.left_eq, HH.out.1.left_eq]; exact HL.out
end Go.Proofs.Ytakmmoplepghjaa
