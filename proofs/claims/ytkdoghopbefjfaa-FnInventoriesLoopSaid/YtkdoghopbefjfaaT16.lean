/- The loop of inventories: the model's and the program's LoopOfInventory, and the law. -/
import Derived.Test.YtkdoghopbefjfaaT15
namespace Go.Proofs.Ytkdoghopbefjfaa
open Go.RowKit Go.BigFrame
set_option linter.unusedSimpArgs false
set_option linter.unusedVariables false
set_option maxRecDepth 4000

def loopO (K : Nat) (l : List UInt8) : Option (List (List UInt8) × Nat) := if goodL l = true then loopF invO K [] l else none
theorem taWay_any (s : ByteArray) (w : World) (hs : s.size ≤ maxLen) (K : Nat) (hK : 1000000010 ≤ K) :
    Calls Try.prog 54 #[.string s] w fun e w' => LoopOk (loopO K s.data.toList) w w' e := by
  unfold loopO
  cases hg : goodL s.data.toList with
  | true => rw [if_pos rfl]; exact taWay_good s w hs hg K hK
  | false =>
    rw [if_neg (by simp)]
    have HG := Lib.hid hg; clear hg
    go_enter Try.func54, Try.ntmps54
    go_wp2_with fail
    refine (woGood_any s w hs).mono ?_
    rintro e w1 ⟨rfl, rfl⟩
    rw [HG.out]
    go_wp2_with fail
    go_ret3
    exact ⟨_, rfl, World.ownsRow_nil _ _ _ _, Below.refl _ _, fun _ => rfl, fun h => absurd rfl h⟩
theorem inventoriesFrom_any (s : ByteArray) (w : World) (hs : s.size ≤ maxLen) (K : Nat) (hK : 1000000010 ≤ K) :
    Calls Try.prog 53 #[.string s] w fun e w' => LoopOk (loopO K s.data.toList) w w' e := by
  unfold loopO
  cases hg : goodL s.data.toList with
  | true =>
    rw [if_pos rfl]
    have hl := (goodL_parts hg).2.1
    obtain ⟨R, hR⟩ : ∃ R, R = loopF invO K [] s.data.toList := ⟨_, rfl⟩
    have hlf := fun W => loopFrom_any s W hl K hK
    rw [← hR] at hlf ⊢
    have HG := Lib.hid hg; have HLF := Lib.hid hlf; clear hg hlf hR
    go_enter Try.func53, Try.ntmps53
    go_wp2_with fail
    refine (implIsWord_any s w hs).mono ?_
    rintro e w1 ⟨rfl, rfl⟩
    rw [HG.out]
    go_wp2_with fail
    refine (clone_any s _ (by omega)).mono ?_
    rintro e w1 ⟨rfl, hb⟩
    have HB := Lib.hid hb; clear hb
    go_wp2_with fail
    refine (HLF.out w1).mono ?_
    rintro e w2 ⟨v, rfl, h2, h3, h4, h5⟩
    have H2 := Lib.hid h2; have H3 := Lib.hid h3; have H4 := Lib.hid h4; have H5 := Lib.hid h5; clear h2 h3 h4 h5
    go_wp2_with fail
    go_ret3
    exact ⟨v, rfl, own_mono H2.out HB.out.size, below_trans HB.out H3.out, H4.out, H5.out⟩
  | false =>
    rw [if_neg (by simp)]
    have HG := Lib.hid hg; clear hg
    go_enter Try.func53, Try.ntmps53
    go_wp2_with fail
    refine (implIsWord_any s w hs).mono ?_
    rintro e w1 ⟨rfl, rfl⟩
    rw [HG.out]
    go_wp2_with fail
    go_ret3
    exact ⟨_, rfl, World.ownsRow_nil _ _ _ _, Below.refl _ _, fun _ => rfl, fun h => absurd rfl h⟩

def tailV (o : Option (List (List UInt8) × Nat)) : Int := ((o.getD ([], 0)).2 : Int)
def cycV (o : Option (List (List UInt8) × Nat)) : Int := ((o.getD ([], 0)).1.length : Int) - ((o.getD ([], 0)).2 : Int)
/-- What LoopOk says, opened: the value is a slice of so many texts. -/
theorem loopOk_open {o : Option (List (List UInt8) × Nat)} {w w' : World} {e : Ending} (h : LoopOk o w w' e) :
    ∃ a n c i, e = .returned (.tuple #[.slice a n c, .int .i64 (i : Nat), .bool o.isSome]) ∧ (i : Int) = tailV o ∧ (n : Int) - (i : Int) = cycV o ∧ i ≤ n ∧ n ≤ 2000000000 ∧ Below w.heap.size w w' := by
  obtain ⟨v, rfl, h2, h3, h4, h5⟩ := h
  obtain ⟨a, c, rfl⟩ := own_slice h2
  refine ⟨a, _, c, _, rfl, rfl, rfl, ?_, ?_, h3⟩
  · cases o with
    | none => exact Nat.le_refl _
    | some p => exact Nat.le_of_lt (h5 (by simp)).1
  · cases o with
    | none => simp
    | some p => exact (h5 (by simp)).2

set_option maxHeartbeats 1000000 in
theorem specLoopOfInventory_any (s : ByteArray) (w : World) (hs : s.size ≤ maxLen) (K : Nat) (hK : 1000000010 ≤ K) :
    Calls Try.prog 10 #[.string s] w fun e w' => e = .returned (.tuple #[.int .i64 (tailV (loopO K s.data.toList)), .int .i64 (cycV (loopO K s.data.toList)), .bool (loopO K s.data.toList).isSome]) ∧ Below w.heap.size w w' := by
  have h1 := taWay_any s w hs K hK
  obtain ⟨o, ho⟩ : ∃ o, o = loopO K s.data.toList := ⟨_, rfl⟩
  rw [← ho] at h1 ⊢
  have H1 := Lib.hid h1; clear h1 ho
  go_enter Try.func10, Try.ntmps10
  go_wp2_with fail
  refine H1.out.mono ?_
  intro e w1 h
  obtain ⟨a, n, c, i, rfl, hi, hc, hin, hn, hb⟩ := loopOk_open h
  have HB := Lib.hid hb; have HI := Lib.hid hi; have HC := Lib.hid hc; clear hb h hi hc H1
  cases o with
  | none =>
    simp only [Option.isSome_none]
    go_wp2_with fail
    go_ret3
    exact ⟨rfl, HB.out⟩
  | some p =>
    simp only [Option.isSome_some]
    go_wp2_with fail
    go_ret3
    refine ⟨?_, HB.out⟩
    rw [← HI.out, ← HC.out]
    rfl
set_option maxHeartbeats 1000000 in
theorem implLoopOfInventory_any (s : ByteArray) (w : World) (hs : s.size ≤ maxLen) (K : Nat) (hK : 1000000010 ≤ K) :
    Calls Try.prog 9 #[.string s] w fun e w' => e = .returned (.tuple #[.int .i64 (tailV (loopO K s.data.toList)), .int .i64 (cycV (loopO K s.data.toList)), .bool (loopO K s.data.toList).isSome]) ∧ Below w.heap.size w w' := by
  have h1 := inventoriesFrom_any s w hs K hK
  obtain ⟨o, ho⟩ : ∃ o, o = loopO K s.data.toList := ⟨_, rfl⟩
  rw [← ho] at h1 ⊢
  have H1 := Lib.hid h1; clear h1 ho
  go_enter Try.func9, Try.ntmps9
  go_wp2_with fail
  refine H1.out.mono ?_
  intro e w1 h
  obtain ⟨a, n, c, i, rfl, hi, hc, hin, hn, hb⟩ := loopOk_open h
  have HB := Lib.hid hb; have HI := Lib.hid hi; have HC := Lib.hid hc; clear hb h hi hc H1
  go_wp2_with fail
  go_ret3
  refine ⟨?_, HB.out⟩
  rw [← HI.out, ← HC.out]
  rfl

end Go.Proofs.Ytkdoghopbefjfaa
