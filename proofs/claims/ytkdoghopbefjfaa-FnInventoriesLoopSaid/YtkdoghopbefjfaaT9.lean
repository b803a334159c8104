/- The laws IsInventory and IsOwnInventory. -/
import Derived.Test.YtkdoghopbefjfaaT8
import Derived.Lib.Strings
namespace Go.Proofs.Ytkdoghopbefjfaa
open Go.RowKit Go.BigFrame
set_option linter.unusedSimpArgs false
set_option linter.unusedVariables false
set_option maxRecDepth 4000

theorem bytes_toListT (s : ByteArray) : s.toList = s.data.toList := Go.Lib.toList_data s

theorem specIsInventory_any (s : ByteArray) (w : World) (hs : s.size ≤ maxLen) :
    Calls Try.prog 26 #[.string s] w fun e w' => e = .returned (.tuple #[.bool (isInvL s.data.toList), .bool (goodL s.data.toList)]) ∧ Below w.heap.size w w' := by
  have hI := fun W => taIs_any s W hs
  obtain ⟨y, hy⟩ : ∃ y, y = isInvL s.data.toList := ⟨_, rfl⟩
  cases hg : goodL s.data.toList with
  | false =>
    have hf : y = false := by rw [hy]; unfold isInvL; rw [hg]; rfl
    rw [← hy, hf]
    have HG := Lib.hid hg; clear hg hI hy hf
    go_enter Try.func26, Try.ntmps26
    go_wp2_with fail
    refine (woGood_any s w hs).mono ?_
    rintro e w1 ⟨rfl, rfl⟩
    rw [HG.out]
    go_wp2_with fail
    go_ret2
    exact ⟨rfl, Below.refl _ _⟩
  | true =>
    rw [← hy] at hI ⊢
    have HG := Lib.hid hg; have HI := Lib.hid hI; clear hg hI hy
    go_enter Try.func26, Try.ntmps26
    go_wp2_with fail
    refine (woGood_any s w hs).mono ?_
    rintro e w1 ⟨rfl, rfl⟩
    rw [HG.out]
    go_wp2_with fail
    refine (HI.out w).mono ?_
    rintro e w1 ⟨rfl, hb⟩
    have HB := Lib.hid hb; clear hb
    go_wp2_with fail
    go_ret2
    exact ⟨rfl, HB.out⟩

theorem toldD_len (l : List UInt8) : ((toldL l).getD zeros9).length = 9 := by
  cases h : toldL l with
  | none => rfl
  | some ts =>
    unfold toldL at h
    split at h
    · exact toldF_len _ _ _ _ h
    · cases h

set_option maxHeartbeats 1000000 in
theorem implIsInventory_any (s : ByteArray) (w : World) (hs : s.size ≤ maxLen) :
    Calls Try.prog 21 #[.string s] w fun e w' => e = .returned (.tuple #[.bool (isInvL s.data.toList), .bool (goodL s.data.toList)]) ∧ Below w.heap.size w w' := by
  obtain ⟨g, hg⟩ : ∃ g, g = goodL s.data.toList := ⟨_, rfl⟩
  obtain ⟨y, hy⟩ : ∃ y, y = isInvL s.data.toList := ⟨_, rfl⟩
  obtain ⟨ts, hts⟩ : ∃ ts, ts = (toldL s.data.toList).getD zeros9 := ⟨_, rfl⟩
  have h9 : ts.length = 9 := by rw [hts]; exact toldD_len _
  have h1 := fun W => toldBy_any s W hs
  have h2 := fun W => implIsWord_any s W hs
  rw [toldL_isSome, ← hts, ← hy] at h1
  rw [← hg] at h2
  rw [← hg, ← hy]
  have H1 := Lib.hid h1; have H2 := Lib.hid h2; clear h1 h2 hg hy hts
  go_enter Try.func21, Try.ntmps21
  go_wp2_with fail
  refine (H1.out w).mono ?_
  rintro e w1 ⟨rfl, hb⟩
  have HB := Lib.hid hb; clear hb
  go_wp2_with (refine wpList_putT rfl _ _ rfl w1.heap.size rfl zeros9 ts rfl ⟨heap_alloc_new _ _, rfl⟩ h9 ?_; intro w2 hB2 _ hbb _; have HB2 := Lib.hid ((below_alloc w1 _).trans (hbb _ (Nat.le_refl _))); clear hbb)
  refine (H2.out w2).mono ?_
  rintro e w3 ⟨rfl, rfl⟩
  go_wp2_with fail
  go_ret2
  exact ⟨rfl, below_trans HB.out HB2.out⟩

set_option maxHeartbeats 1000000 in
theorem specIsOwnInventory_any (s : ByteArray) (w : World) (hs : s.size ≤ maxLen) :
    Calls Try.prog 25 #[.string s] w fun e w' => e = .returned (.tuple #[.bool (goodL s.data.toList && isOwnL s.data.toList), .bool (goodL s.data.toList)]) ∧ Below w.heap.size w w' := by
  cases hg : goodL s.data.toList with
  | false =>
    have HG := Lib.hid hg; clear hg
    go_enter Try.func25, Try.ntmps25
    go_wp2_with fail
    refine (woGood_any s w hs).mono ?_
    rintro e w1 ⟨rfl, rfl⟩
    rw [HG.out]
    go_wp2_with fail
    go_ret2
    exact ⟨rfl, Below.refl _ _⟩
  | true =>
    have hI := fun W => taOf_any s W hs
    cases hi : invO s.data.toList with
    | none =>
      have ho : isOwnL s.data.toList = false := by unfold isOwnL; rw [hi]; simp
      rw [hi] at hI
      rw [ho]
      have HG := Lib.hid hg; have HI := Lib.hid hI; clear hg hi hI ho
      go_enter Try.func25, Try.ntmps25
      go_wp2_with fail
      refine (woGood_any s w hs).mono ?_
      rintro e w1 ⟨rfl, rfl⟩
      rw [HG.out]
      go_wp2_with fail
      refine (HI.out w).mono ?_
      rintro e w1 ⟨rfl, hb⟩
      have HB := Lib.hid hb; clear hb
      unfold strOk
      go_wp2_with fail
      go_ret2
      exact ⟨rfl, HB.out⟩
    | some m =>
      rw [hi] at hI
      have ho : isOwnL s.data.toList = ((bs m).toList == s.toList) := by
        unfold isOwnL; rw [hi]
        by_cases h : m = s.data.toList
        · rw [decide_eq_true (by rw [h]), h, show bs s.data.toList = s from (bs_eq rfl).symm]; simp
        · rw [decide_eq_false (fun e => h (Option.some.inj e))]
          symm
          rw [beq_eq_false_iff_ne, bytes_toListT, bytes_toListT, bs_list]
          exact h
      rw [ho]
      have HG := Lib.hid hg; have HI := Lib.hid hI; clear hg hi hI ho
      go_enter Try.func25, Try.ntmps25
      go_wp2_with fail
      refine (woGood_any s w hs).mono ?_
      rintro e w1 ⟨rfl, rfl⟩
      rw [HG.out]
      go_wp2_with fail
      refine (HI.out w).mono ?_
      rintro e w1 ⟨rfl, hb⟩
      have HB := Lib.hid hb; clear hb
      unfold strOk
      go_wp2_with fail
      go_ret2
      exact ⟨rfl, HB.out⟩
end Go.Proofs.Ytkdoghopbefjfaa
