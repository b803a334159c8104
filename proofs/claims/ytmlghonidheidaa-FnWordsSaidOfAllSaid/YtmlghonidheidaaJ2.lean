/- IsStill, SayOther: the model's and the program's, and the laws. -/
import Derived.Test.YtmlghonidheidaaJ1
namespace Go.Proofs.Ytmlghonidheidaa
open Go.RowKit Go.BigFrame
set_option linter.unusedSimpArgs false
set_option linter.unusedVariables false
set_option maxRecDepth 4000

def stillV (s : ByteArray) : Option (List UInt8) → Bool
  | some m => (bs m).toList == s.toList
  | none => false
def stillB (s : ByteArray) : Bool := stillV s (saidO s.data.toList)
theorem stillB_of {s : ByteArray} {o : Option (List UInt8)} (h : saidO s.data.toList = o) : stillB s = stillV s o := by
  unfold stillB; rw [h]
theorem specIsStill_any (s : ByteArray) (w : World) (hs : s.size ≤ maxLen) :
    Calls Try.prog 22 #[.string s] w fun e w' => e = .returned (.tuple #[.bool (goodL s.data.toList && stillB s), .bool (goodL s.data.toList)]) ∧ Below w.heap.size w w' := by
  cases hg : goodL s.data.toList with
  | false =>
    have HG := Lib.hid hg; clear hg
    go_enter Try.func22, Try.ntmps22
    go_wp2_with fail
    refine (woGood_any s w hs).mono ?_
    rintro e w1 ⟨rfl, rfl⟩
    rw [HG.out]
    go_wp2_with fail
    go_ret2
    exact ⟨rfl, Below.refl _ _⟩
  | true =>
    have HG := Lib.hid hg; clear hg
    cases hk : saidO s.data.toList
    all_goals
      have HS := Lib.hid (stillB_of hk)
      have HK := Lib.hid hk; clear hk
      go_enter Try.func22, Try.ntmps22
      go_wp2_with fail
      refine (woGood_any s w hs).mono ?_
      rintro e w1 ⟨rfl, rfl⟩
      rw [HG.out]
      go_wp2_with fail
      refine (woSaid_any s w hs).mono ?_
      rintro e w1 ⟨rfl, hb⟩
      rw [HK.out]
      have HB := Lib.hid hb; clear hb
      unfold strOk
      go_wp2_with fail
      go_ret2
      exact ⟨by rw [HS.out]; rfl, HB.out⟩
theorem implIsStill_any (s : ByteArray) (w : World) (hs : s.size ≤ maxLen) :
    Calls Try.prog 21 #[.string s] w fun e w' => e = .returned (.tuple #[.bool (goodL s.data.toList && stillB s), .bool (goodL s.data.toList)]) ∧ Below w.heap.size w w' := by
  cases hg : goodL s.data.toList with
  | false =>
    have HG := Lib.hid hg; clear hg
    go_enter Try.func21, Try.ntmps21
    go_wp2_with fail
    refine (implIsWord_any s w hs).mono ?_
    rintro e w1 ⟨rfl, rfl⟩
    rw [HG.out]
    go_wp2_with fail
    go_ret2
    exact ⟨rfl, Below.refl _ _⟩
  | true =>
    have HG := Lib.hid hg; clear hg
    cases hk : saidO s.data.toList
    all_goals
      have HS := Lib.hid (stillB_of hk)
      have HK := Lib.hid hk; clear hk
      go_enter Try.func21, Try.ntmps21
      go_wp2_with fail
      refine (implIsWord_any s w hs).mono ?_
      rintro e w1 ⟨rfl, rfl⟩
      rw [HG.out]
      go_wp2_with fail
      refine (implSayWord_any s w hs).mono ?_
      rintro e w1 ⟨rfl, hb⟩
      rw [HK.out]
      have HB := Lib.hid hb; clear hb
      unfold strOk
      go_wp2_with fail
      go_ret2
      exact ⟨by rw [HS.out]; rfl, HB.out⟩
def otherO (l : List UInt8) : Option (List UInt8) := (saidO l.reverse).map List.reverse
theorem goodL_reverse (l : List UInt8) : goodL l.reverse = goodL l := by
  unfold goodL; rw [List.length_reverse, List.all_reverse]
theorem saidO_good {l m : List UInt8} (h : saidO l = some m) : goodL m = true ∧ goodL l = true := by
  unfold saidO at h
  split at h
  · rename_i hh
    simp at h; subst h
    exact ⟨hh.2, speak_good hh.1⟩
  · cases h
theorem bs_size_rev (s : ByteArray) : (bs s.data.toList.reverse).size = s.size := by rw [bs_size]; simp

theorem specSayOther_any (s : ByteArray) (w : World) (hs : s.size ≤ 1048576) :
    Calls Try.prog 20 #[.string s] w fun e w' => e = .returned (strOk (otherO s.data.toList)) ∧ Below w.heap.size w w' := by
  have hcon := fun (W : World) => woSaid_any (bs s.data.toList.reverse) W (by rw [bs_size_rev]; unfold maxLen; omega)
  rw [bs_list] at hcon
  cases hk : saidO s.data.toList.reverse with
  | none =>
    have HO : Hid (otherO s.data.toList = none) := by unfold otherO; rw [hk]; exact rfl
    rw [hk] at hcon
    have HC := Lib.hid hcon; clear hk hcon
    go_enter Try.func20, Try.ntmps20
    go_wp2_with fail
    refine (woBack_any s w hs).mono ?_
    rintro e w1 ⟨rfl, rfl⟩
    go_wp2_with fail
    refine (HC.out w).mono ?_
    rintro e w1 ⟨rfl, hb⟩
    have HB := Lib.hid hb; clear hb
    unfold strOk
    go_wp2_with fail
    go_ret2
    exact ⟨by rw [HO.out]; rfl, HB.out⟩
  | some m =>
    have hl := (saidO_len hk).2
    have HO : Hid (otherO s.data.toList = some m.reverse) := by unfold otherO; rw [hk]; exact rfl
    rw [hk] at hcon
    have hback := fun (W : World) => woBack_any (bs m) W (by rw [bs_size]; omega)
    rw [bs_list] at hback
    have HC := Lib.hid hcon; have HK := Lib.hid hback; clear hk hcon hback
    go_enter Try.func20, Try.ntmps20
    go_wp2_with fail
    refine (woBack_any s w hs).mono ?_
    rintro e w1 ⟨rfl, rfl⟩
    go_wp2_with fail
    refine (HC.out w).mono ?_
    rintro e w1 ⟨rfl, hb⟩
    have HB := Lib.hid hb; clear hb
    unfold strOk
    go_wp2_with fail
    refine (HK.out w1).mono ?_
    rintro e w2 ⟨rfl, rfl⟩
    go_wp2_with fail
    go_ret2
    exact ⟨by rw [HO.out]; rfl, HB.out⟩

theorem implSayOther_any (s : ByteArray) (w : World) (hs : s.size ≤ 1048576) :
    Calls Try.prog 19 #[.string s] w fun e w' => e = .returned (strOk (otherO s.data.toList)) ∧ Below w.heap.size w w' := by
  have hs2 : s.size ≤ maxLen := by unfold maxLen; omega
  have hcon := fun (W : World) => implSayWord_any (bs s.data.toList.reverse) W (by rw [bs_size_rev]; exact hs2)
  rw [bs_list] at hcon
  have hback := fun (W : World) => implBackWord_any s W hs2
  by_cases hg : goodL s.data.toList = true
  · have e1 : backO s.data.toList = some s.data.toList.reverse := by unfold backO; rw [if_pos hg]
    rw [e1] at hback
    cases hk : saidO s.data.toList.reverse with
    | none =>
      have HO : Hid (otherO s.data.toList = none) := by unfold otherO; rw [hk]; exact rfl
      rw [hk] at hcon
      have HC := Lib.hid hcon; have HK := Lib.hid hback; clear hk hcon hback hg e1
      go_enter Try.func19, Try.ntmps19
      go_wp2_with fail
      refine (HK.out w).mono ?_
      rintro e w1 ⟨rfl, hb⟩
      have HB := Lib.hid hb; clear hb
      unfold strOk
      go_wp2_with fail
      refine (HC.out w1).mono ?_
      rintro e w2 ⟨rfl, hb⟩
      have HB2 := Lib.hid hb; clear hb
      unfold strOk
      go_wp2_with fail
      go_ret2
      exact ⟨by rw [HO.out]; rfl, below_trans HB.out HB2.out⟩
    | some m =>
      have hl := (saidO_len hk).2
      have HO : Hid (otherO s.data.toList = some m.reverse) := by unfold otherO; rw [hk]; exact rfl
      have hback2 := fun (W : World) => implBackWord_any (bs m) W (by rw [bs_size]; unfold maxLen; omega)
      rw [bs_list] at hback2
      have e2 : backO m = some m.reverse := by unfold backO; rw [if_pos (saidO_good hk).1]
      rw [e2] at hback2
      rw [hk] at hcon
      have HC := Lib.hid hcon; have HK := Lib.hid hback; have HK2 := Lib.hid hback2; clear hk hcon hback hg e1 hback2 e2
      go_enter Try.func19, Try.ntmps19
      go_wp2_with fail
      refine (HK.out w).mono ?_
      rintro e w1 ⟨rfl, hb⟩
      have HB := Lib.hid hb; clear hb
      unfold strOk
      go_wp2_with fail
      refine (HC.out w1).mono ?_
      rintro e w2 ⟨rfl, hb⟩
      have HB2 := Lib.hid hb; clear hb
      unfold strOk
      go_wp2_with fail
      refine (HK2.out w2).mono ?_
      rintro e w3 ⟨rfl, hb⟩
      have HB3 := Lib.hid hb; clear hb
      unfold strOk
      go_wp2_with fail
      go_ret2
      exact ⟨by rw [HO.out]; rfl, below_trans HB.out (below_trans HB2.out HB3.out)⟩
  · have e1 : backO s.data.toList = none := by unfold backO; rw [if_neg hg]
    rw [e1] at hback
    have HO : Hid (otherO s.data.toList = none) := by
      unfold otherO
      cases hk : saidO s.data.toList.reverse with
      | none => exact rfl
      | some m => exact absurd ((goodL_reverse _).symm.trans (saidO_good hk).2) hg
    have HK := Lib.hid hback; clear hback hg e1 hcon
    go_enter Try.func19, Try.ntmps19
    go_wp2_with fail
    refine (HK.out w).mono ?_
    rintro e w1 ⟨rfl, hb⟩
    have HB := Lib.hid hb; clear hb
    unfold strOk
    go_wp2_with fail
    go_ret2
    exact ⟨by rw [HO.out]; rfl, HB.out⟩

end Go.Proofs.Ytmlghonidheidaa
