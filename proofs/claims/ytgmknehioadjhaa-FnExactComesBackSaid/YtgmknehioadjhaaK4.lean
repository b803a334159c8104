/- First digits: the program's isShortSpeakable, FirstDigits; the model's elGood. -/
import Derived.Test.YtgmknehioadjhaaK3
import Derived.Test.YtgmknehioadjhaaE1
namespace Go.Proofs.Ytgmknehioadjhaa
open Go.RowKit Go.BigFrame Go.Shelf
set_option linter.unusedSimpArgs false
set_option linter.unusedVariables false
set_option maxRecDepth 4000
attribute [local go_sem] Oper.semAt_some

/-- A speakable word of at most sixty digits. -/
def elB (l : List UInt8) : Bool := speakL l && decide (l.length ≤ 60)
theorem elB_parts {l : List UInt8} (h : elB l = true) : speakL l = true ∧ sayB l = true ∧ l.length ≤ 60 := by
  unfold elB at h
  simp only [Bool.and_eq_true, decide_eq_true_eq] at h
  exact ⟨h.1, sayB_speak h.1, h.2⟩
theorem firsts_dig {l : List UInt8} (h : sayB l = true) (k : Nat) : 49 ≤ ((sayN k l).headD 0).toNat ∧ ((sayN k l).headD 0).toNat ≤ 57 := by
  obtain ⟨h1, h2, _⟩ := sayB_iff.1 (sayN_ok h k)
  match hs : sayN k l, h1 with
  | c :: r, _ =>
    rw [hs] at h2
    simp only [List.all_cons, Bool.and_eq_true] at h2
    have := h2.1
    unfold digB at this
    simp at this
    simpa using this

theorem isShort_any (s : ByteArray) (w : World) (hs : s.size ≤ maxLen) :
    Calls Try.prog 57 #[.string s] w fun e w' => e = .returned (.bool (elB s.data.toList)) ∧ Below w.heap.size w w' := by
  obtain ⟨y, hy⟩ : ∃ y, y = goodL s.data.toList := ⟨_, rfl⟩
  have HY := Lib.hid hy; clear hy
  have hz : s.data.toList.length = s.size := by simp
  cases hk : speakL s.data.toList with
  | false =>
    have HE : Hid (elB s.data.toList = false) := by unfold elB; rw [hk]; rfl
    have HK := Lib.hid hk; clear hk hz
    go_enter Try.func57, Try.ntmps57
    go_wp2_with fail
    refine (implIsSpeakable_any s w hs).mono ?_
    rintro e w1 ⟨rfl, hb⟩
    rw [HK.out, ← HY.out]
    have HB := Lib.hid hb; clear hb
    go_wp2_with fail
    go_ret
    exact ⟨ret_bool (by rw [HE.out]), HB.out⟩
  | true =>
    have HE : Hid (elB s.data.toList = decide (s.size ≤ 60)) := by unfold elB; rw [hk, hz]; rfl
    have HK := Lib.hid hk; clear hk hz
    unfold maxLen at hs
    go_enter Try.func57, Try.ntmps57
    go_wp2_with fail
    refine (implIsSpeakable_any s w (by unfold maxLen; omega)).mono ?_
    rintro e w1 ⟨rfl, hb⟩
    rw [HK.out, ← HY.out]
    have HB := Lib.hid hb; clear hb
    go_wp2_with fail
    go_ret
    exact ⟨ret_bool (by rw [HE.out]; simp only [decide_eq_decide]; omega), HB.out⟩

theorem elGood_any (s : ByteArray) (w : World) (hs : s.size ≤ maxLen) :
    Calls Try.prog 55 #[.string s] w fun e w' => e = .returned (.bool (elB s.data.toList)) ∧ Below w.heap.size w w' := by
  have hz : s.data.toList.length = s.size := by simp
  cases hk : speakL s.data.toList with
  | false =>
    have HE : Hid (elB s.data.toList = false) := by unfold elB; rw [hk]; rfl
    have HK := Lib.hid hk; clear hk hz
    go_enter Try.func55, Try.ntmps55
    go_wp2_with fail
    refine (woSpeakable_any s w hs).mono ?_
    rintro e w1 ⟨rfl, hb⟩
    rw [HK.out]
    have HB := Lib.hid hb; clear hb
    go_wp2_with fail
    go_ret
    exact ⟨ret_bool (by rw [HE.out]), HB.out⟩
  | true =>
    have HE : Hid (elB s.data.toList = decide (s.size ≤ 60)) := by unfold elB; rw [hk, hz]; rfl
    have HK := Lib.hid hk; clear hk hz
    unfold maxLen at hs
    go_enter Try.func55, Try.ntmps55
    go_wp2_with fail
    refine (woSpeakable_any s w (by unfold maxLen; omega)).mono ?_
    rintro e w1 ⟨rfl, hb⟩
    rw [HK.out]
    have HB := Lib.hid hb; clear hb
    go_wp2_with fail
    go_ret
    exact ⟨ret_bool (by rw [HE.out]; simp only [decide_eq_decide]; omega), HB.out⟩
end Go.Proofs.Ytgmknehioadjhaa
