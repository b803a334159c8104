/- LengthsOf: the model's, the program's, the law. -/
import Derived.Test.YtaagfcdniacmnaaD3
import Derived.Test.YtaagfcdniacmnaaD4
namespace Go.Proofs.Ytaagfcdniacmnaa
open Go.RowKit Go.BigFrame
set_option linter.unusedSimpArgs false
set_option linter.unusedVariables false
set_option maxRecDepth 4000

def lenO (l : List UInt8) : Option (List UInt8) := if speakL l = true then some (lensL l) else none
theorem speak_parts {s : ByteArray} (h : speakL s.data.toList = true) : goodL s.data.toList = true ∧ longL s.data.toList ≤ 9 := by
  unfold speakL at h
  simp only [Bool.and_eq_true, decide_eq_true_eq] at h
  exact h
theorem specLengthsOf_any (s : ByteArray) (w : World) (hs : s.size ≤ maxLen) :
    Calls Try.prog 5 #[.string s] w fun e w' => e = .returned (strOk (lenO s.data.toList)) ∧ Below w.heap.size w w' := by
  cases h : speakL s.data.toList with
  | false =>
    have E : lenO s.data.toList = none := by unfold lenO; rw [h]; rfl
    rw [E]
    have H := Lib.hid h; clear h E
    go_enter Try.func5, Try.ntmps5
    go_wp2_with fail
    refine (woSpeakable_any s w hs).mono ?_
    rintro e w1 ⟨rfl, hb⟩
    rw [H.out]
    have HB := Lib.hid hb; clear hb
    go_wp2_with fail
    go_ret2
    exact ⟨rfl, HB.out⟩
  | true =>
    obtain ⟨hg, h9⟩ := speak_parts h
    obtain ⟨h1, h2, h3⟩ := goodL_parts hg
    have E : lenO s.data.toList = some (lensL s.data.toList) := by unfold lenO; rw [h]; rfl
    rw [E]
    have HR := Lib.hid (fun (W : World) => ruLengths_any s W h2 h3 h9)
    have H := Lib.hid h; clear h E hg h9 h3
    go_enter Try.func5, Try.ntmps5
    go_wp2_with fail
    refine (woSpeakable_any s w hs).mono ?_
    rintro e w1 ⟨rfl, hb⟩
    rw [H.out]
    have HB := Lib.hid hb; clear hb
    go_wp2_with fail
    refine (HR.out _).mono ?_
    rintro e w2 ⟨rfl, hb⟩
    have HB2 := Lib.hid hb; clear hb
    go_wp2_with fail
    go_ret2
    exact ⟨rfl, below_trans HB.out HB2.out⟩
theorem implLengthsOf_any (s : ByteArray) (w : World) (hs : s.size ≤ maxLen) :
    Calls Try.prog 6 #[.string s] w fun e w' => e = .returned (strOk (lenO s.data.toList)) ∧ Below w.heap.size w w' := by
  obtain ⟨y, hy⟩ : ∃ y, y = goodL s.data.toList := ⟨_, rfl⟩
  cases h : speakL s.data.toList with
  | false =>
    have E : lenO s.data.toList = none := by unfold lenO; rw [h]; rfl
    rw [E]
    have H := Lib.hid h; have HY := Lib.hid hy; clear h E hy
    go_enter Try.func6, Try.ntmps6
    go_wp2_with fail
    refine (implIsSpeakable_any s w hs).mono ?_
    rintro e w1 ⟨rfl, hb⟩
    rw [H.out, ← HY.out]
    have HB := Lib.hid hb; clear hb
    go_wp2_with fail
    go_ret2
    exact ⟨rfl, HB.out⟩
  | true =>
    obtain ⟨hg, h9⟩ := speak_parts h
    obtain ⟨h1, h2, h3⟩ := goodL_parts hg
    have E : lenO s.data.toList = some (lensL s.data.toList) := by unfold lenO; rw [h]; rfl
    rw [E]
    have HR := Lib.hid (fun (W : World) => lengthsText_any s W h1 h2 h3 h9)
    have H := Lib.hid h; have HY := Lib.hid hy; clear h E hg h9 h3 hy
    go_enter Try.func6, Try.ntmps6
    go_wp2_with fail
    refine (implIsSpeakable_any s w hs).mono ?_
    rintro e w1 ⟨rfl, hb⟩
    rw [H.out, ← HY.out]
    have HB := Lib.hid hb; clear hb
    go_wp2_with fail
    refine (HR.out _).mono ?_
    rintro e w2 ⟨rfl, hb⟩
    have HB2 := Lib.hid hb; clear hb
    go_wp2_with fail
    go_ret2
    exact ⟨rfl, below_trans HB.out HB2.out⟩
theorem law_LengthsOf (s : ByteArray) (w : World) (hs : s.size ≤ maxLen) :
    Calls Try.prog 3 #[.string s] w fun e w' => e = .returned (.bool true) ∧ Below w.heap.size w w' := by
  by_cases hb : 1048576 < s.size
  · go_enter Try.func3, Try.ntmps3
    go_wp2_with fail
    go_ret
    exact ⟨rfl, Below.refl _ _⟩
  · have HS := Lib.hid (fun (W : World) => specLengthsOf_any s W hs)
    have HI := Lib.hid (fun (W : World) => implLengthsOf_any s W hs)
    cases hk : lenO s.data.toList
    all_goals
      rw [hk] at HS HI
      unfold strOk at HS HI
      clear hk
      go_enter Try.func3, Try.ntmps3
      go_wp2_with fail
      refine (HS.out _).mono ?_
      rintro e w1 ⟨rfl, h1⟩
      have H1 := Lib.hid h1; clear h1
      go_wp2_with fail
      refine (HI.out _).mono ?_
      rintro e w2 ⟨rfl, h2⟩
      have H2 := Lib.hid h2; clear h2
      go_wp2_with fail
      go_ret
      exact ⟨rfl, below_trans H1.out H2.out⟩
end Go.Proofs.Ytaagfcdniacmnaa
