/- LengthsOf: the model's, the program's, the law. -/
import Derived.Test.YthbjaclobllkhaaD3
import Derived.Test.YthbjaclobllkhaaD4
namespace Go.Proofs.Ythbjaclobllkhaa
open Go.RowKit Go.BigFrame
set_option linter.unusedSimpArgs false
set_option linter.unusedVariables false
set_option maxRecDepth 4000

def lenO (l : List UInt8) : Option (List UInt8) := if speakL l = true then some (lensL l) else none
theorem speak_parts {s : ByteArray} (h : speakL s.data.toList = true) : goodL s.data.toList = true ∧ longL s.data.toList ≤ 9 := by
  unfold speakL at h
  simp only [Bool.and_eq_true, decide_eq_true_eq] at h
  exact h
theorem specLengthsOf_any (s : ByteArray) (w : World) (hs : s.size ≤ maxLen) :
    Calls Try.prog 24 #[.string s] w fun e w' => e = .returned (strOk (lenO s.data.toList)) ∧ Below w.heap.size w w' := by
  cases h : speakL s.data.toList with
  | false =>
    have E : lenO s.data.toList = none := by unfold lenO; rw [h]; rfl
    rw [E]
    have H := Lib.hid h; clear h E
    go_enter Try.func24, Try.ntmps24
    go_wp2_with fail
    refine (woSpeakable_any s w hs).mono ?_
    rintro e w1 ⟨rfl, hb⟩
    rw [H.out]
    have HB := Lib.hid hb; clear hb
    go_wp2_with fail
    go_ret2
    exact ⟨rfl, HB.out⟩
  | true =>
    obtain ⟨hg, h9⟩ := speak_parts h
    obtain ⟨h1, h2, h3⟩ := goodL_parts hg
    have E : lenO s.data.toList = some (lensL s.data.toList) := by unfold lenO; rw [h]; rfl
    rw [E]
    have HR := Lib.hid (fun (W : World) => ruLengths_any s W h2 h3 h9)
    have H := Lib.hid h; clear h E hg h9 h3
    go_enter Try.func24, Try.ntmps24
    go_wp2_with fail
    refine (woSpeakable_any s w hs).mono ?_
    rintro e w1 ⟨rfl, hb⟩
    rw [H.out]
    have HB := Lib.hid hb; clear hb
    go_wp2_with fail
    refine (HR.out _).mono ?_
    rintro e w2 ⟨rfl, hb⟩
    have HB2 := Lib.hid hb; clear hb
    go_wp2_with fail
    go_ret2
    exact ⟨rfl, below_trans HB.out HB2.out⟩
theorem implLengthsOf_any (s : ByteArray) (w : World) (hs : s.size ≤ maxLen) :
    Calls Try.prog 9 #[.string s] w fun e w' => e = .returned (strOk (lenO s.data.toList)) ∧ Below w.heap.size w w' := by
  obtain ⟨y, hy⟩ : ∃ y, y = goodL s.data.toList := ⟨_, rfl⟩
  cases h : speakL s.data.toList with
  | false =>
    have E : lenO s.data.toList = none := by unfold lenO; rw [h]; rfl
    rw [E]
    have H := Lib.hid h; have HY := Lib.hid hy; clear h E hy
    go_enter Try.func9, Try.ntmps9
    go_wp2_with fail
    refine (implIsSpeakable_any s w hs).mono ?_
    rintro e w1 ⟨rfl, hb⟩
    rw [H.out, ← HY.out]
    have HB := Lib.hid hb; clear hb
    go_wp2_with fail
    go_ret2
    exact ⟨rfl, HB.out⟩
  | true =>
    obtain ⟨hg, h9⟩ := speak_parts h
    obtain ⟨h1, h2, h3⟩ := goodL_parts hg
    have E : lenO s.data.toList = some (lensL s.data.toList) := by unfold lenO; rw [h]; rfl
    rw [E]
    have HR := Lib.hid (fun (W : World) => lengthsText_any s W h2 h3 h9)
    have H := Lib.hid h; have HY := Lib.hid hy; clear h E hg h9 h3 hy
    go_enter Try.func9, Try.ntmps9
    go_wp2_with fail
    refine (implIsSpeakable_any s w hs).mono ?_
    rintro e w1 ⟨rfl, hb⟩
    rw [H.out, ← HY.out]
    have HB := Lib.hid hb; clear hb
    go_wp2_with fail
    refine (HR.out _).mono ?_
    rintro e w2 ⟨rfl, hb⟩
    have HB2 := Lib.hid hb; clear hb
    go_wp2_with fail
    go_ret2
    exact ⟨rfl, below_trans HB.out HB2.out⟩
end Go.Proofs.Ythbjaclobllkhaa
