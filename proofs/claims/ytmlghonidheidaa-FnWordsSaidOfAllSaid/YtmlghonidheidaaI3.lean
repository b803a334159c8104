/- The program's SayWord, LengthSaid, IsStill, SumOfWord, and the model's. -/
import Derived.Test.YtmlghonidheidaaI2
namespace Go.Proofs.Ytmlghonidheidaa
open Go.RowKit Go.BigFrame
set_option linter.unusedSimpArgs false
set_option linter.unusedVariables false
set_option maxRecDepth 4000

theorem asWord_any (l : List UInt8) (w : World) (hl : l.length ≤ 1000000) :
    Calls Try.prog 36 #[.string (bs l)] w fun e w' => e = .returned (strOk (if goodL l = true then some l else none)) ∧ Below w.heap.size w w' := by
  have hs : (bs l).size ≤ maxLen := by rw [bs_size]; unfold maxLen; omega
  have hcon := fun (W : World) => implIsWord_any (bs l) W hs
  rw [bs_list] at hcon
  have HC := Lib.hid hcon; clear hcon
  cases hg : goodL l with
  | false =>
    rw [hg] at HC; have HG := Lib.hid hg; clear hg
    go_enter Try.func36, Try.ntmps36
    go_wp2_with fail
    refine (HC.out w).mono ?_
    rintro e w1 ⟨rfl, rfl⟩
    go_wp2_with fail
    go_ret2
    exact ⟨rfl, Below.refl _ _⟩
  | true =>
    rw [hg] at HC; have HG := Lib.hid hg; clear hg
    go_enter Try.func36, Try.ntmps36
    go_wp2_with fail
    refine (HC.out w).mono ?_
    rintro e w1 ⟨rfl, rfl⟩
    go_wp2_with fail
    go_ret2
    exact ⟨rfl, Below.refl _ _⟩

theorem say_len {l : List UInt8} (h : goodL l = true) : (sayL l).length ≤ 16000 := by
  have h2 : l.length ≤ 400 := by unfold goodL at h; simp at h; omega
  refine Nat.le_trans (sayR_len _ (fun p hp => ?_)) (by have := runsL_len l; omega)
  exact Nat.le_trans (le_sum_of_mem _ p hp) (by rw [runsL_sum]; exact h2)
theorem speak_good {l : List UInt8} (h : speakL l = true) : goodL l = true := by unfold speakL at h; simp at h; exact h.1

theorem implSayWord_any (s : ByteArray) (w : World) (hs : s.size ≤ maxLen) :
    Calls Try.prog 7 #[.string s] w fun e w' => e = .returned (strOk (saidO s.data.toList)) ∧ Below w.heap.size w w' := by
  obtain ⟨y, hy⟩ : ∃ y, y = goodL s.data.toList := ⟨_, rfl⟩
  have HY := Lib.hid hy; clear hy
  cases hk : speakL s.data.toList with
  | false =>
    have HK := Lib.hid hk; clear hk
    go_enter Try.func7, Try.ntmps7
    go_wp2_with fail
    refine (implIsSpeakable_any s w hs).mono ?_
    rintro e w1 ⟨rfl, hb⟩
    rw [HK.out, ← HY.out]
    have HB := Lib.hid hb; clear hb
    go_wp2_with fail
    go_ret2
    exact ⟨by unfold saidO; rw [if_neg (by rw [HK.out]; simp)]; rfl, HB.out⟩
  | true =>
    have hl := say_len (speak_good hk)
    have HK := Lib.hid hk
    have hst := fun (W : World) => sayText_any s W hk
    have HST := Lib.hid hst; clear hst hk
    cases hg : goodL (sayL s.data.toList) with
    | false =>
      have hcon := fun (W : World) => asWord_any (sayL s.data.toList) W (by omega)
      rw [hg, if_neg (by simp)] at hcon
      have HC := Lib.hid hcon; have HG := Lib.hid hg; clear hg hcon
      go_enter Try.func7, Try.ntmps7
      go_wp2_with fail
      refine (implIsSpeakable_any s w hs).mono ?_
      rintro e w1 ⟨rfl, hb⟩
      rw [HK.out, ← HY.out]
      have HB := Lib.hid hb; clear hb
      go_wp2_with fail
      refine (HST.out w1).mono ?_
      rintro e w2 ⟨rfl, hb⟩
      have HB2 := Lib.hid hb; clear hb
      go_wp2_with fail
      refine (HC.out w2).mono ?_
      rintro e w3 ⟨rfl, hb⟩
      have HB3 := Lib.hid hb; clear hb
      unfold strOk
      go_wp2_with fail
      go_ret2
      exact ⟨by unfold saidO; rw [if_neg (by rw [HG.out]; simp)]; rfl, below_trans HB.out (below_trans HB2.out HB3.out)⟩
    | true =>
      have hcon := fun (W : World) => asWord_any (sayL s.data.toList) W (by omega)
      rw [hg, if_pos rfl] at hcon
      have HC := Lib.hid hcon; have HG := Lib.hid hg; clear hg hcon
      go_enter Try.func7, Try.ntmps7
      go_wp2_with fail
      refine (implIsSpeakable_any s w hs).mono ?_
      rintro e w1 ⟨rfl, hb⟩
      rw [HK.out, ← HY.out]
      have HB := Lib.hid hb; clear hb
      go_wp2_with fail
      refine (HST.out w1).mono ?_
      rintro e w2 ⟨rfl, hb⟩
      have HB2 := Lib.hid hb; clear hb
      go_wp2_with fail
      refine (HC.out w2).mono ?_
      rintro e w3 ⟨rfl, hb⟩
      have HB3 := Lib.hid hb; clear hb
      unfold strOk
      go_wp2_with fail
      go_ret2
      exact ⟨by unfold saidO; rw [if_pos ⟨HK.out, HG.out⟩]; rfl, below_trans HB.out (below_trans HB2.out HB3.out)⟩

theorem saidO_len {l m : List UInt8} (h : saidO l = some m) : 1 ≤ m.length ∧ m.length ≤ 400 := by
  unfold saidO at h
  split at h
  · rename_i hh
    simp at h; subst h
    have := hh.2; unfold goodL at this; simp at this; omega
  · cases h
end Go.Proofs.Ytmlghonidheidaa
