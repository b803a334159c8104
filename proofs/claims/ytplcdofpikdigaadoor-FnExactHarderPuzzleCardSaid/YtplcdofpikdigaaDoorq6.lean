/- Chapter 9: gaps filled and opened (the program). -/
import Derived.Test.YtplcdofpikdigaaDoorq4
import Derived.Test.YtplcdofpikdigaaDoorS
namespace Go.Proofs.YtplcdofpikdigaaDoor
open Go.RowKit Go.BigFrame Go.Deep
set_option linter.unusedSimpArgs false
set_option linter.unusedVariables false
set_option maxRecDepth 4000

theorem cloneQ_any (s : ByteArray) (w : World) (hs : s.size ≤ 281474976710656) :
    Calls Tryd.prog 45 #[.string s] w fun e w' => e = .returned (.string s) ∧ Below w.heap.size w w' := by
  go_enter Tryd.func45, Tryd.ntmps45
  go_wp2_with fail
  refine (Tryd.stringslite_Clone s w hs).mono ?_
  rintro e w1 ⟨rfl, hb⟩
  have HB := Lib.hid hb; clear hb
  go_wp2_with fail
  go_ret
  exact ⟨rfl, HB.out⟩

/-- A puzzle, or the zero one. -/
def pzIf (b : Bool) (W S : List UInt8) (D : Int) : Value := pzV (if b = true then W else []) (if b = true then S else []) (if b = true then D else 0)
theorem pzIf_true (W S : List UInt8) (D : Int) : pzIf true W S D = .agg #[.string (bs W), .string (bs S), .int .i64 D] := rfl
theorem pzIf_false (W S : List UInt8) (D : Int) : pzIf false W S D = .agg #[.string ⟨#[]⟩, .string ⟨#[]⟩, .int .i64 0] := rfl
/-- The blocks of a call with a puzzle, its result behind it. -/
structure TwoP (w : World) (a b c : Value) (wr : World) : Prop where
  arg : ThreeAt wr w.heap.size a b c 28
  res : ThreeAt wr (w.heap.size + 1) (.string ⟨#[]⟩) (.string ⟨#[]⟩) (.int .i64 0) 28
  below : Below w.heap.size w wr
theorem twoP_new (w : World) (a b c : Value) : TwoP w a b c ((w.alloc (.cells #[a, b, c] 28)).alloc (.cells #[.string ⟨#[]⟩, .string ⟨#[]⟩, .int .i64 0] 28)) := by
  refine ⟨(threeAt_new w a b c _).below (below_alloc _ _), ?_, below_trans (below_alloc _ _) (below_alloc _ _)⟩
  have := threeAt_new (w.alloc (.cells #[a, b, c] 28)) (.string ⟨#[]⟩) (.string ⟨#[]⟩) (.int .i64 0) 28
  rwa [World.size_alloc] at this
theorem TwoP.later {w wr w2 : World} {a b c : Value} (h : TwoP w a b c wr) (hb : Below wr.heap.size wr w2) : TwoP w a b c w2 :=
  ⟨h.arg.below hb, h.res.below hb, below_trans h.below hb⟩
theorem TwoP.drew {w wr : World} {a b c : Value} (h : TwoP w a b c wr) : TwoP w a b c wr.drew := h.later (below_drew _)

set_option maxHeartbeats 2000000 in
theorem withWord_any (W S : List UInt8) (D : Int) (at' : Int) (c : UInt8) (w : World) (hW : W.length ≤ maxLen) (hS : S.length ≤ 281474976710656) :
    Calls Tryd.prog 65 #[pzV W S D, .int .i64 at', .int .u8 (c.toNat : Int)] w fun e w' =>
      e = .returned (.tuple #[pzIf (layB W at' c && pzB W S D) (W.set at'.toNat c) S D, .bool (layB W at' c && pzB W S D)]) ∧ Below w.heap.size w w' := by
  have hL := fun (W0 : World) => laySign_any W at' c W0 hW
  have hI := fun (W0 : World) => implIsPuzzle_any W S D W0 hW (by unfold maxLen; omega)
  have hC := fun (W0 : World) => cloneQ_any (bs S) W0 (by rw [bs_size]; exact hS)
  obtain ⟨b1, hb1⟩ : ∃ b, b = layB W at' c := ⟨_, rfl⟩
  obtain ⟨b2, hb2⟩ : ∃ b, b = pzB W S D := ⟨_, rfl⟩
  rw [← hb1, ← hb2]; simp only [← hb1] at hL; simp only [← hb2] at hI
  clear hb1 hb2 hW hS
  unfold pzV at hI ⊢
  cases b1 with
  | false =>
    rw [Bool.false_and, pzIf_false]
    simp only [Bool.false_eq_true, if_false] at hL
    generalize bs W = t at *
    generalize bs S = u at *
    have HL := Lib.hid hL
    have HT := Lib.hid (twoP_new w (.string t) (.string u) (.int .i64 D))
    clear hL hI hC
    go_enter Tryd.func65, Tryd.ntmps65
    go_wp2_with fail
    refine (HL.out _).mono ?_
    rintro e w1 ⟨rfl, hb⟩
    have ht := HT.out.later hb
    obtain ⟨c0, c1, c2, f0, f1, f2⟩ := ht.res.cells
    have HB := Lib.hid ht.below
    clear hb ht
    go_wp2_with fail
    refine bodyPost_ret (v := .tuple #[.agg #[.string ⟨#[]⟩, .string ⟨#[]⟩, .int .i64 0], .bool false]) ?_ rfl ⟨rfl, three_below HB.out (by omega) _ _ _⟩
    simp [results, Tryd.results65, go_sem, c0, c1, c2]
  | true =>
    rw [Bool.true_and]
    simp only [if_true] at hL
    cases b2 with
    | false =>
      rw [pzIf_false]
      generalize bs (W.set at'.toNat c) = R at *
      generalize bs W = t at *
      generalize bs S = u at *
      have HL := Lib.hid hL; have HI := Lib.hid hI
      have HT := Lib.hid (twoP_new w (.string t) (.string u) (.int .i64 D))
      clear hL hI hC
      go_enter Tryd.func65, Tryd.ntmps65
      go_wp2_with fail
      refine (HL.out _).mono ?_
      rintro e w1 ⟨rfl, hb⟩
      have ht := HT.out.later hb
      obtain ⟨d0, d1, d2, _, _, _⟩ := ht.arg.cells
      have HT1 := Lib.hid ht
      clear hb ht
      go_wp2_with fail
      refine (HI.out _).mono ?_
      rintro e w2 ⟨rfl, hb⟩
      have ht := HT1.out.later hb
      obtain ⟨c0, c1, c2, f0, f1, f2⟩ := ht.res.cells
      have HB := Lib.hid ht.below
      clear hb ht
      go_wp2_with fail
      refine bodyPost_ret (v := .tuple #[.agg #[.string ⟨#[]⟩, .string ⟨#[]⟩, .int .i64 0], .bool false]) ?_ rfl ⟨rfl, three_below HB.out (by omega) _ _ _⟩
      simp [results, Tryd.results65, go_sem, c0, c1, c2]
    | true =>
      rw [show pzIf true (W.set at'.toNat c) S D = .agg #[.string (bs (W.set at'.toNat c)), .string (bs S), .int .i64 D] from rfl]
      generalize bs (W.set at'.toNat c) = R at *
      generalize bs W = t at *
      generalize bs S = u at *
      have HL := Lib.hid hL; have HI := Lib.hid hI; have HC := Lib.hid hC
      have HT := Lib.hid (twoP_new w (.string t) (.string u) (.int .i64 D))
      clear hL hI hC
      go_enter Tryd.func65, Tryd.ntmps65
      go_wp2_with fail
      refine (HL.out _).mono ?_
      rintro e w1 ⟨rfl, hb⟩
      have ht := HT.out.later hb
      obtain ⟨d0, d1, d2, _, _, _⟩ := ht.arg.cells
      have HT1 := Lib.hid ht
      clear hb ht
      go_wp2_with fail
      refine (HI.out _).mono ?_
      rintro e w2 ⟨rfl, hb⟩
      have ht := HT1.out.later hb
      obtain ⟨e0, e1, e2, _, _, _⟩ := ht.arg.cells
      have HT2 := Lib.hid ht
      clear hb ht d0 d1 d2
      go_wp2_with fail
      go_region_with (go_at_call 45; refine (HC.out _).mono ?_; rintro e w3 ⟨rfl, hb⟩; have ht := HT2.out.drew.later hb; obtain ⟨d0, d1, d2, _, _, _⟩ := ht.arg.cells; obtain ⟨c0, c1, c2, f0, f1, f2⟩ := ht.res.cells; have HB := Lib.hid ht.below; clear ht hb)
      all_goals
        go_wp2_with fail
        refine bodyPost_ret (v := .tuple #[.agg #[.string R, .string u, .int .i64 D], .bool true]) ?_ rfl ⟨rfl, three_below HB.out (by omega) _ _ _⟩
        simp [results, Tryd.results65, go_sem, c0, c1, c2]
end Go.Proofs.YtplcdofpikdigaaDoor
