/- Chapter 9: HarderPuzzle, the program's. -/
import Derived.Test.YtplcdofpikdigaaDooroj
import Derived.Test.YtplcdofpikdigaaDoorq8
namespace Go.Proofs.YtplcdofpikdigaaDoor
open Go.RowKit Go.BigFrame
set_option linter.unusedSimpArgs false
set_option linter.unusedVariables false
set_option maxRecDepth 4000

theorem sgB_gap (D : Int) : sgB D 46 = true := by unfold sgB; simp
theorem all_set {l : List UInt8} {p : UInt8 → Bool} (h : l.all p = true) (hp : p 46 = true) (k : Nat) : (l.set k 46).all p = true := by
  rw [List.all_eq_true] at *
  intro c hc
  rcases List.mem_or_eq_of_mem_set hc with h1 | h1
  · exact h c h1
  · rw [h1]; exact hp
theorem pzB_setW {W S : List UInt8} {D : Int} (h : pzB W S D = true) (k : Nat) : pzB (W.set k 46) S D = true := by
  unfold pzB at *
  simp only [Bool.and_eq_true] at *
  exact ⟨⟨by rw [List.length_set]; exact h.1.1, all_set h.1.2 (sgB_gap D) k⟩, h.2⟩
theorem pzB_setS {W S : List UInt8} {D : Int} (h : pzB W S D = true) (k : Nat) : pzB W (S.set k 46) D = true := by
  unfold pzB at *
  simp only [Bool.and_eq_true] at *
  exact ⟨⟨by rw [List.length_set]; exact h.1.1, h.1.2⟩, all_set h.2 (sgB_gap 9) k⟩
/-- A puzzle with just one solution. -/
def oneB (W S : List UInt8) (D : Int) : Bool := pzB W S D && decide ((solsL W S D.toNat).length = 1)
theorem oneB_sol (W S : List UInt8) (D : Int) : oneB W S D = ((solO W S D 1).isSome && decide (((solO W S D 1).getD []).length = 1)) := by
  unfold oneB solO
  by_cases h : pzB W S D = true
  · by_cases h2 : (solsL W S D.toNat).length ≤ 1
    · simp [h, h2]
    · have : ¬ (solsL W S D.toNat).length = 1 := by omega
      simp [h, h2, this]
  · simp [h]

set_option maxHeartbeats 1000000 in
theorem hasOne_any (W S : List UInt8) (D : Int) (w : World) (hW : W.length ≤ maxLen) (hS : S.length ≤ maxLen) :
    Calls Tryd.prog 44 #[pzV W S D] w fun e w' => e = .returned (.bool (oneB W S D)) ∧ Below w.heap.size w w' := by
  have H := Lib.hid (fun W0 => solutionsUpTo_any W S D 1 W0 hW hS (by omega))
  rw [oneB_sol]
  unfold SolOk at H
  generalize (solO W S D 1).getD [] = L at *
  generalize (solO W S D 1).isSome = b at *
  generalize solO W S D 1 = o at *
  generalize hv : pzV W S D = v at *
  unfold pzV at hv
  subst hv
  obtain ⟨n, hn⟩ : ∃ n, n = L.length := ⟨_, rfl⟩
  rw [← hn] at H ⊢
  clear hn
  obtain ⟨R, hR⟩ : ∃ R, R = (b && decide (n = 1)) := ⟨_, rfl⟩
  rw [← hR]
  cases b with
  | false =>
    obtain rfl : R = false := by rw [hR]; rfl
    clear hR
    go_enter Tryd.func44, Tryd.ntmps44
    go_wp2_with fail
    refine (H.out _).mono ?_
    rintro e w1 ⟨a, c, rfl, _, hb, _⟩
    have HB := Lib.hid (below_trans (below_alloc _ _) hb); clear hb
    go_wp2_with fail
    go_ret
    exact ⟨rfl, HB.out⟩
  | true =>
    have h1 : ((n : Int) == 1) = R := by
      rw [hR, Bool.true_and, Bool.eq_iff_iff]
      simp
      omega
    clear hR
    go_enter Tryd.func44, Tryd.ntmps44
    go_wp2_with fail
    refine (H.out _).mono ?_
    rintro e w1 ⟨a, c, rfl, _, hb, _⟩
    have HB := Lib.hid (below_trans (below_alloc _ _) hb); clear hb
    go_wp2_with fail
    go_ret
    exact ⟨rfl, HB.out⟩
theorem threeAt_put {w : World} {g : Nat} {a b c : Value} {T : TypeId} (h : ThreeAt w g a b c T) (x y z : Value) : ThreeAt (((w.setCell ⟨g, 0, none⟩ x).setCell ⟨g, 1, none⟩ y).setCell ⟨g, 2, none⟩ z) g x y z T := by
  unfold ThreeAt at *
  have h1 : (w.setCell ⟨g, 0, none⟩ x).heap[g]? = some (.cells #[x, b, c] T (0, 0)) := by rw [heap_setCell_same w g 0 _ _ _ h]; rfl
  have h2 : ((w.setCell ⟨g, 0, none⟩ x).setCell ⟨g, 1, none⟩ y).heap[g]? = some (.cells #[x, y, c] T (0, 0)) := by rw [heap_setCell_same _ g 1 _ _ _ h1]; rfl
  rw [heap_setCell_same _ g 2 _ _ _ h2]; rfl

/-- A puzzle opened, if it has just one solution then. -/
def opV (b : Bool) (W2 S2 : List UInt8) (D2 : Int) (W S : List UInt8) (D : Int) : Value := if (b && oneB W2 S2 D2) = true then pzV W2 S2 D2 else pzV W S D
set_option maxHeartbeats 2000000 in
theorem openIfOne_any (F : FuncId) (W S W2 S2 : List UInt8) (D D2 k : Int) (b : Bool) (w : World) (hW : W2.length ≤ maxLen) (hS : S2.length ≤ maxLen)
    (hE : ∀ (W0 : World) (args : Array Value), (callFunc F args).run Tryd.prog W0 = .ok (.enter F args) W0)
    (hF : ∀ W0 : World, Calls Tryd.prog F #[pzV W S D, .int .i64 k] W0 fun e w' => e = .returned (.tuple #[pzV W2 S2 D2, .bool b]) ∧ Below W0.heap.size W0 w') :
    Calls Tryd.prog 46 #[pzV W S D, .int .i64 k, .func (.func F) #[] #[]] w fun e w' => e = .returned (opV b W2 S2 D2 W S D) ∧ Below w.heap.size w w' := by
  have hH := fun W0 => hasOne_any W2 S2 D2 W0 hW hS
  unfold opV
  generalize oneB W2 S2 D2 = b2 at *
  unfold pzV at hF hH ⊢
  generalize bs W = t at *
  generalize bs S = u at *
  generalize bs W2 = t2 at *
  generalize bs S2 = u2 at *
  have HF := Lib.hid hF; have HH := Lib.hid hH
  have HT := Lib.hid (twoP_new w (.string t) (.string u) (.int .i64 D))
  clear hF hH hW hS
  cases b with
  | false =>
    rw [Bool.false_and, if_neg Bool.false_ne_true]
    obtain ⟨c0, c1, c2, _, _, _⟩ := HT.out.arg.cells
    go_enter Tryd.func46, Tryd.ntmps46
    go_wp2_with fail
    refine (HF.out _).mono ?_
    rintro e w1 ⟨rfl, hb⟩
    have ht1 := (HT.out.later hb).later (below_alloc w1 (.cells #[.string t2, .string u2, .int .i64 D2] 28))
    have HN1 := Lib.hid (threeAt_new w1 (.string t2) (.string u2) (.int .i64 D2) 28)
    have hsz1 := (HT.out.later hb).below.size
    clear hb c0 c1 c2
    obtain ⟨c0, c1, c2, _, _, _⟩ := ht1.arg.cells
    obtain ⟨r0, r1, r2, f0, f1, f2⟩ := ht1.res.cells
    obtain ⟨n0, n1, n2, _, _, _⟩ := HN1.out.cells
    have HB1 := Lib.hid ht1.below
    have HT1 := Lib.hid ht1; clear ht1
    go_wp2_with fail
    refine bodyPost_ret (v := .agg #[.string t, .string u, .int .i64 D]) ?_ rfl ⟨rfl, three_below HB1.out (by omega) _ _ _⟩
    simp [results, Tryd.results46, go_sem, r0, r1, r2]
  | true =>
    rw [Bool.true_and]
    cases b2 with
    | false =>
      rw [if_neg Bool.false_ne_true]
      obtain ⟨c0, c1, c2, _, _, _⟩ := HT.out.arg.cells
      go_enter Tryd.func46, Tryd.ntmps46
      go_wp2_with fail
      refine (HF.out _).mono ?_
      rintro e w1 ⟨rfl, hb⟩
      have ht1 := (HT.out.later hb).later (below_alloc w1 (.cells #[.string t2, .string u2, .int .i64 D2] 28))
      have HN1 := Lib.hid (threeAt_new w1 (.string t2) (.string u2) (.int .i64 D2) 28)
      have hsz1 := (HT.out.later hb).below.size
      clear hb c0 c1 c2
      obtain ⟨c0, c1, c2, _, _, _⟩ := ht1.arg.cells
      obtain ⟨r0, r1, r2, f0, f1, f2⟩ := ht1.res.cells
      obtain ⟨n0, n1, n2, _, _, _⟩ := HN1.out.cells
      have HB1 := Lib.hid ht1.below
      have HT1 := Lib.hid ht1; clear ht1
      go_wp2_with fail
      refine (HH.out _).mono ?_
      rintro e w2 ⟨rfl, hb⟩
      have ht2 := HT1.out.later hb
      have hn2 := HN1.out.below hb
      clear c0 c1 c2 r0 r1 r2 f0 f1 f2 n0 n1 n2
      obtain ⟨c0, c1, c2, _, _, _⟩ := ht2.arg.cells
      obtain ⟨r0, r1, r2, f0, f1, f2⟩ := ht2.res.cells
      obtain ⟨n0, n1, n2, _, _, _⟩ := hn2.cells
      have HB2 := Lib.hid ht2.below
      clear ht2 hn2 hb
      go_wp2_with fail
      refine bodyPost_ret (v := .agg #[.string t, .string u, .int .i64 D]) ?_ rfl ⟨rfl, three_below HB2.out (by omega) _ _ _⟩
      simp [results, Tryd.results46, go_sem, r0, r1, r2]
    | true =>
      rw [if_pos rfl]
      obtain ⟨c0, c1, c2, _, _, _⟩ := HT.out.arg.cells
      go_enter Tryd.func46, Tryd.ntmps46
      go_wp2_with fail
      refine (HF.out _).mono ?_
      rintro e w1 ⟨rfl, hb⟩
      have ht1 := (HT.out.later hb).later (below_alloc w1 (.cells #[.string t2, .string u2, .int .i64 D2] 28))
      have HN1 := Lib.hid (threeAt_new w1 (.string t2) (.string u2) (.int .i64 D2) 28)
      have hsz1 := (HT.out.later hb).below.size
      clear hb c0 c1 c2
      obtain ⟨c0, c1, c2, _, _, _⟩ := ht1.arg.cells
      obtain ⟨r0, r1, r2, f0, f1, f2⟩ := ht1.res.cells
      obtain ⟨n0, n1, n2, _, _, _⟩ := HN1.out.cells
      have HB1 := Lib.hid ht1.below
      have HT1 := Lib.hid ht1; clear ht1
      go_wp2_with fail
      refine (HH.out _).mono ?_
      rintro e w2 ⟨rfl, hb⟩
      have ht2 := HT1.out.later hb
      have hn2 := HN1.out.below hb
      clear c0 c1 c2 r0 r1 r2 f0 f1 f2 n0 n1 n2
      obtain ⟨c0, c1, c2, _, _, _⟩ := ht2.arg.cells
      obtain ⟨r0, r1, r2, f0, f1, f2⟩ := ht2.res.cells
      obtain ⟨n0, n1, n2, _, _, _⟩ := hn2.cells
      have HB2 := Lib.hid ht2.below
      clear ht2 hn2 hb
      go_wp2_with fail
      refine bodyPost_ret (v := .agg #[.string t2, .string u2, .int .i64 D2]) ?_ rfl ⟨rfl, three_below HB2.out (by omega) _ _ _⟩
      simp [results, Tryd.results46, go_sem, r0, r1, r2]
end Go.Proofs.YtplcdofpikdigaaDoor
