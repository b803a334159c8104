/- Chapter 9: the program's MakePuzzle. -/
import Derived.Test.Ytplcdofpikdigaaqg
import Derived.Test.YtplcdofpikdigaaI2
namespace Go.Proofs.Ytplcdofpikdigaa
open Go.RowKit Go.BigFrame Go.Deep
set_option linter.unusedSimpArgs false
set_option linter.unusedVariables false
set_option maxRecDepth 4000

/-- May a puzzle be made? -/
def rBMakePuzzle (l : List UInt8) (D sd : Int) : Bool := goodL l && decide (l.length ≤ 8) && decide ((0 : Int) ≤ sd ∧ sd ≤ 9999) && pzB l (sayL l) D
def rWMakePuzzle (l : List UInt8) (D sd : Int) : List UInt8 := if rBMakePuzzle l D sd = true then gapT sd.toNat l l.length else []
def rSMakePuzzle (l : List UInt8) (D sd : Int) : List UInt8 := if rBMakePuzzle l D sd = true then gapT (itZ sd.toNat l.length) (sayL l) (sayL l).length else []
def rDMakePuzzle (l : List UInt8) (D sd : Int) : Int := if rBMakePuzzle l D sd = true then D else 0
theorem sayB_short {l : List UInt8} (h : goodL l = true) (h8 : l.length ≤ 8) : sayB l = true := by
  have hh : goodL l = true := h
  unfold goodL at h
  simp only [Bool.and_eq_true, decide_eq_true_eq] at h
  refine sayB_iff.2 ⟨fun e => by rw [e] at h; simp at h, h.2, ?_⟩
  have := longL_le l
  omega
theorem threeAt_set0 {w : World} {g : Nat} {a b c : Value} {T : TypeId} (h : ThreeAt w g a b c T) (v : Value) : ThreeAt (w.setCell ⟨g, 0, none⟩ v) g v b c T := by
  unfold ThreeAt at *
  rw [heap_setCell_same w g 0 _ _ _ h]; rfl
theorem threeAt_set1 {w : World} {g : Nat} {a b c : Value} {T : TypeId} (h : ThreeAt w g a b c T) (v : Value) : ThreeAt (w.setCell ⟨g, 1, none⟩ v) g a v c T := by
  unfold ThreeAt at *
  rw [heap_setCell_same w g 1 _ _ _ h]; rfl
theorem ThreeAt.other {w : World} {g : Nat} {a b c : Value} {T : TypeId} (h : ThreeAt w g a b c T) {x : Addr} (v : Value) (hx : g ≠ x.block) : ThreeAt (w.setCell x v) g a b c T := (Below.heap_setCell _ _ _ _ hx).trans h
theorem ThreeAt.but {w w' : World} {g p : Nat} {a b c : Value} {T : TypeId} (h : ThreeAt w g a b c T) (k : ButP p w w') (hg : g ≠ p) : ThreeAt w' g a b c T := (k.block g h.lt hg).trans h

set_option maxHeartbeats 4000000 in
theorem implMakePuzzle_any (s : ByteArray) (l : List UInt8) (hsl : l = s.data.toList) (D sd : Int) (w : World) (hs : s.size ≤ maxLen) :
    Calls Try.prog 27 #[.string s, .int .i64 D, .int .i64 sd] w fun e w' => e = .returned (.tuple #[pzV (rWMakePuzzle l D sd) (rSMakePuzzle l D sd) (rDMakePuzzle l D sd), .bool (rBMakePuzzle l D sd)]) ∧ Below w.heap.size w w' := by
  have hW := fun (W0 : World) => implIsWord_any s W0 hs
  rw [← hsl] at hW
  have hbs : s = bs l := by rw [hsl]; exact bs_eq rfl
  show Calls Try.prog 27 #[.string s, .int .i64 D, .int .i64 sd] w fun e w' => e = .returned (.tuple #[pzIf (rBMakePuzzle l D sd) (gapT sd.toNat l l.length) (gapT (itZ sd.toNat l.length) (sayL l) (sayL l).length) D, .bool (rBMakePuzzle l D sd)]) ∧ Below w.heap.size w w'
  obtain ⟨G, hG⟩ : ∃ G, G = rBMakePuzzle l D sd := ⟨_, rfl⟩
  rw [← hG]
  unfold rBMakePuzzle at hG
  have hR0 := Lib.hid (threeAt_new w (.string ⟨#[]⟩) (.string ⟨#[]⟩) (.int .i64 0) 26)
  have hsz : s.size = l.length := by rw [hsl]; simp
  cases hg : goodL l with
  | false =>
    obtain rfl : G = false := by rw [hG, hg]; rfl
    rw [hg] at hW
    have HW := Lib.hid hW
    rw [pzIf_false]
    obtain ⟨c0, c1, c2, f0, f1, f2⟩ := hR0.out.cells
    have HB := Lib.hid (below_alloc w (.cells #[.string ⟨#[]⟩, .string ⟨#[]⟩, .int .i64 0] 26))
    clear hW hG hg hbs hsl hsz
    go_enter Try.func27, Try.ntmps27
    go_wp2_with fail
    refine (HW.out _).mono ?_
    rintro e w1 ⟨rfl, rfl⟩
    go_wp2_with fail
    first
    | (refine bodyPost_ret (v := .tuple #[.agg #[.string ⟨#[]⟩, .string ⟨#[]⟩, .int .i64 0], .bool false]) ?_ rfl ⟨rfl, three_below HB.out (by omega) _ _ _⟩
       simp [results, Try.results27, go_sem, c0, c1, c2])
    | (refine bodyPost_ret (v := .tuple #[.agg #[.string ⟨#[]⟩, .string ⟨#[]⟩, .int .i64 0], .bool false]) ?_ rfl ⟨rfl, HB.out⟩
       simp [results, Try.results27, go_sem, c0, c1, c2])
  | true =>
    rw [hg] at hW hG
    by_cases h8 : l.length ≤ 8
    · rw [decide_eq_true h8] at hG
      obtain ⟨v, hv⟩ : ∃ v, v = decide ((0 : Int) ≤ sd ∧ sd ≤ 9999) := ⟨_, rfl⟩
      rw [← hv] at hG
      have HI := Lib.hid (fun (W0 : World) => isWithin_is v sd 0 9999 W0 hv.symm)
      have h88 : s.size ≤ 8 := by omega
      cases v with
      | false =>
        obtain rfl : G = false := by rw [hG]; rfl
        have HW := Lib.hid hW
        rw [pzIf_false]
        obtain ⟨c0, c1, c2, f0, f1, f2⟩ := hR0.out.cells
        have HB := Lib.hid (below_alloc w (.cells #[.string ⟨#[]⟩, .string ⟨#[]⟩, .int .i64 0] 26))
        clear hW hG hg hbs hsl hsz hv
        go_enter Try.func27, Try.ntmps27
        go_wp2_with fail
        refine (HW.out _).mono ?_
        rintro e w1 ⟨rfl, rfl⟩
        go_wp2_with fail
        refine (HI.out _).mono ?_
        rintro e w1 ⟨rfl, rfl⟩
        go_wp2_with fail
        first
        | (refine bodyPost_ret (v := .tuple #[.agg #[.string ⟨#[]⟩, .string ⟨#[]⟩, .int .i64 0], .bool false]) ?_ rfl ⟨rfl, three_below HB.out (by omega) _ _ _⟩
           simp [results, Try.results27, go_sem, c0, c1, c2])
        | (refine bodyPost_ret (v := .tuple #[.agg #[.string ⟨#[]⟩, .string ⟨#[]⟩, .int .i64 0], .bool false]) ?_ rfl ⟨rfl, HB.out⟩
           simp [results, Try.results27, go_sem, c0, c1, c2])
      | true =>
        have hin : (0 : Int) ≤ sd ∧ sd ≤ 9999 := of_decide_eq_true hv.symm
        obtain ⟨z, rfl⟩ := Int.eq_ofNat_of_zero_le hin.1
        rw [Int.toNat_natCast]
        have hz : z ≤ 10008 := by omega
        have hsay := sayB_short hg h8
        have hsl2 := say_len_le hsay
        have hSY := fun (W0 : World) => sayText_long s W0 (by rw [← hsl]; exact hsay) (by omega)
        rw [← hsl] at hSY
        obtain ⟨S, hS⟩ : ∃ S, S = sayL l := ⟨_, rfl⟩
        rw [← hS] at hSY hG hsl2 ⊢
        have hIP := fun (W0 : World) => implIsPuzzle_any l S D W0 (by unfold maxLen; omega) (by unfold maxLen; omega)
        obtain ⟨g, hgp⟩ : ∃ g, g = pzB l S D := ⟨_, rfl⟩
        simp only [← hgp] at hIP
        rw [← hgp] at hG
        rw [hbs] at hW hSY h88 ⊢
        unfold pzV at hIP
        clear hbs hsl hsz hs s
        cases g with
        | false =>
          obtain rfl : G = false := by rw [hG]; rfl
          rw [pzIf_false]
          generalize bs l = t at *
          generalize bs S = u at *
          have HW := Lib.hid hW; have HSY := Lib.hid hSY; have HIP := Lib.hid hIP
          clear hW hG hg hv hSY hIP hin hsay hsl2 hgp hS
          go_enter Try.func27, Try.ntmps27
          go_wp2_with fail
          refine (HW.out _).mono ?_
          rintro e w1 ⟨rfl, rfl⟩
          go_wp2_with fail
          refine (HI.out _).mono ?_
          rintro e w1 ⟨rfl, rfl⟩
          go_wp2_with fail
          refine (HSY.out _).mono ?_
          rintro e w2 ⟨rfl, hb⟩
          have hr2 := hR0.out.below hb
          have HB2 := Lib.hid (below_trans (below_alloc _ _) hb)
          have HR3 := Lib.hid (hr2.below (below_alloc w2 (.cells #[.string t, .string u, .int .i64 D] 26)))
          clear hb hr2
          go_wp2_with fail
          refine (HIP.out _).mono ?_
          rintro e w3 ⟨rfl, hb⟩
          have hr3 := HR3.out.below hb
          obtain ⟨c0, c1, c2, f0, f1, f2⟩ := hr3.cells
          have HB3 := Lib.hid (below_trans HB2.out (below_trans (below_alloc _ _) hb))
          clear hb hr3
          go_wp2_with fail
          refine bodyPost_ret (v := .tuple #[.agg #[.string ⟨#[]⟩, .string ⟨#[]⟩, .int .i64 0], .bool false]) ?_ rfl ⟨rfl, three_below HB3.out (by omega) _ _ _⟩
          simp [results, Try.results27, go_sem, c0, c1, c2]
        | true =>
          obtain rfl : G = true := by rw [hG]; rfl
          have hg1 := fun (p : Nat) (W0 : World) (h : NumAt W0 p z) => withGaps_any l z p W0 (by omega) hz h
          have hz2 : itZ z l.length ≤ 10008 := itZ_le z hz _
          have hg2 := fun (p : Nat) (W0 : World) (h : NumAt W0 p (itZ z l.length)) => withGaps_any S (itZ z l.length) p W0 (by omega) hz2 h
          rw [show pzIf true (gapT z l l.length) (gapT (itZ z l.length) S S.length) D = .agg #[.string (bs (gapT z l l.length)), .string (bs (gapT (itZ z l.length) S S.length)), .int .i64 D] from rfl]
          generalize bs (gapT z l l.length) = t2 at *
          generalize bs (gapT (itZ z l.length) S S.length) = u2 at *
          generalize itZ z l.length = z2 at *
          generalize itZ z2 S.length = z3 at *
          generalize bs l = t at *
          generalize bs S = u at *
          have HW := Lib.hid hW; have HSY := Lib.hid hSY; have HIP := Lib.hid hIP; have HG1 := Lib.hid hg1; have HG2 := Lib.hid hg2
          clear hW hG hg hv hSY hIP hin hsay hsl2 hgp hS hg1 hg2 hz2
          go_enter Try.func27, Try.ntmps27
          go_wp2_with fail
          refine (HW.out _).mono ?_
          rintro e w1 ⟨rfl, rfl⟩
          go_wp2_with fail
          refine (HI.out _).mono ?_
          rintro e w1 ⟨rfl, rfl⟩
          go_wp2_with fail
          refine (HSY.out _).mono ?_
          rintro e w2 ⟨rfl, hb⟩
          have hr2 := hR0.out.below hb
          have HB2 := Lib.hid (below_trans (below_alloc _ _) hb)
          have hlt2 : w.heap.size < w2.heap.size := hr2.lt
          have HR3 := Lib.hid (hr2.below (below_alloc w2 (.cells #[.string t, .string u, .int .i64 D] 26)))
          have HP3 := Lib.hid (threeAt_new w2 (.string t) (.string u) (.int .i64 D) 26)
          clear hb hr2
          go_wp2_with fail
          refine (HIP.out _).mono ?_
          rintro e w3 ⟨rfl, hb⟩
          have hr3 := HR3.out.below hb
          have hp3 := HP3.out.below hb
          have hB3 := below_trans HB2.out (below_trans (below_alloc _ _) hb)
          have hlt3 : w2.heap.size < w3.heap.size := hp3.lt
          obtain ⟨w4, hw4⟩ : ∃ w4, w4 = w3.alloc (.cells #[.int .i64 (z : Int)] 3) := ⟨_, rfl⟩
          have hr4 : ThreeAt w4 w.heap.size (.string ⟨#[]⟩) (.string ⟨#[]⟩) (.int .i64 0) 26 := by rw [hw4]; exact hr3.below (below_alloc _ _)
          have hp4 : ThreeAt w4 w2.heap.size (.string t) (.string u) (.int .i64 D) 26 := by rw [hw4]; exact hp3.below (below_alloc _ _)
          have hn4 : NumAt w4 w3.heap.size z := by rw [hw4]; exact heap_alloc_new _ _
          have hB4 : Below w.heap.size w w4 := by rw [hw4]; exact below_trans hB3 (below_alloc _ _)
          have hlw : w2.heap.size < w4.heap.size := hp4.lt
          have hcall := HG1.out w3.heap.size w4 hn4
          rw [hw4] at hcall
          obtain ⟨d0, d1, d2, _, _, _⟩ := hp3.cells
          have HC4 := Lib.hid hcall; have HR4 := Lib.hid hr4; have HP4 := Lib.hid hp4; have HB4 := Lib.hid hB4; have HW4 := Lib.hid hw4
          have HLT := Lib.hid hlt3; have HLT2 := Lib.hid hlt2
          clear hb hr3 hp3 hB3 hw4 hr4 hp4 hn4 hB4 hcall
          go_wp2_with fail
          refine HC4.out.mono ?_
          rintro e w5 ⟨rfl, hn5, hk5⟩
          rw [← HW4.out] at hk5
          have hl1 := HLT.out; have hl2 := HLT2.out
          have hr5 := HR4.out.but hk5 (show w.heap.size ≠ w3.heap.size by omega)
          have hp5 := HP4.out.but hk5 (show w2.heap.size ≠ w3.heap.size by omega)
          have hB5 : Below w.heap.size w w5 := HB4.out.trans (butP_to hk5 (by omega) HB4.out.size)
          obtain ⟨w6, hw6⟩ : ∃ w6, w6 = w5.setCell ⟨w2.heap.size, 0, none⟩ (.string t2) := ⟨_, rfl⟩
          have hp6 : ThreeAt w6 w2.heap.size (.string t2) (.string u) (.int .i64 D) 26 := by rw [hw6]; exact threeAt_set0 hp5 _
          have hr6 : ThreeAt w6 w.heap.size (.string ⟨#[]⟩) (.string ⟨#[]⟩) (.int .i64 0) 26 := by rw [hw6]; exact hr5.other _ (show w.heap.size ≠ w2.heap.size by omega)
          have hn6 : NumAt w6 w3.heap.size z2 := by rw [hw6]; exact hn5.other _ (show w3.heap.size ≠ w2.heap.size by omega)
          have hB6 : Below w.heap.size w w6 := by rw [hw6]; exact hB5.setCell (show w.heap.size ≤ w2.heap.size by omega) _
          have hcall := HG2.out w3.heap.size w6 hn6
          rw [hw6] at hcall
          obtain ⟨d0, d1, d2, g0, g1, g2⟩ := hp5.cells
          have HC6 := Lib.hid hcall; have HR6 := Lib.hid hr6; have HP6 := Lib.hid hp6; have HB6 := Lib.hid hB6; have HW6 := Lib.hid hw6
          clear hn5 hk5 hr5 hp5 hB5 hw6 hp6 hr6 hn6 hB6 hcall hl1 hl2
          go_wp2_with fail
          refine HC6.out.mono ?_
          rintro e w7 ⟨rfl, _, hk7⟩
          rw [← HW6.out] at hk7
          have hl1 := HLT.out; have hl2 := HLT2.out
          have hr7 := HR6.out.but hk7 (show w.heap.size ≠ w3.heap.size by omega)
          have hp7 := HP6.out.but hk7 (show w2.heap.size ≠ w3.heap.size by omega)
          have hB7 : Below w.heap.size w w7 := HB6.out.trans (butP_to hk7 (by omega) HB6.out.size)
          obtain ⟨e0, e1, e2, k0, k1, k2⟩ := hp7.cells
          obtain ⟨c0, c1, c2, f0, f1, f2⟩ := hr7.cells
          have hne : ¬ w.heap.size = w2.heap.size := by omega
          have hne2 : ¬ w2.heap.size = w.heap.size := by omega
          have HB7 := Lib.hid (hB7.setCell (p := ⟨w2.heap.size, 1, none⟩) (show w.heap.size ≤ w2.heap.size by omega) (.string u2))
          clear hk7 hr7 hp7 hB7 hl1 hl2 d0 d1 d2 g0 g1 g2
          go_wp2_with fail
          refine bodyPost_ret (v := .tuple #[.agg #[.string t2, .string u2, .int .i64 D], .bool true]) ?_ rfl ⟨rfl, three_below HB7.out (by omega) _ _ _⟩
          simp [results, Try.results27, go_sem, c0, c1, c2, hne, hne2]
    · have h88 : s.size > 8 := by omega
      obtain rfl : G = false := by rw [hG, decide_eq_false h8]; rfl
      have HW := Lib.hid hW
      rw [pzIf_false]
      obtain ⟨c0, c1, c2, f0, f1, f2⟩ := hR0.out.cells
      have HB := Lib.hid (below_alloc w (.cells #[.string ⟨#[]⟩, .string ⟨#[]⟩, .int .i64 0] 26))
      unfold maxLen at hs
      clear hW hG hg hbs hsl hsz h8
      go_enter Try.func27, Try.ntmps27
      go_wp2_with fail
      refine (HW.out _).mono ?_
      rintro e w1 ⟨rfl, rfl⟩
      go_wp2_with fail
      first
      | (refine bodyPost_ret (v := .tuple #[.agg #[.string ⟨#[]⟩, .string ⟨#[]⟩, .int .i64 0], .bool false]) ?_ rfl ⟨rfl, three_below HB.out (by omega) _ _ _⟩
         simp [results, Try.results27, go_sem, c0, c1, c2])
      | (refine bodyPost_ret (v := .tuple #[.agg #[.string ⟨#[]⟩, .string ⟨#[]⟩, .int .i64 0], .bool false]) ?_ rfl ⟨rfl, HB.out⟩
         simp [results, Try.results27, go_sem, c0, c1, c2])
end Go.Proofs.Ytplcdofpikdigaa
