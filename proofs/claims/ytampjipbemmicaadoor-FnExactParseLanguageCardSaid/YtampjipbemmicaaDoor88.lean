/- Chapter 7: the law of ParseLanguage. -/
import Derived.Test.YtampjipbemmicaaDoor87
namespace Go.Proofs.YtampjipbemmicaaDoor
open Go.RowKit Go.BigFrame Go.Deep
set_option linter.unusedSimpArgs false
set_option linter.unusedVariables false
set_option maxRecDepth 4000

theorem parse_len (l : List UInt8) : ((parseS l).getD ([], [])).1.length ≤ 10 := by
  rw [← parse_eq]
  unfold parseI
  by_cases h : (cutV l).2.2 = true ∧ langB (splitL 44 (cutV l).1) (cutV l).2.1 = true
  · rw [if_pos h]; exact (langB_parts h.2).2.1
  · rw [if_neg h]; simp

set_option maxHeartbeats 4000000 in
theorem law_ParseLanguage (s : ByteArray) (w : World) (hs : s.size ≤ maxLen) :
    Calls Tryd.prog 13 #[.string s] w fun e w' => e = .returned (.bool true) ∧ Below w.heap.size w w' := by
  obtain ⟨l, hl⟩ : ∃ l, l = s.data.toList := ⟨_, rfl⟩
  have hsb : s = bs l := by rw [hl]; exact bs_eq rfl
  have hsz : s.size = l.length := by rw [hsb, bs_size]
  by_cases hb : 1048576 < s.size
  · clear hl hsb hsz
    go_enter Tryd.func13, Tryd.ntmps13
    go_wp2_with fail
    go_ret
    exact ⟨rfl, Below.refl _ _⟩
  · have hsp := fun (W : World) => specParseLanguage_any l W (by omega)
    have him := fun (W : World) => implParseLanguage_any l W (by omega)
    rw [parse_eq] at him
    have hpl := parse_len l
    obtain ⟨O, hO⟩ : ∃ O, O = parseS l := ⟨_, rfl⟩
    rw [← hO] at hsp him hpl
    obtain ⟨ns, hns⟩ : ∃ ns, ns = (O.getD ([], [])).1 := ⟨_, rfl⟩
    obtain ⟨fr, hfr⟩ : ∃ fr, fr = (O.getD ([], [])).2 := ⟨_, rfl⟩
    obtain ⟨y, hy⟩ : ∃ y, y = O.isSome := ⟨_, rfl⟩
    obtain ⟨n, hn⟩ : ∃ n, n = ns.length := ⟨_, rfl⟩
    unfold LangOk at hsp him
    rw [← hns, ← hfr, ← hy, ← hn] at hsp him
    rw [← hns] at hpl
    have HSP := Lib.hid hsp; have HIM := Lib.hid him
    have HEQ := Lib.hid (fun (W : World) (Ba Bb : Nat) (va vb : Value) (ha : Strs W Ba va ns) (hb : Strs W Bb vb ns) => eqLanguage_same W Ba Bb va vb ns fr (strsO_of ha) (strsO_of hb))
    obtain ⟨tt, htt⟩ : ∃ tt, tt = 1 + ns.length := ⟨_, rfl⟩
    have HTT := Lib.hid htt; have HPL := Lib.hid hpl
    have ht0 : ¬ ((tt : Int) < 0) := by omega
    have htm : ((tt : Int) != (tt : Int)) = false := by simp
    have e2 : (y != y) = false := by simp
    subst hsb
    clear hsp him hO hns hfr hy hl hs htt hpl hn
    go_enter Tryd.func13, Tryd.ntmps13
    go_wp2_with fail
    refine (HSP.out _).mono ?_
    rintro e w1 ⟨q1, d1, rfl, hs1, hb1⟩
    have HS1 := Lib.hid hs1; have HB1 := Lib.hid hb1
    clear hs1 hb1
    go_wp2_with fail
    refine (HIM.out _).mono ?_
    rintro e w2 ⟨q2, d2, rfl, hs2, hb2⟩
    have hb12 := below_trans (below_alloc w1 (.cells #[.slice q1 n d1, .string (bs fr)] 27)) hb2
    have HX2 := Lib.hid ((twoAt_new w1 (.slice q1 n d1) (.string (bs fr)) 27).below hb2)
    simp only [World.size_alloc] at hs2
    have HS2 := Lib.hid hs2; have HV2 := Lib.hid (strs_below HS1.out hb12); have HB2 := Lib.hid (below_trans HB1.out hb12)
    have HU2 : Hid (Within (.slice q2 n d2) (w1.heap.size + 1) w2.heap.size) := Lib.hid (World.ownsRow.lt hs2)
    have HZ12 := Lib.hid (show w1.heap.size + 1 ≤ w2.heap.size from by simpa using hb2.size)
    have HU1 : Hid (Within (.slice q1 n d1) w.heap.size w1.heap.size) := Lib.hid (World.ownsRow.lt HS1.out)
    have hx2 := HX2.out.below (below_alloc w2 (.cells #[.slice q2 n d2, .string (bs fr)] 27))
    obtain ⟨c0, c1, _, _⟩ := hx2.cells
    clear hs2 hb2 hb12 hx2
    go_wp2_with fail
    refine (HEQ.out _ _ _ _ _ (strs_below HS2.out (below_alloc _ _)) (strs_below HV2.out (below_alloc _ _))).mono ?_
    rintro e w3 ⟨rfl, hb3⟩
    have hb23 := below_trans (below_alloc w2 (.cells #[.slice q2 n d2, .string (bs fr)] 27)) hb3
    have hy3 := (twoAt_new w2 (.slice q2 n d2) (.string (bs fr)) 27).below hb3
    have HX3 := Lib.hid (HX2.out.below hb23); have HY3 := Lib.hid hy3
    have HS3 := Lib.hid (strs_below HS2.out hb23); have HV3 := Lib.hid (strs_below HV2.out hb23); have HB3 := Lib.hid (below_trans HB2.out hb23)
    have HZ23 := Lib.hid hb23.size
    obtain ⟨k0, k1, _, _⟩ := hy3.cells
    clear hb3 hb23 hy3 c0 c1
    go_wp2_with fail
    refine (markLanguageK_any w3 (w1.heap.size + 1) 1 _ ns fr HS3.out (by have := HZ12.out; have := HZ23.out; omega) (by have := HPL.out; omega)).mono ?_
    rintro e w4 ⟨rfl, hs4, hb4, hf4⟩
    rw [← HTT.out]
    have hy4 : TwoAt w4 w2.heap.size (.slice q2 n d2) (.string (bs fr)) 27 := (hf4 w2.heap.size (fun e => by have := (HU2.out w2.heap.size e).2; omega) HY3.out.lt).trans HY3.out
    have HX4 := Lib.hid (HX3.out.belowB hb4 (Nat.lt_succ_self _)); have HY4 := Lib.hid hy4
    have HS4 := Lib.hid hs4
    have HV4 : Hid (Strs w4 w.heap.size (.slice q1 n d1) ns) := Lib.hid (own_block HV3.out (fun q hq => hb4.block q (by have := (HU1.out q hq).2; omega)))
    have HB4 := Lib.hid (HB3.out.trans (hb4.mono (Nat.le_trans HB1.out.size (Nat.le_succ _))))
    clear k0 k1
    obtain ⟨k0, k1, _, _⟩ := hy4.cells
    clear hs4 hb4 hf4 hy4
    go_wp2_with fail
    refine (heldLanguage_any w4 (w1.heap.size + 1) 1 ns.length _ fr (strsO_of HS4.out) (by have := HPL.out; omega)).mono ?_
    rintro e w5 ⟨rfl, hb5⟩
    rw [← HTT.out]
    have HX5 := Lib.hid (HX4.out.below hb5); have HY5 := Lib.hid (HY4.out.below hb5); have HS5 := Lib.hid (strs_below HS4.out hb5); have HV5 := Lib.hid (strs_below HV4.out hb5); have HB5 := Lib.hid (below_trans HB4.out hb5)
    clear hb5 k0 k1
    go_wp2_with fail
    refine (HIM.out _).mono ?_
    rintro e w6 ⟨q6, d6, rfl, hs6, hb6⟩
    have HS6 := Lib.hid hs6
    have HX6 := Lib.hid (HX5.out.below hb6); have HY6 := Lib.hid (HY5.out.below hb6); have HM6 := Lib.hid (strs_below HS5.out hb6); have HV6 := Lib.hid (strs_below HV5.out hb6); have HB6 := Lib.hid (below_trans HB5.out hb6)
    have hx6 := HX6.out.below (below_alloc w6 (.cells #[.slice q6 n d6, .string (bs fr)] 27))
    obtain ⟨c0, c1, _, _⟩ := hx6.cells
    clear hs6 hb6 hx6
    go_wp2_with fail
    refine (HEQ.out _ _ _ _ _ (strs_below HS6.out (below_alloc _ _)) (strs_below HV6.out (below_alloc _ _))).mono ?_
    rintro e w7 ⟨rfl, hb7⟩
    have hb67 := below_trans (below_alloc w6 (.cells #[.slice q6 n d6, .string (bs fr)] 27)) hb7
    have hy7 := HY6.out.below hb67
    have HM7 := Lib.hid (strs_below HM6.out hb67); have HB7 := Lib.hid (below_trans HB6.out hb67)
    obtain ⟨k0, k1, _, _⟩ := hy7.cells
    clear hb7 hb67 hy7 c0 c1
    go_wp2_with fail
    refine (heldLanguage_any w7 (w1.heap.size + 1) 1 ns.length _ fr (strsO_of HM7.out) (by have := HPL.out; omega)).mono ?_
    rintro e w8 ⟨rfl, hb8⟩
    rw [← HTT.out]
    have HB8 := Lib.hid (below_trans HB7.out hb8)
    clear hb8 k0 k1
    go_wp2_with fail
    go_ret
    exact ⟨rfl, HB8.out⟩
end Go.Proofs.YtampjipbemmicaaDoor
