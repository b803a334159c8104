/- Chapter 7: the program's IsLanguage; the law of IsLanguage. -/
import Derived.Test.YtampjipbemmicaaDoor7F
namespace Go.Proofs.YtampjipbemmicaaDoor
open Go.RowKit Go.BigFrame
set_option linter.unusedSimpArgs false
set_option linter.unusedVariables false
set_option maxRecDepth 4000

/-- The world behind a box of two cells. -/
def BoxW (w : World) (u s : Value) (T : TypeId) (wr : World) : Prop := Below (w.heap.size + 1) (w.alloc (.cells #[u, s] T)) wr
theorem boxW_new (w : World) (u s : Value) (T : TypeId) : BoxW w u s T (w.alloc (.cells #[u, s] T)) := Below.refl _ _
theorem BoxW.cells {w wr : World} {u s : Value} {T : TypeId} (h : BoxW w u s T wr) : wr.cell? ⟨w.heap.size, 0, none⟩ = some u ∧ wr.cell? ⟨w.heap.size, 1, none⟩ = some s ∧ wr.frozen? ⟨w.heap.size, 0, none⟩ = false ∧ wr.frozen? ⟨w.heap.size, 1, none⟩ = false :=
  two_obj ((Below.block h _ (by omega)).trans (heap_alloc_new w _))
theorem BoxW.below {w wr : World} {u s : Value} {T : TypeId} (h : BoxW w u s T wr) : Below w.heap.size w wr := (below_alloc w _).trans (Below.mono h (by omega))
theorem BoxW.size {w wr : World} {u s : Value} {T : TypeId} (h : BoxW w u s T wr) : w.heap.size + 1 ≤ wr.heap.size := by have := Below.size h; simpa using this
theorem BoxW.trans {w wr w2 : World} {u s : Value} {T : TypeId} (h : BoxW w u s T wr) (k : Below wr.heap.size wr w2) : BoxW w u s T w2 := Below.trans h (k.mono h.size)

set_option maxHeartbeats 4000000 in
theorem implIsLanguage_any (w : World) (u : Value) (ns : List (List UInt8)) (fr : List UInt8) (h : ArgS w u ns) (hf : fr.length ≤ 9223372036854775807) :
    Calls Tryd.prog 17 #[.agg #[u, .string (bs fr)]] w fun e w' => e = .returned (.bool (langB ns fr)) ∧ Below w.heap.size w w' := by
  obtain ⟨G, hG⟩ : ∃ G, G = langB ns fr := ⟨_, rfl⟩
  rw [← hG]
  rw [langB_eq] at hG
  obtain ⟨N, hN⟩ : ∃ N, N = ns.length := ⟨_, rfl⟩
  rw [← hN] at hG
  obtain ⟨A, C, hu, hC, hCm, hcell⟩ := id h
  rw [← hN] at hu hC
  subst hu
  have HG := Lib.hid hG; clear hG
  have HN := Lib.hid hN; clear hN
  have HS := Lib.hid h; clear h
  have HC := Lib.hid hcell; clear hcell
  by_cases h1 : 1 ≤ N ∧ N ≤ 10
  · obtain ⟨h3, hh3⟩ : ∃ h3 : Bool, h3 = (decide ((0 : Int) ≤ (fr.length : Int) ∧ (fr.length : Int) ≤ 20) && ltrsB fr) := ⟨_, rfl⟩
    have hh4 : h3 = (decide (fr.length ≤ 20) && ltrsB fr) := by
      rw [hh3]; congr 1; exact decide_eq_decide.2 (by omega)
    have HL := Lib.hid (fun (W : World) => isLetterText_any fr 0 20 W hf)
    rw [← hh3] at HL
    have H4 := Lib.hid hh4
    clear hh3 hh4
    cases h3 with
    | false =>
      have E : G = false := by rw [HG.out, Bool.and_assoc (decide _) (decide _), ← H4.out]; simp
      subst E
      go_enter Tryd.func17, Tryd.ntmps17
      go_wp2_with fail
      refine (isWithin_is true _ _ _ _ (by simp; omega)).mono ?_
      rintro e w1 ⟨rfl, rfl⟩
      go_wp2_with fail
      refine (HL.out _).mono ?_
      rintro e w1 ⟨rfl, hb⟩
      have HB := Lib.hid hb; clear hb
      go_wp2_with fail
      go_ret
      exact ⟨rfl, below_trans (below_alloc _ _) HB.out⟩
    | true =>
      have E : G = namesB ns N := by rw [HG.out, Bool.and_assoc (decide _) (decide _), ← H4.out, decide_eq_true h1]; rfl
      have HE := Lib.hid E; clear E HG
      go_enter Tryd.func17, Tryd.ntmps17
      go_wp2_with fail
      refine (isWithin_is true _ _ _ _ (by simp; omega)).mono ?_
      rintro e w1 ⟨rfl, rfl⟩
      go_wp2_with fail
      refine (HL.out _).mono ?_
      rintro e w1 ⟨rfl, hb⟩
      have hbx : BoxW w (.slice A N C) (.string (bs fr)) 27 w1 := (boxW_new _ _ _ _).trans hb
      obtain ⟨c0, c1, _, _⟩ := hbx.cells
      have HB := Lib.hid hbx; clear hb hbx
      go_wp2_with fail
      go_loopw [19] (fun i wr => ∃ k : Nat, i = .int .i64 (k : Int) ∧ k ≤ N ∧ Hid (namesB ns k = true ∧ BoxW w (.slice A N C) (.string (bs fr)) 27 wr)) (fun i _ => N - (intOf i).toNat)
      case atStart => exact ⟨0, rfl, Nat.zero_le _, rfl, HB.out⟩
      case round =>
        obtain ⟨k, rfl, hk, HX⟩ := hrel
        clear c0 c1
        by_cases hlt : k < N
        · have hk' : k < ns.length := by rw [← HN.out]; exact hlt
          obtain ⟨b, o, rfl, hb, hc, hl⟩ := HC.out k hk'
          have hnm := namesB_succ ns k
          rw [HX.out.1, Bool.true_and] at hnm
          obtain ⟨x, hx⟩ : ∃ x, x = ns[k] := ⟨_, rfl⟩
          rw [nameB_eq ns k hk' x hx] at hnm
          rw [← hx] at hc hl
          have hkC : k ≤ C := by omega
          have HNM := Lib.hid hnm
          clear hnm hx
          have hfalse : namesB ns (k + 1) = false → G = false := fun e => by rw [HE.out]; exact namesB_false _ _ _ e (by omega)
          have HF := Lib.hid hfalse; clear hfalse
          have hcw : wr.cell? ⟨b, o + k, none⟩ = some (.string (bs x)) := (HX.out.2.below.cell (p := ⟨b, o + k, none⟩) hb).trans hc
          clear hc
          obtain ⟨c0, c1, _, _⟩ := HX.out.2.cells
          obtain ⟨g2, hg2⟩ : ∃ g2 : Bool, g2 = (decide ((1 : Int) ≤ (x.length : Int) ∧ (x.length : Int) ≤ 8) && ltrsB x) := ⟨_, rfl⟩
          have hg3 : g2 = (decide (1 ≤ x.length ∧ x.length ≤ 8) && ltrsB x) := by
            rw [hg2]; congr 1; exact decide_eq_decide.2 (by omega)
          have HLx := Lib.hid (fun (W : World) => isLetterText_any x 1 8 W hl)
          rw [← hg2] at HLx
          rw [← hg3] at HNM
          clear hg2 hg3
          cases g2 with
          | false =>
            have E := HF.out (by rw [HNM.out]; rfl)
            have HEE := Lib.hid E; clear E
            go_wp2_with fail
            refine (HLx.out _).mono ?_
            rintro e w1 ⟨rfl, hb2⟩
            have HB2 := Lib.hid hb2; clear hb2
            go_wp2_with fail
            go_ret
            exact ⟨ret_bool HEE.out.symm, (HX.out.2.trans HB2.out).below⟩
          | true =>
            obtain ⟨q, hq⟩ : ∃ q : Bool, q = decide (x ∈ ns.take k) := ⟨_, rfl⟩
            have HQ := Lib.hid hq; clear hq
            go_wp2_with fail
            refine (HLx.out _).mono ?_
            rintro e w2 ⟨rfl, hb2⟩
            have hbx2 := HX.out.2.trans hb2
            obtain ⟨d0, d1, _, _⟩ := hbx2.cells
            have HB2 := Lib.hid hbx2; clear hb2 hbx2
            go_wp2_with fail
            have hcon := Tryd.slices_Contains_string b o k C (ns.map bs) (bs x) w2 (by rw [List.length_map]; omega) (by omega) (fun j hj => by
              have hj' : j < ns.length := by simpa using hj
              obtain ⟨b', o', e1, e2, e3, _⟩ := HC.out j hj'
              cases e1
              rw [(HB2.out.below.cell (p := ⟨b, o + j, none⟩) e2).trans e3]
              simp [List.getD, hj'])
            rw [containsN, ← HQ.out] at hcon
            refine hcon.mono ?_
            rintro e w3 ⟨rfl, rfl⟩
            cases q with
            | true =>
              have E := HF.out (by rw [HNM.out, ← HQ.out]; rfl)
              have HEE := Lib.hid E; clear E hcon
              go_wp2_with fail
              go_ret
              exact ⟨ret_bool HEE.out.symm, HB2.out.below⟩
            | false =>
              clear hcon
              go_wp2_with fail
              go_roundw
              case rel => exact ⟨k + 1, by go_num, by omega, by rw [HNM.out, ← HQ.out]; rfl, HB2.out⟩
              case measure => simp [intOf] <;> omega
        · obtain rfl : k = N := by omega
          have E : G = true := by rw [HE.out]; exact HX.out.1
          have HEE := Lib.hid E; clear E
          go_wp2_with fail
          go_ret
          exact ⟨ret_bool HEE.out.symm, HX.out.2.below⟩
  · have E : G = false := by rw [HG.out, decide_eq_false h1]; rfl
    subst E
    go_enter Tryd.func17, Tryd.ntmps17
    go_wp2_with fail
    refine (isWithin_is false _ _ _ _ (by simp; omega)).mono ?_
    rintro e w1 ⟨rfl, rfl⟩
    go_wp2_with fail
    go_ret
    exact ⟨rfl, below_alloc _ _⟩
end Go.Proofs.YtampjipbemmicaaDoor
