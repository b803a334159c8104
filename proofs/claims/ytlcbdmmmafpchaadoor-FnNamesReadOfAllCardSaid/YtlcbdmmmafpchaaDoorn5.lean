/- Chapter 8: the program's ReadName; the law. -/
import Derived.Test.YtlcbdmmmafpchaaDoorn4
namespace Go.Proofs.YtlcbdmmmafpchaaDoor
open Go.RowKit Go.BigFrame Go.Shelf
set_option linter.unusedSimpArgs false
set_option linter.unusedVariables false
set_option maxRecDepth 4000

theorem readO_yes {s : List UInt8} (h1 : nmB (sumU (bs s)) = true) (h2 : nameO (sumU (bs s)) = s) : readI s = sumU (bs s) ∧ (readO s).isSome = true := by
  obtain ⟨k, hk, hlt⟩ := nmB_parts h1
  have e : readO s = some k := (readO_iff s k).2 ⟨hlt, by rw [← h2, hk]; unfold nameO; rw [if_pos (by rw [← hk]; exact h1)]; rfl⟩
  refine ⟨?_, by rw [e]; rfl⟩
  unfold readI; rw [e, hk]; rfl
theorem readO_no {s : List UInt8} (h : ¬ (nmB (sumU (bs s)) = true ∧ nameO (sumU (bs s)) = s)) : readI s = 0 ∧ (readO s).isSome = false := by
  have e : readO s = none := by
    cases hr : readO s with
    | none => rfl
    | some m =>
      obtain ⟨hm, hn⟩ := (readO_iff s m).1 hr
      have hs : sumU (bs s) = (m : Int) := by rw [← hn]; exact sumU_name m hm
      have hb : nmB (m : Int) = true := by unfold nmB; exact decide_eq_true (by omega)
      refine (h ⟨by rw [hs]; exact hb, ?_⟩).elim
      rw [hs]; unfold nameO; rw [if_pos hb]; exact hn
  refine ⟨?_, by rw [e]; rfl⟩
  unfold readI; rw [e]; rfl

set_option maxHeartbeats 1000000 in
theorem implReadName_any (s : List UInt8) (hs : s.length ≤ 9223372036854775807) (w : World) (NA : NamesAt w) (hT : Lib.Utf8Tabs 3 4 w) :
    Calls Tryd.prog 25 #[.string (bs s)] w fun e w' => e = .returned (.tuple #[.int .i64 (readI s), .bool (readO s).isSome]) ∧ Below w.heap.size w w' := by
  have HA := Lib.hid (addWords_any (bs s) w (by rw [bs_size]; exact hs) NA hT)
  have HN := Lib.hid (fun (n : Int) (W : World) (hW : Below w.heap.size w W) => implNameOf_any n W (NA.below hW))
  have hyes := readO_yes (s := s); have hno := readO_no (s := s)
  generalize readI s = R at *
  generalize (readO s).isSome = ok at *
  generalize sumU (bs s) = N at *
  have HNM := Lib.hid (HN.out N)
  have hq := bs_eqB2 (a := nameO N) (b := s)
  generalize nameO N = nm at *
  cases hb : nmB N with
  | false =>
    rw [hb] at HNM hyes hno
    obtain ⟨rfl, rfl⟩ := hno (fun e => by cases e.1)
    clear HN hyes hno hq NA hT hb
    go_enter Tryd.func25, Tryd.ntmps25
    go_wp2_with fail
    refine HA.out.mono ?_
    rintro e w1 ⟨rfl, h1⟩
    have B1 := Lib.hid h1; clear h1
    go_wp2_with fail
    refine (HNM.out w1 B1.out).mono ?_
    rintro e w2 ⟨rfl, h1⟩
    have B2 := Lib.hid (below_trans B1.out h1); clear h1
    go_wp2_with fail
    go_ret2
    exact ⟨rfl, B2.out⟩
  | true =>
    rw [hb] at HNM hyes hno
    by_cases he : nm = s
    · obtain ⟨h1, rfl⟩ := hyes rfl he
      have HR := Lib.hid h1
      rw [decide_eq_true he] at hq
      clear HN hyes hno NA hT hb he h1
      go_enter Tryd.func25, Tryd.ntmps25
      go_wp2_with fail
      refine HA.out.mono ?_
      rintro e w1 ⟨rfl, h1⟩
      have B1 := Lib.hid h1; clear h1
      go_wp2_with fail
      refine (HNM.out w1 B1.out).mono ?_
      rintro e w2 ⟨rfl, h1⟩
      have B2 := Lib.hid (below_trans B1.out h1); clear h1
      go_wp2_with fail
      go_ret2
      exact ⟨by rw [HR.out]; rfl, B2.out⟩
    · obtain ⟨rfl, rfl⟩ := hno (fun e => he e.2)
      rw [decide_eq_false he] at hq
      clear HN hyes hno NA hT hb he
      go_enter Tryd.func25, Tryd.ntmps25
      go_wp2_with fail
      refine HA.out.mono ?_
      rintro e w1 ⟨rfl, h1⟩
      have B1 := Lib.hid h1; clear h1
      go_wp2_with fail
      refine (HNM.out w1 B1.out).mono ?_
      rintro e w2 ⟨rfl, h1⟩
      have B2 := Lib.hid (below_trans B1.out h1); clear h1
      go_wp2_with fail
      go_ret2
      exact ⟨rfl, B2.out⟩

theorem d_first : (Rows.laid_unicode_utf8_first : DataW Unit) = Go.Lib.firstData := by kernel_rfl
theorem d_accept : (Rows.laid_unicode_utf8_acceptRanges : DataW Unit) = Go.Lib.acceptData := by kernel_rfl
theorem tabs_of_laidP {W : World} (h : laidMetH Tryd.prog [("unicode/utf8.acceptRanges", Rows.laid_unicode_utf8_acceptRanges), ("loop.example/g01240/impl.smallNames", Rows.laid_loop_example_g01240_impl_smallNames), ("loop.example/g01240/impl.tensNames", Rows.laid_loop_example_g01240_impl_tensNames), ("unicode/utf8.first", Rows.laid_unicode_utf8_first)] W) : Lib.Utf8Tabs 3 4 W := by
  rw [MakeChecks.laidMetH_plain _ _ _ (by kernel_rfl)] at h
  exact utf8Tabs_of_reads (ρ := Tryd.lays197_ren) { Tryd.lays197 with } ⟨by kernel_rfl, by kernel_rfl, by kernel_rfl, by kernel_rfl, by kernel_rfl, by kernel_rfl, by kernel_rfl⟩ (d_first ▸ Go.Lib.laidMet.reads h (by simp)) (d_accept ▸ Go.Lib.laidMet.reads h (by simp))

end Go.Proofs.YtlcbdmmmafpchaaDoor
