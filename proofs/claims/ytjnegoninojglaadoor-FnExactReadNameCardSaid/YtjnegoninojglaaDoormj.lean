/- Chapter 8: the laws of LettersOf, IsHonest, CountLetter. -/
import Derived.Test.YtjnegoninojglaaDoormi
namespace Go.Proofs.YtjnegoninojglaaDoor
open Go.RowKit Go.BigFrame
set_option linter.unusedSimpArgs false
set_option linter.unusedVariables false
set_option maxRecDepth 4000

set_option maxHeartbeats 1000000 in
theorem law_LettersOf (n : Int) (w : World) (NA : NamesAt w)  :
    Calls Tryd.prog 6 #[.int .i64 n] w fun e w' => e = .returned (.bool true) ∧ Below w.heap.size w w' := by
  have HS := Lib.hid (fun (W : World) => specLettersOf_any n W)
  have HI := Lib.hid (fun (W : World) (hW : Below w.heap.size w W) => implLettersOf_any n W (NA.below hW))
  generalize lenO n = O0 at *
  generalize nmB n = O1 at *
  have e0 : (O0 != O0) = false := by simp
  have e1 : (O1 != O1) = false := by simp
  clear NA
  go_enter Tryd.func6, Tryd.ntmps6
  go_wp2_with fail
  refine (HS.out _).mono ?_
  rintro e w1 ⟨rfl, hb⟩
  have HB := Lib.hid hb; clear hb
  go_wp2_with fail
  refine (HI.out _ HB.out).mono ?_
  rintro e w2 ⟨rfl, hb⟩
  have HB2 := Lib.hid (below_trans HB.out hb); clear hb
  go_wp2_with fail
  go_ret
  exact ⟨rfl, HB2.out⟩
set_option maxHeartbeats 1000000 in
theorem law_IsHonest (n : Int) (w : World) (NA : NamesAt w)  :
    Calls Tryd.prog 9 #[.int .i64 n] w fun e w' => e = .returned (.bool true) ∧ Below w.heap.size w w' := by
  have HS := Lib.hid (fun (W : World) => specIsHonest_any n W)
  have HI := Lib.hid (fun (W : World) (hW : Below w.heap.size w W) => implIsHonest_any n W (NA.below hW))
  generalize honO n = O0 at *
  generalize nmB n = O1 at *
  have e0 : (O0 != O0) = false := by simp
  have e1 : (O1 != O1) = false := by simp
  clear NA
  go_enter Tryd.func9, Tryd.ntmps9
  go_wp2_with fail
  refine (HS.out _).mono ?_
  rintro e w1 ⟨rfl, hb⟩
  have HB := Lib.hid hb; clear hb
  go_wp2_with fail
  refine (HI.out _ HB.out).mono ?_
  rintro e w2 ⟨rfl, hb⟩
  have HB2 := Lib.hid (below_trans HB.out hb); clear hb
  go_wp2_with fail
  go_ret
  exact ⟨rfl, HB2.out⟩

set_option maxHeartbeats 1000000 in
theorem law_CountLetter (n : Int) (s : ByteArray) (w : World) (NA : NamesAt w) (hs : s.size ≤ maxLen) :
    Calls Tryd.prog 7 #[.int .i64 n, .string s] w fun e w' => e = .returned (.bool true) ∧ Below w.heap.size w w' := by
  unfold maxLen at hs
  by_cases hb : 1048576 < s.size
  · clear NA
    go_enter Tryd.func7, Tryd.ntmps7
    go_wp2_with fail
    go_ret
    exact ⟨rfl, Below.refl _ _⟩
  · have HS := Lib.hid (fun (W : World) => specCountLetter_any n s.data.toList (by simpa using hs) W)
    have HI := Lib.hid (fun (W : World) (hW : Below w.heap.size w W) => implCountLetter_any n s.data.toList (by simpa using hs) W (NA.below hW))
    rw [← bs_eq (t := s) rfl] at HS HI
    generalize cntO n s.data.toList = O0 at *
    generalize (nmB n && letB s.data.toList) = O1 at *
    have e0 : (O0 != O0) = false := by simp
    have e1 : (O1 != O1) = false := by simp
    clear NA
    go_enter Tryd.func7, Tryd.ntmps7
    go_wp2_with fail
    refine (HS.out _).mono ?_
    rintro e w1 ⟨rfl, hb⟩
    have HB := Lib.hid hb; clear hb
    go_wp2_with fail
    refine (HI.out _ HB.out).mono ?_
    rintro e w2 ⟨rfl, hb⟩
    have HB2 := Lib.hid (below_trans HB.out hb); clear hb
    go_wp2_with fail
    go_ret
    exact ⟨rfl, HB2.out⟩
end Go.Proofs.YtjnegoninojglaaDoor
