/- The wild sequence's numbers, the model's: and the law. -/
import Derived.Test.YtakmmoplepghjaaG6
namespace Go.Proofs.Ytakmmoplepghjaa
open Go.RowKit Go.BigFrame Go.Maps
set_option linter.unusedSimpArgs false
set_option linter.unusedVariables false
set_option maxRecDepth 4000

set_option maxHeartbeats 2000000 in
theorem specWildOf_any (n : Int) (w : World) : Calls Try.prog 33 #[.int .i64 n] w fun e w' => e = .returned (.tuple #[.int .i64 (sV wil n), .bool (gN n)]) ∧ Below w.heap.size w w' := by
  cases hb : gN n with
  | false =>
    have HV := Lib.hid (sV_bad (f := wil) hb); have HN := Lib.hid (fun W => seN_is n W false hb)
    clear hb
    go_enter Try.func33, Try.ntmps33
    go_wp2_with fail
    refine (HN.out _).mono ?_
    rintro e w1 ⟨rfl, rfl⟩
    go_wp2_with fail
    go_ret2
    exact ⟨by rw [HV.out]; rfl, Below.refl _ _⟩
  | true =>
    obtain ⟨i0, hi, hz0, hz1, hz2⟩ := info_parts info_intG
    obtain ⟨n0, rfl, h1, h9⟩ := gN_open hb
    have HV := Lib.hid (sV_ok (f := wil) hb); have HN := Lib.hid (fun W => seN_is n0 W true hb)
    clear hb
    go_enter Try.func33, Try.ntmps33
    go_wp2_with fail
    refine (HN.out _).mono ?_
    rintro e w1 ⟨rfl, rfl⟩
    go_wp2_with fail
    go_loopw [4, 5] (fun v q wr => ∃ m : Nat, q = .int .i64 m ∧ 3 ≤ m ∧ (m = 3 ∨ m ≤ n0 + 1) ∧ Hid (SeqRow wr w.heap.size v m wil ∧ Below w.heap.size w wr)) (fun _ q _ => n0 + 1 - (intOf q).toNat)
    case atStart => exact ⟨3, rfl, by omega, by omega, own_lit w w.heap.size 3 [.int .i64 0, .int .i64 1, .int .i64 1] (Nat.le_refl _) (by simp [maxLen]), below_alloc w _⟩
    case round =>
      obtain ⟨m, rfl, hm3, hmn, HX⟩ := hrel
      obtain ⟨g, c, rfl, hgB, hgw, hmc, hc9, hce⟩ := seqRow_cells HX.out.1 (by omega)
      by_cases hlt : m ≤ n0
      · obtain ⟨j, rfl⟩ : ∃ j, m = j + 2 := ⟨m - 2, by omega⟩
        have hin := wil_in (j + 1) (by omega)
        have hp := hin.2.1 (by omega)
        have hl := hin.2.2
        have hin2 := wil_in j (by omega)
        have hp2 := hin2.2.1 (by omega)
        have hl2 := hin2.2.2
        have hr := wil_rec (j + 2) (by omega) (by omega)
        rw [show j + 2 - 1 = j + 1 by omega, show j + 2 - 2 = j by omega] at hr
        obtain ⟨x, hx⟩ : ∃ x, x = wil (j + 1) := ⟨_, rfl⟩
        rw [← hx] at hp hl hr
        obtain ⟨u, hu⟩ : ∃ u, u = wil j := ⟨_, rfl⟩
        rw [← hu] at hp2 hl2 hr
        obtain ⟨s, hs⟩ : ∃ s, s = j + 2 - x := ⟨_, rfl⟩
        rw [← hs] at hr
        obtain ⟨t, ht⟩ : ∃ t, t = j + 2 - u := ⟨_, rfl⟩
        rw [← ht] at hr
        have c1 : wr.cell? ⟨g, j + 1, none⟩ = some (.int .i64 (x : Nat)) := by rw [hce (j + 1) (by omega), hx]
        have c4 : wr.cell? ⟨g, j, none⟩ = some (.int .i64 (u : Nat)) := by rw [hce j (by omega), hu]
        have c2 := hce s (by omega)
        have c3 := hce t (by omega)
        have hy9 := (wil_in s (by omega)).2.2
        have hz9 := (wil_in t (by omega)).2.2
        obtain ⟨y, hy⟩ : ∃ y, y = wil s := ⟨_, rfl⟩
        obtain ⟨z, hz⟩ : ∃ z, z = wil t := ⟨_, rfl⟩
        rw [← hy] at c2 hr hy9
        rw [← hz] at c3 hr hz9
        have hsi : (j : Int) + 2 - (x : Int) = (s : Int) := by omega
        have hti : (j : Int) + 2 - (u : Int) = (t : Int) := by omega
        have htl : t < j + 2 := by omega
        have hsl : s < j + 2 := by omega
        have HR := Lib.hid hr
        have b0 : (j : Int) < (j : Int) + 2 := by omega
        have b1 : (s : Int) < (j : Int) + 2 := by omega
        have b2 : (t : Int) < (j : Int) + 2 := by omega
        have b3 : IntKind.i64.wrap (t : Int) = (t : Int) := IntWalk.i64_in _ (by omega)
        have b4 : (0 : Int) ≤ (s : Int) := by omega
        have b5 : (0 : Int) ≤ (t : Int) := by omega
        have b6 : IntKind.i64.wrap ((y : Int) + (z : Int)) = (y : Int) + (z : Int) := IntWalk.i64_in _ (by omega)
        have b7 : IntKind.i64.wrap (s : Int) = (s : Int) := IntWalk.i64_in _ (by omega)
        have b8 : IntKind.i64.wrap (j : Int) = (j : Int) := IntWalk.i64_in _ (by omega)
        have b9 : IntKind.i64.wrap ((j : Int) + 1) = (j : Int) + 1 := IntWalk.i64_in _ (by omega)
        have b10 : (0 : Int) ≤ (j : Int) + 1 := by omega
        have b11 : (j : Int) + 1 < (j : Int) + 2 := by omega
        have b12 : ((j : Int) + 1).toNat = j + 1 := by omega
        have b13 : (j : Int) + 2 - 1 = (j : Int) + 1 := by omega
        have b14 : (j : Int) + 2 - 2 = (j : Int) := by omega
        have b15 : (0 : Int) ≤ (j : Int) := by omega
        clear hx hu hy hz hr hin hin2 hce ht hs
        have hln : ((seqL wil (j + 2)).map (Value.int .i64)).length = j + 2 := by simp [seqL]
        have hsz0 := HX.out.2.size
        go_wp2_with fail
        go_region_law (refine step_appG rfl (.tmp 15) (.tmp 37) 25 rfl w.heap.size 3 i0 (.int .i64 0) 8 Try.underlying25 hi hz0 hz1 hz2 rfl _ (j + 2) ((seqL wil (j + 2)).map (Value.int .i64)) (by simp [Act.eval, Act.put]) (HX.out.1.drew.alloc _) ⟨wr.heap.size, 0, none⟩ 1 1 [.int .i64 ((y : Int) + (z : Int))] (by simp [Act.eval, Act.put]) rfl (lit_oneG (by simp [go_sem]; try exact b6)) (fun u hu => by simp at hu; subst hu; rfl) (by unfold maxLen; omega) (by omega) (by simp [go_sem]; omega) ?_; intro v' w3 hown' hgrow _; have R1 := Lib.hid hown'; have R2 := Lib.hid ((HX.out.2.drew.alloc hsz0 _).grown hgrow (by simp [go_sem]; omega) (fun q hq => (HX.out.1.lt q hq).1)); clear hown' hgrow)
        all_goals
         go_wp2_with fail
         go_roundw
         case rel =>
          refine ⟨j + 3, by go_num, by omega, by omega, ?_, R2.out⟩
          have := R1.out
          unfold SeqRow
          rw [seqL_succ, List.map_append, HR.out]
          simpa using this
         case measure => simp [intOf] <;> omega
      · have c1 := hce n0 (by omega)
        clear hce
        go_wp2_with fail
        go_ret2
        exact ⟨by rw [HV.out]; rfl, HX.out.2⟩

end Go.Proofs.Ytakmmoplepghjaa
