/- All smooth words of a length: the model's. -/
import Derived.Test.YtkjmocdhhndlgaaGreatDoorD13
namespace Go.Proofs.YtkjmocdhhndlgaaGreatDoor
open Go.RowKit Go.BigFrame Go.Shelf
set_option linter.unusedSimpArgs false
set_option linter.unusedVariables false
set_option maxRecDepth 4000

def twoGo (x : List UInt8) : List (List UInt8) := [x ++ [49], x ++ [50]]
theorem goOn_two (x : List UInt8) : goOn x = (twoGo x).filter smB := rfl
theorem goOn_len (x : List UInt8) : (goOn x).length ≤ 2 := Nat.le_trans (List.length_filter_le _ _) (Nat.le_refl _)
theorem goOnS_len : ∀ (xs : List (List UInt8)), (xs.flatMap goOn).length ≤ 2 * xs.length
  | [] => Nat.zero_le _
  | x :: t => by
    rw [List.flatMap_cons, List.length_append, List.length_cons]
    have := goOn_len x; have := goOnS_len t; omega
theorem goOnS_succ (xs : List (List UInt8)) (i : Nat) (h : i < xs.length) : (xs.take (i + 1)).flatMap goOn = (xs.take i).flatMap goOn ++ goOn xs[i] := by
  rw [List.take_succ_eq_append_getElem h, List.flatMap_append, List.flatMap_cons, List.flatMap_nil, List.append_nil]
theorem smAll_low (n : Nat) (h : n ≤ 59) (x : List UInt8) (hx : x ∈ smAll n) (y : List UInt8) (hy : y ∈ twoGo x) : lowB y = true := by
  obtain ⟨h1, h2⟩ := allLow_mem n x (List.mem_filter.1 hx).1
  unfold twoGo at hy
  simp only [List.mem_cons, List.not_mem_nil, or_false] at hy
  unfold lowB
  rcases hy with rfl | rfl
  all_goals
    rw [List.all_append, h2, List.length_append, h1, decide_eq_true (by simp; omega)]; rfl
theorem filter_snoc (ys : List (List UInt8)) (j : Nat) (h : j < ys.length) : (ys.take (j + 1)).filter smB = (ys.take j).filter smB ++ (if smB ys[j] = true then [ys[j]] else []) := by
  rw [List.take_succ_eq_append_getElem h, List.filter_append]
  simp only [List.filter_cons, List.filter_nil]
theorem twoGo_step (x : List UInt8) (j : Nat) (h : j < 2) : ∃ y, (twoGo x)[j]? = some y ∧ ((twoGo x).take (j + 1)).filter smB = ((twoGo x).take j).filter smB ++ (if smB y = true then [y] else []) ∧ y ∈ twoGo x := by
  have h2 : j < (twoGo x).length := h
  exact ⟨(twoGo x)[j], List.getElem?_eq_getElem h2, filter_snoc _ j h2, List.getElem_mem h2⟩

set_option maxHeartbeats 2000000 in
theorem ruSmooth_any (N : Nat) (w : World) (hN : N ≤ 14) :
    Calls Tryz.prog 50 #[.int .i64 (N : Int)] w fun e w' => ∃ v, e = .returned v ∧ w'.ownsRow w.heap.size 9 1 v (smAll N).length (strsV (smAll N)) ∧ Below w.heap.size w w' := by
  obtain ⟨i0, hi, hz0, hz1, hz2⟩ := info_strD
  go_enter Tryz.func50, Tryz.ntmps50
  go_wp2_with fail
  go_loopw [0, 3] (fun nv ov wr => ∃ (m L : Nat) (a : Option Addr) (c : Nat), nv = .int .i64 (m : Int) ∧ m ≤ N ∧ ov = .slice a L c ∧ L ≤ 16384 ∧ Hid (L = (smAll (N - m)).length ∧ wr.ownsRow w.heap.size 9 1 (.slice a L c) L (strsV (smAll (N - m))) ∧ Below w.heap.size w wr)) (fun nv _ _ => (intOf nv).toNat)
  case atStart =>
    have h0 : smAll (N - N) = [[]] := by rw [Nat.sub_self]; rfl
    refine ⟨N, 1, _, _, rfl, Nat.le_refl _, rfl, by omega, by rw [h0]; rfl, ?_, below_alloc _ _⟩
    rw [h0]
    exact own_lit w w.heap.size 9 [.string (bs [])] (Nat.le_refl _) (by unfold maxLen; simp)
  case round =>
    obtain ⟨m, L, av, cv, rfl, hm, rfl, hL, HX⟩ := hrel
    by_cases h0 : 0 < m
    · obtain ⟨k, hk⟩ : ∃ k, k = N - m := ⟨_, rfl⟩
      have hk2 : N - (m - 1) = k + 1 := by omega
      have hsu : smAll (N - (m - 1)) = (smAll k).flatMap goOn := by rw [hk2, smAll_succ]
      have hlow := smAll_low k (by omega)
      have hle2 : (smAll (N - (m - 1))).length ≤ 16384 := Nat.le_trans (smAll_len _) (Nat.pow_le_pow_right (n := 2) (by omega) (show N - (m - 1) ≤ 14 by omega))
      rw [← hk] at HX
      obtain ⟨xs, hxs⟩ : ∃ xs, xs = smAll k := ⟨_, rfl⟩
      rw [← hxs] at HX hlow hsu
      have hLx := HX.out.1
      rcases own_open HX.out.2.1 with ⟨h1, hz, h3⟩ | ⟨g, cap, h1, hBg, hg, hn, hcp, _, hce, hfr⟩
      · injection h1 with h1a h1b h1c
        subst h1a; subst h1b; subst h1c
        have hx0 : xs = [] := List.eq_nil_of_length_eq_zero hLx.symm
        have HSU := Lib.hid hsu; have HX0 := Lib.hid hx0
        clear hsu hlow hle2 hk2 hk hxs hLx h3 hz hx0
        go_wp2_with fail
        refine wp_loop_rounds 1 ?_
        rw [rounds_succ]
        go_wp2
        go_roundw
        case rel => exact ⟨m - 1, 0, none, 0, by go_num, by omega, rfl, by omega, by rw [HSU.out, HX0.out]; rfl, by rw [HSU.out, HX0.out]; exact World.ownsRow_nil _ _ _ _, HX.out.2.2⟩
        case measure => simp [intOf] <;> omega
      · injection h1 with h1a h1b h1c
        subst h1a; subst h1c
        have hce2 : ∀ i (hi : i < xs.length), wr.cell? ⟨g, i, none⟩ = some (.string (bs xs[i])) := fun i hi => by
          have := hce i (by rw [strsV_len]; exact hi)
          simpa [strsV] using this
        obtain ⟨B2, hB2⟩ : ∃ B2, B2 = wr.heap.size := ⟨_, rfl⟩
        have HSU := Lib.hid hsu; have HLOW := Lib.hid hlow; have HLE := Lib.hid hle2; have HLX := Lib.hid hLx; have HCE := Lib.hid hce2; have HB2 := Lib.hid hB2; have HG := Lib.hid hg
        clear hsu hlow hle2 hk2 hk hxs hLx hce hce2 hB2 hfr hg hn hcp
        go_wp2_with fail
        go_loopw [4, 18] (fun nv iv wm => ∃ (i L2 : Nat) (a2 : Option Addr) (c2 : Nat), iv = .int .i64 (i : Int) ∧ i ≤ L ∧ nv = .slice a2 L2 c2 ∧ L2 ≤ 2 * i ∧ Hid (L2 = ((xs.take i).flatMap goOn).length ∧ wm.ownsRow B2 9 1 (.slice a2 L2 c2) L2 (strsV ((xs.take i).flatMap goOn)) ∧ Below B2 wr wm)) (fun _ iv _ => L - (intOf iv).toNat)
        case atStart =>
          refine ⟨0, 0, _, _, rfl, Nat.zero_le _, rfl, Nat.zero_le _, rfl, World.ownsRow_nil _ _ _ _, ?_⟩
          rw [HB2.out]
          first | exact Below.refl _ _ | exact below_drew _
        case round =>
          rename World => wm
          obtain ⟨i, L2, a2, c2, rfl, hi2, rfl, hL2, HM⟩ := hrel
          by_cases hlt : i < L
          · have hlt2 : i < xs.length := by rw [← HLX.out]; exact hlt
            obtain ⟨x, hx⟩ : ∃ x, x = xs[i] := ⟨_, rfl⟩
            have hcx : wm.cell? ⟨g, i, none⟩ = some (.string (bs x)) := by
              rw [hx, ← HCE.out i hlt2]
              exact HM.out.2.2.cell (p := ⟨g, i, none⟩) (by rw [HB2.out]; exact HG.out)
            have hgo := goOnS_succ xs i hlt2
            have hmem : x ∈ xs := by rw [hx]; exact List.getElem_mem hlt2
            have hlx := HLOW.out x hmem
            have hxl : x.length ≤ 59 := by
              have := hlx (x ++ [49]) (by simp [twoGo])
              unfold lowB at this; simp at this; omega
            have hbx : (bs x).size ≤ 59 := by rw [bs_size]; exact hxl
            rw [← hx] at hgo
            have HGO := Lib.hid hgo; have HLX2 := Lib.hid hlx
            clear hgo hmem hlx hx hxl
            have hgm : g < wm.heap.size := Nat.lt_of_lt_of_le HG.out HM.out.2.2.size
            go_wp2_with fail
            go_loopw [4, 28] (fun nv jv wi => ∃ (j L3 : Nat) (a3 : Option Addr) (c3 : Nat), jv = .int .i64 (j : Int) ∧ j ≤ 2 ∧ nv = .slice a3 L3 c3 ∧ L3 ≤ L2 + j ∧ Hid (L3 = ((xs.take i).flatMap goOn ++ ((twoGo x).take j).filter smB).length ∧ wi.ownsRow B2 9 1 (.slice a3 L3 c3) L3 (strsV ((xs.take i).flatMap goOn ++ ((twoGo x).take j).filter smB)) ∧ Below B2 wr wi ∧ wm.heap.size < wi.heap.size ∧ (Value.slice a3 L3 c3).ownBlock ≠ some wm.heap.size ∧ ∀ j' y, (twoGo x)[j']? = some y → wi.cell? ⟨wm.heap.size, j', none⟩ = some (.string (bs y)))) (fun _ jv _ => 2 - (intOf jv).toNat)
            case atStart =>
              refine ⟨0, L2, a2, c2, rfl, by omega, rfl, by omega, ?_, ?_, HM.out.2.2.alloc (by have := HM.out.2.2.size; rw [HB2.out]; exact this) _, by simp, fun he => by have := (HM.out.2.1.lt _ he).2; omega, ?_⟩
              · simp only [List.take_zero, List.filter_nil, List.append_nil]; exact HM.out.1
              · simp only [List.take_zero, List.filter_nil, List.append_nil]; exact HM.out.2.1.alloc _
              · intro j' y hj
                match j', hj with
                | 0, hj => simp [twoGo] at hj; subst hj; rw [← bs_append]; simp; rfl
                | 1, hj => simp [twoGo] at hj; subst hj; rw [← bs_append]; simp; rfl
                | j' + 2, hj => simp [twoGo] at hj
            case round =>
              rename World => wi
              obtain ⟨j, L3, a3, c3, rfl, hj2, rfl, hL3, HI⟩ := hrel
              by_cases hjt : j < 2
              · obtain ⟨y, hy1, hy2, hy3⟩ := twoGo_step x j hjt
                have hcy := HI.out.2.2.2.2.2 j y hy1
                have hby := HLX2.out y hy3
                have hyl : (bs y).size ≤ 60 := by rw [bs_size]; unfold lowB at hby; simp at hby; omega
                have hsm := smB_dep hby
                have hru := fun (W : World) => ruDepth_any y W hby
                obtain ⟨dx, hxy⟩ := depV_ok (depO y)
                rw [hxy, hsm] at hru
                have HRU := Lib.hid hru; have HY2 := Lib.hid hy2; have HWI := Lib.hid HI.out.2.2.2.1
                have hgi : wm.heap.size < wi.heap.size := HI.out.2.2.2.1
                clear hru hy1 hy2 hy3 hby hsm hxy
                go_wp2_with fail
                refine (HRU.out _).mono ?_
                rintro e w2 ⟨rfl, hb2⟩
                have HB := Lib.hid hb2; clear hb2
                have hwr2 : Below B2 wr w2 := HI.out.2.2.1.trans (HB.out.mono (by have := HI.out.2.2.1.size; have := HM.out.2.2.size; rw [HB2.out]; omega))
                have HWR2 := Lib.hid hwr2; clear hwr2
                have HROW := Lib.hid (own_below HI.out.2.1 HB.out)
                have hcs2 : ∀ j' y, (twoGo x)[j']? = some y → w2.cell? ⟨wm.heap.size, j', none⟩ = some (.string (bs y)) := fun j' y h => (HB.out.cell (p := ⟨wm.heap.size, j', none⟩) hgi).trans (HI.out.2.2.2.2.2 j' y h)
                have HCS := Lib.hid hcs2; clear hcs2
                have hg2 : wm.heap.size < w2.heap.size := Nat.lt_of_lt_of_le hgi HB.out.size
                cases hs : smB y with
                | false =>
                  rw [hs] at HY2
                  go_wp2_with fail
                  go_roundw
                  case rel =>
                    have e5 : ((twoGo x).take (j + 1)).filter smB = ((twoGo x).take j).filter smB := by rw [HY2.out]; simp
                    refine ⟨j + 1, L3, a3, c3, by go_num, by omega, rfl, by omega, ?_, ?_, HWR2.out, hg2, HI.out.2.2.2.2.1, HCS.out⟩
                    · rw [e5]; exact HI.out.1
                    · rw [e5]; exact HROW.out
                  case measure => simp [intOf] <;> omega
                | true =>
                  rw [hs] at HY2
                  go_wp2_with (at_builtin; refine wpList_app _ rfl _ _ 29 rfl B2 9 i0 (.string ⟨#[]⟩) 16 Tryz.underlying29 hi hz0 hz1 hz2 rfl _ L3 _ rfl (HROW.out.alloc _) _ 1 1 [.string (bs y)] rfl rfl ?c1 ?c2 ?c3 ?c4 ?c5 ?_)
                  case c1 => intro j u hj; cases j with | zero => (simp at hj; subst hj; simp [Addr.add]) | succ j => simp at hj
                  case c2 => intro u hu; simp at hu; subst hu; rfl
                  case c3 => unfold maxLen; omega
                  case c4 => omega
                  case c5 => have := HWR2.out.size; simp; rw [HB2.out]; omega
                  intro v' w4 hown' hgrow hwh
                  obtain ⟨av', cv', rfl⟩ := own_slice hown'
                  have R1 := Lib.hid hown'
                  have R2 := Lib.hid ((HWR2.out.alloc (by have := HWR2.out.size; rw [HB2.out]; exact this) _).grown hgrow (by have := HWR2.out.size; simp; rw [HB2.out]; omega) (fun q hq => (HROW.out.lt q hq).1))
                  have hne : (Value.slice av' (L3 + 1) cv').ownBlock ≠ some wm.heap.size := by
                    rcases hwh with h | h
                    · rw [h]; exact HI.out.2.2.2.2.1
                    · rw [h]; simp; omega
                  have hcs4 : ∀ j' y, (twoGo x)[j']? = some y → w4.cell? ⟨wm.heap.size, j', none⟩ = some (.string (bs y)) := fun j' y h =>
                    (World.cell?_of_block (hgrow.block wm.heap.size (by simp; omega) (fun e => HI.out.2.2.2.2.1 e.symm))).trans (((below_alloc w2 _).cell (p := ⟨wm.heap.size, j', none⟩) hg2).trans (HCS.out j' y h))
                  have hg4 : wm.heap.size < w4.heap.size := by have := hgrow.size; simp at this; omega
                  have HNE := Lib.hid hne; have HC4 := Lib.hid hcs4; have HG4 := Lib.hid hg4
                  clear hown' hgrow hwh hne hcs4 hg4
                  go_wp2_with fail
                  go_roundw
                  case rel =>
                    have e5 : ((twoGo x).take (j + 1)).filter smB = ((twoGo x).take j).filter smB ++ [y] := by rw [HY2.out]; simp
                    refine ⟨j + 1, L3 + 1, av', cv', by go_num, by omega, rfl, by omega, ?_, ?_, R2.out, HG4.out, HNE.out, HC4.out⟩
                    · rw [e5, ← List.append_assoc, List.length_append, ← HI.out.1]; rfl
                    · rw [e5, ← List.append_assoc]
                      have e7 : ∀ (E : List (List UInt8)), strsV (E ++ [y]) = strsV E ++ [.string (bs y)] := fun E => by simp [strsV]
                      rw [e7]
                      exact R1.out
                  case measure => simp [intOf] <;> omega
              · obtain rfl : j = 2 := by omega
                have hgo : (xs.take (i + 1)).flatMap goOn = (xs.take i).flatMap goOn ++ ((twoGo x).take 2).filter smB := by rw [HGO.out, goOn_two]; rfl
                have HGO2 := Lib.hid hgo; clear hgo
                go_wp2_with fail
                go_roundw
                case rel =>
                  refine ⟨i + 1, L3, a3, c3, by go_num, by omega, rfl, by omega, ?_, ?_, HI.out.2.2.1⟩
                  · rw [HGO2.out]; exact HI.out.1
                  · rw [HGO2.out]; exact HI.out.2.1
                case measure => simp [intOf] <;> omega
          · obtain rfl : i = L := by omega
            have hgo : smAll (N - (m - 1)) = (xs.take i).flatMap goOn := by rw [HSU.out, HLX.out, List.take_length]
            have HGO := Lib.hid hgo; clear hgo
            have hL16 : L2 ≤ 16384 := by rw [HM.out.1, ← HGO.out]; exact HLE.out
            go_wp2_with fail
            go_roundw
            case rel =>
              refine ⟨m - 1, L2, a2, c2, by go_num, by omega, rfl, hL16, ?_, ?_, ?_⟩
              · rw [HGO.out]; exact HM.out.1
              · rw [HGO.out]; exact own_mono HM.out.2.1 (by rw [HB2.out]; exact HX.out.2.2.size)
              · have h1 := HX.out.2.2; have h2 := HM.out.2.2; rw [HB2.out] at h2; exact below_trans h1 h2
            case measure => simp [intOf] <;> omega
    · obtain rfl : m = 0 := by omega
      have HX2 := Lib.hid HX.out
      clear HX
      go_wp2_with fail
      go_ret
      refine ⟨_, rfl, ?_, HX2.out.2.2⟩
      have := HX2.out.2.1
      rw [Nat.sub_zero] at this
      rw [← (show L = (smAll N).length by have := HX2.out.1; rwa [Nat.sub_zero] at this)]
      exact this
end Go.Proofs.YtkjmocdhhndlgaaGreatDoor
