/- Chapter 9: HarderPuzzle, the program's walk. -/
import Derived.Test.YtplcdofpikdigaaDooroo
import Derived.Deep.RegionHeld3
namespace Go.Proofs.YtplcdofpikdigaaDoor
open Go.RowKit Go.BigFrame
set_option linter.unusedSimpArgs false
set_option linter.unusedVariables false
set_option maxRecDepth 4000

theorem bel_size {w w' : World} (h : Below w.heap.size w w') : w.heap.size ≤ w'.heap.size := h.size
theorem bel_set {B : Nat} {w w' : World} {p : Addr} (h : Below B w w') (hp : B ≤ p.block) (v : Value) : Below B w (w'.setCell p v) := h.setCell hp v
theorem twoP_put {w wr : World} {a b c : Value} (h : TwoP w a b c wr) {g : Nat} (hg : w.heap.size + 1 < g) (x y z : Value) : TwoP w a b c (((wr.setCell ⟨g, 0, none⟩ x).setCell ⟨g, 1, none⟩ y).setCell ⟨g, 2, none⟩ z) := by
  have o : ∀ (W : World) (q i : Nat) (v a' b' c' : Value), q ≠ g → ThreeAt W q a' b' c' 28 → ThreeAt (W.setCell ⟨g, i, none⟩ v) q a' b' c' 28 := fun W q i v a' b' c' hq h => (Below.heap_setCell _ _ _ _ hq).trans h
  exact ⟨o _ _ _ _ _ _ _ (by omega) (o _ _ _ _ _ _ _ (by omega) (o _ _ _ _ _ _ _ (by omega) h.arg)), o _ _ _ _ _ _ _ (by omega) (o _ _ _ _ _ _ _ (by omega) (o _ _ _ _ _ _ _ (by omega) h.res)), three_below h.below (by omega) _ _ _⟩
set_option maxHeartbeats 4000000 in
theorem implHarderPuzzle_any (W S : List UInt8) (D : Int) (w : World) (hW : W.length ≤ 1048576) (hS : S.length ≤ 1048576) :
    Calls Tryd.prog 29 #[pzV W S D] w fun e w' => e = .returned (.tuple #[pzV (rWHarderPuzzle W S D) (rSHarderPuzzle W S D) (rDHarderPuzzle W S D), .bool (rBHarderPuzzle W S D)]) ∧ Below w.heap.size w w' := by
  have hH := fun (W0 : World) => hasOne_any W S D W0 (by unfold maxLen; omega) (by unfold maxLen; omega)
  have hCW := fun (W0 : World) => cloneQ_any (bs W) W0 (by rw [bs_size]; omega)
  have hCS := fun (W0 : World) => cloneQ_any (bs S) W0 (by rw [bs_size]; omega)
  have hPW := fun (k : Nat) (W0 : World) => openPlaceOne_any (hdW W S D k) S D k W0 (by rw [hdW_len]; omega) hS
  have hPS := fun (k : Nat) (W0 : World) => openSaidOne_any (hdW W S D W.length) (hdS (hdW W S D W.length) S D k) D k W0 (by rw [hdW_len]; omega) (by rw [hdS_len]; omega)
  unfold rWHarderPuzzle rSHarderPuzzle rDHarderPuzzle rBHarderPuzzle
  obtain ⟨R, hR⟩ : ∃ R, R = oneB W S D := ⟨_, rfl⟩
  rw [← hR]
  simp only [← hR] at hH
  clear hR
  cases R with
  | false =>
    simp only [Bool.false_eq_true, if_false]
    unfold pzV at hH ⊢
    generalize bs W = t at *
    generalize bs S = u at *
    have HH := Lib.hid hH
    have HT := Lib.hid (twoP_new w (.string t) (.string u) (.int .i64 D))
    obtain ⟨c0, c1, c2, _, _, _⟩ := HT.out.arg.cells
    clear hH hCW hCS hPW hPS
    go_enter Tryd.func29, Tryd.ntmps29
    go_wp2_with fail
    refine (HH.out _).mono ?_
    rintro e w1 ⟨rfl, hb⟩
    have ht := HT.out.later hb
    clear c0 c1 c2
    obtain ⟨c0, c1, c2, f0, f1, f2⟩ := ht.res.cells
    have HB := Lib.hid ht.below
    clear hb ht
    go_wp2_with fail
    refine bodyPost_ret (v := .tuple #[.agg #[.string ⟨#[]⟩, .string ⟨#[]⟩, .int .i64 0], .bool false]) ?_ rfl ⟨rfl, three_below HB.out (by omega) _ _ _⟩
    simp [results, Tryd.results29, go_sem, c0, c1, c2]
  | true =>
    simp only [if_true]
    obtain ⟨N, hN⟩ : ∃ N, N = W.length := ⟨_, rfl⟩
    obtain ⟨M, hM⟩ : ∃ M, M = S.length := ⟨_, rfl⟩
    rw [← hN] at hW hPS ⊢
    rw [← hM] at hS ⊢
    have hPW : ∀ k (W0 : World), Calls Tryd.prog 46 #[pzV (hdW W S D k) S D, .int .i64 (k : Int), .func (.func 47) #[] #[]] W0 fun e w' => e = .returned (pzV (hdW W S D (k + 1)) S D) ∧ Below W0.heap.size W0 w' := hPW
    have hPS : ∀ k (W0 : World), Calls Tryd.prog 46 #[pzV (hdW W S D N) (hdS (hdW W S D N) S D k) D, .int .i64 (k : Int), .func (.func 48) #[] #[]] W0 fun e w' => e = .returned (pzV (hdW W S D N) (hdS (hdW W S D N) S D (k + 1)) D) ∧ Below W0.heap.size W0 w' := hPS
    have hsz1 : (bs W).size = N := by rw [bs_size, hN]
    have hsz2 : (bs S).size = M := by rw [bs_size, hM]
    unfold pzV at *
    obtain ⟨fw, hfw⟩ : ∃ fw : Nat → ByteArray, fw = fun k => bs (hdW W S D k) := ⟨_, rfl⟩
    obtain ⟨fs, hfs⟩ : ∃ fs : Nat → ByteArray, fs = fun k => bs (hdS (hdW W S D N) S D k) := ⟨_, rfl⟩
    have hPW2 : ∀ k (W0 : World), Calls Tryd.prog 46 #[.agg #[.string (fw k), .string (bs S), .int .i64 D], .int .i64 (k : Int), .func (.func 47) #[] #[]] W0 fun e w' => e = .returned (.agg #[.string (fw (k + 1)), .string (bs S), .int .i64 D]) ∧ Below W0.heap.size W0 w' := by rw [hfw]; exact hPW
    have hPS2 : ∀ k (W0 : World), Calls Tryd.prog 46 #[.agg #[.string (fw N), .string (fs k), .int .i64 D], .int .i64 (k : Int), .func (.func 48) #[] #[]] W0 fun e w' => e = .returned (.agg #[.string (fw N), .string (fs (k + 1)), .int .i64 D]) ∧ Below W0.heap.size W0 w' := by rw [hfw, hfs]; exact hPS
    have hw0 : fw 0 = bs W := by rw [hfw]; rfl
    have hs0 : fs 0 = bs S := by rw [hfs]; rfl
    have hwN : bs (hdW W S D N) = fw N := by rw [hfw]
    have hsM : bs (hdS (hdW W S D N) S D M) = fs M := by rw [hfs]
    rw [hwN, hsM]
    generalize bs W = t at *
    generalize bs S = u at *
    have HH := Lib.hid hH; have HCW := Lib.hid hCW; have HCS := Lib.hid hCS; have HPW := Lib.hid hPW2; have HPS := Lib.hid hPS2; have HW0 := Lib.hid hw0; have HS0 := Lib.hid hs0
    have HT := Lib.hid (twoP_new w (.string t) (.string u) (.int .i64 D))
    obtain ⟨c0, c1, c2, _, _, _⟩ := HT.out.arg.cells
    clear hH hCW hCS hPW hPS hPW2 hPS2 hfw hfs hw0 hs0 hwN hsM hN hM
    go_enter Tryd.func29, Tryd.ntmps29
    go_wp2_with fail
    refine (HH.out _).mono ?_
    rintro e w1 ⟨rfl, hb⟩
    have HT1 := Lib.hid (HT.out.later hb)
    clear hb c0 c1 c2
    have HS := Lib.hid (fun (W0 : World) (h : Below w1.heap.size w1 W0) => And.intro (HT1.out.later h).arg.cells.c0 (And.intro (HT1.out.later h).arg.cells.c1 (HT1.out.later h).arg.cells.c2))
    go_wp2_with fail
    go_region_held3 (fun W0 : World => W0.cell? ⟨w.heap.size, 0, none⟩ = some (.string t) ∧ W0.cell? ⟨w.heap.size, 1, none⟩ = some (.string u) ∧ W0.cell? ⟨w.heap.size, 2, none⟩ = some (.int .i64 D)) (first | assumption | (refine HS.out _ ?_; repeat' (first | exact Below.refl _ _ | assumption | refine below_trans ?_ (below_drew _) | refine below_trans ?_ (below_alloc _ _) | refine bel_set ?_ (bel_size ?_) _ | refine below_trans ?_ (by assumption)))) (first | (go_at_call 45; with_reducible refine (HCW.out _).mono ?_; rintro e w5 ⟨rfl, hb5⟩; (first | (have hz := (threeAt_new _ _ _ _ _).below hb5; have HZ := Lib.hid hz; obtain ⟨z0, z1, z2, y0, y1, y2⟩ := hz.cells; clear hz) | (have hz := (threeAt_new _ _ _ _ _).drew.below hb5; have HZ := Lib.hid hz; obtain ⟨z0, z1, z2, y0, y1, y2⟩ := hz.cells; clear hz) | (have hz := ThreeAt.below (Hid.out (by assumption : Hid (ThreeAt _ _ _ _ _ _))) hb5; have HZ := Lib.hid hz; obtain ⟨z0, z1, z2, y0, y1, y2⟩ := hz.cells; clear hz) | skip)) | (go_at_call 45; with_reducible refine (HCS.out _).mono ?_; rintro e w6 ⟨rfl, hb6⟩; (first | (have hz := (threeAt_new _ _ _ _ _).below hb6; have HZ := Lib.hid hz; obtain ⟨z0, z1, z2, y0, y1, y2⟩ := hz.cells; clear hz) | (have hz := (threeAt_new _ _ _ _ _).drew.below hb6; have HZ := Lib.hid hz; obtain ⟨z0, z1, z2, y0, y1, y2⟩ := hz.cells; clear hz) | (have hz := ThreeAt.below (Hid.out (by assumption : Hid (ThreeAt _ _ _ _ _ _))) hb6; have HZ := Lib.hid hz; obtain ⟨z0, z1, z2, y0, y1, y2⟩ := hz.cells; clear hz) | skip)))
    · have HG : Hid (ThreeAt (w6.alloc (.cells #[.string t, .string u, .int .i64 D] 28)) (w6.heap.size) (.string t) (.string u) (.int .i64 D) 28) := Lib.hid (threeAt_new _ _ _ _ _)
      have HTW : Hid (TwoP w (.string t) (.string u) (.int .i64 D) (w6.alloc (.cells #[.string t, .string u, .int .i64 D] 28))) := Lib.hid (HT1.out.later (by repeat' (first | exact Below.refl _ _ | assumption | refine below_trans ?_ (below_drew _) | refine below_trans ?_ (below_alloc _ _) | refine bel_set ?_ (bel_size ?_) _ | refine below_trans ?_ (by assumption))))
      have hgB : w.heap.size + 1 < w6.heap.size := Nat.lt_of_lt_of_le HT1.out.res.lt (bel_size (w := w1) (by repeat' (first | exact Below.refl _ _ | assumption | refine below_trans ?_ (below_drew _) | refine below_trans ?_ (below_alloc _ _) | refine bel_set ?_ (bel_size ?_) _ | refine below_trans ?_ (by assumption))))
      obtain ⟨w7, hw7⟩ : ∃ w7, w7 = w6.alloc (.cells #[.string t, .string u, .int .i64 D] 28) := ⟨_, rfl⟩
      obtain ⟨g, hgg⟩ : ∃ g, g = w6.heap.size := ⟨_, rfl⟩
      rw [← hw7] at HG HTW ⊢
      rw [← hgg] at HG hgB ⊢
      clear hw7 hgg HS HCW HCS HH
      obtain ⟨c0, c1, c2, _, _, _⟩ := HTW.out.arg.cells
      go_wp2_with fail
      clear c0 c1 c2
      go_loopw [23] (fun iv wr => ∃ k : Nat, k ≤ N ∧ iv = .int .i64 (k : Int) ∧ Hid (ThreeAt wr g (.string (fw k)) (.string u) (.int .i64 D) 28 ∧ TwoP w (.string t) (.string u) (.int .i64 D) wr)) (fun iv _ => N - (intOf iv).toNat)
      case atStart => exact ⟨0, Nat.zero_le _, rfl, by rw [HW0.out]; exact HG.out, HTW.out⟩
      case round =>
        obtain ⟨k, hk, rfl, HX⟩ := hrel
        by_cases hlt : k < N
        · obtain ⟨d0, d1, d2, _, _, _⟩ := HX.out.1.cells
          go_wp2_with fail
          refine (HPW.out k _).mono ?_
          rintro e w8 ⟨rfl, hb⟩
          have hg8 := HX.out.1.below hb
          have HT8 := Lib.hid (HX.out.2.later hb)
          clear d0 d1 d2 hb
          obtain ⟨d0, d1, d2, f0, f1, f2⟩ := hg8.cells
          have HG8 := Lib.hid hg8; clear hg8
          go_wp2_with fail
          go_roundw
          case rel => exact ⟨k + 1, by omega, by go_num, threeAt_put HG8.out _ _ _, twoP_put HT8.out hgB _ _ _⟩
          case measure => simp [intOf] <;> omega
        · have hkN : k = N := by omega
          subst hkN
          obtain ⟨c0, c1, c2, _, _, _⟩ := HX.out.2.arg.cells
          go_wp2_with fail
          clear c0 c1 c2
          go_loopw [33] (fun iv wr => ∃ j : Nat, j ≤ M ∧ iv = .int .i64 (j : Int) ∧ Hid (ThreeAt wr g (.string (fw k)) (.string (fs j)) (.int .i64 D) 28 ∧ TwoP w (.string t) (.string u) (.int .i64 D) wr)) (fun iv _ => M - (intOf iv).toNat)
          case atStart => exact ⟨0, Nat.zero_le _, rfl, by rw [HS0.out]; exact HX.out.1, HX.out.2⟩
          case round =>
            obtain ⟨j, hj, rfl, HY⟩ := hrel
            by_cases hlj : j < M
            · obtain ⟨d0, d1, d2, _, _, _⟩ := HY.out.1.cells
              go_wp2_with fail
              refine (HPS.out j _).mono ?_
              rintro e w8 ⟨rfl, hb⟩
              have hg8 := HY.out.1.below hb
              have HT8 := Lib.hid (HY.out.2.later hb)
              clear d0 d1 d2 hb
              obtain ⟨d0, d1, d2, f0, f1, f2⟩ := hg8.cells
              have HG8 := Lib.hid hg8; clear hg8
              go_wp2_with fail
              go_roundw
              case rel => exact ⟨j + 1, by omega, by go_num, threeAt_put HG8.out _ _ _, twoP_put HT8.out hgB _ _ _⟩
              case measure => simp [intOf] <;> omega
            · have hjM : j = M := by omega
              subst hjM
              obtain ⟨d0, d1, d2, _, _, _⟩ := HY.out.1.cells
              obtain ⟨r0, r1, r2, f0, f1, f2⟩ := HY.out.2.res.cells
              have HB := Lib.hid HY.out.2.below
              go_wp2_with fail
              refine bodyPost_ret (v := .tuple #[.agg #[.string (fw k), .string (fs j), .int .i64 D], .bool true]) ?_ rfl ⟨rfl, three_below HB.out (by omega) _ _ _⟩
              simp [results, Tryd.results29, go_sem, r0, r1, r2]
    · have HG : Hid (ThreeAt (((w6.setCell ⟨w5.heap.size, 0, none⟩ (.string t)).setCell ⟨w5.heap.size, 1, none⟩ (.string u)).setCell ⟨w5.heap.size, 2, none⟩ (.int .i64 D)) (w5.heap.size) (.string t) (.string u) (.int .i64 D) 28) := Lib.hid (threeAt_put (Hid.out (by assumption : Hid (ThreeAt w6 w5.heap.size _ _ _ _))) _ _ _)
      have HTW : Hid (TwoP w (.string t) (.string u) (.int .i64 D) (((w6.setCell ⟨w5.heap.size, 0, none⟩ (.string t)).setCell ⟨w5.heap.size, 1, none⟩ (.string u)).setCell ⟨w5.heap.size, 2, none⟩ (.int .i64 D))) := Lib.hid (HT1.out.later (by repeat' (first | exact Below.refl _ _ | assumption | refine below_trans ?_ (below_drew _) | refine below_trans ?_ (below_alloc _ _) | refine bel_set ?_ (bel_size ?_) _ | refine below_trans ?_ (by assumption))))
      have hgB : w.heap.size + 1 < w5.heap.size := Nat.lt_of_lt_of_le HT1.out.res.lt (bel_size (w := w1) (by repeat' (first | exact Below.refl _ _ | assumption | refine below_trans ?_ (below_drew _) | refine below_trans ?_ (below_alloc _ _) | refine bel_set ?_ (bel_size ?_) _ | refine below_trans ?_ (by assumption))))
      obtain ⟨w7, hw7⟩ : ∃ w7, w7 = ((w6.setCell ⟨w5.heap.size, 0, none⟩ (.string t)).setCell ⟨w5.heap.size, 1, none⟩ (.string u)).setCell ⟨w5.heap.size, 2, none⟩ (.int .i64 D) := ⟨_, rfl⟩
      obtain ⟨g, hgg⟩ : ∃ g, g = w5.heap.size := ⟨_, rfl⟩
      rw [← hw7] at HG HTW ⊢
      rw [← hgg] at HG hgB ⊢
      clear hw7 hgg HS HCW HCS HH
      obtain ⟨c0, c1, c2, _, _, _⟩ := HTW.out.arg.cells
      go_wp2_with fail
      clear c0 c1 c2
      go_loopw [23] (fun iv wr => ∃ k : Nat, k ≤ N ∧ iv = .int .i64 (k : Int) ∧ Hid (ThreeAt wr g (.string (fw k)) (.string u) (.int .i64 D) 28 ∧ TwoP w (.string t) (.string u) (.int .i64 D) wr)) (fun iv _ => N - (intOf iv).toNat)
      case atStart => exact ⟨0, Nat.zero_le _, rfl, by rw [HW0.out]; exact HG.out, HTW.out⟩
      case round =>
        obtain ⟨k, hk, rfl, HX⟩ := hrel
        by_cases hlt : k < N
        · obtain ⟨d0, d1, d2, _, _, _⟩ := HX.out.1.cells
          go_wp2_with fail
          refine (HPW.out k _).mono ?_
          rintro e w8 ⟨rfl, hb⟩
          have hg8 := HX.out.1.below hb
          have HT8 := Lib.hid (HX.out.2.later hb)
          clear d0 d1 d2 hb
          obtain ⟨d0, d1, d2, f0, f1, f2⟩ := hg8.cells
          have HG8 := Lib.hid hg8; clear hg8
          go_wp2_with fail
          go_roundw
          case rel => exact ⟨k + 1, by omega, by go_num, threeAt_put HG8.out _ _ _, twoP_put HT8.out hgB _ _ _⟩
          case measure => simp [intOf] <;> omega
        · have hkN : k = N := by omega
          subst hkN
          obtain ⟨c0, c1, c2, _, _, _⟩ := HX.out.2.arg.cells
          go_wp2_with fail
          clear c0 c1 c2
          go_loopw [33] (fun iv wr => ∃ j : Nat, j ≤ M ∧ iv = .int .i64 (j : Int) ∧ Hid (ThreeAt wr g (.string (fw k)) (.string (fs j)) (.int .i64 D) 28 ∧ TwoP w (.string t) (.string u) (.int .i64 D) wr)) (fun iv _ => M - (intOf iv).toNat)
          case atStart => exact ⟨0, Nat.zero_le _, rfl, by rw [HS0.out]; exact HX.out.1, HX.out.2⟩
          case round =>
            obtain ⟨j, hj, rfl, HY⟩ := hrel
            by_cases hlj : j < M
            · obtain ⟨d0, d1, d2, _, _, _⟩ := HY.out.1.cells
              go_wp2_with fail
              refine (HPS.out j _).mono ?_
              rintro e w8 ⟨rfl, hb⟩
              have hg8 := HY.out.1.below hb
              have HT8 := Lib.hid (HY.out.2.later hb)
              clear d0 d1 d2 hb
              obtain ⟨d0, d1, d2, f0, f1, f2⟩ := hg8.cells
              have HG8 := Lib.hid hg8; clear hg8
              go_wp2_with fail
              go_roundw
              case rel => exact ⟨j + 1, by omega, by go_num, threeAt_put HG8.out _ _ _, twoP_put HT8.out hgB _ _ _⟩
              case measure => simp [intOf] <;> omega
            · have hjM : j = M := by omega
              subst hjM
              obtain ⟨d0, d1, d2, _, _, _⟩ := HY.out.1.cells
              obtain ⟨r0, r1, r2, f0, f1, f2⟩ := HY.out.2.res.cells
              have HB := Lib.hid HY.out.2.below
              go_wp2_with fail
              refine bodyPost_ret (v := .tuple #[.agg #[.string (fw k), .string (fs j), .int .i64 D], .bool true]) ?_ rfl ⟨rfl, three_below HB.out (by omega) _ _ _⟩
              simp [results, Tryd.results29, go_sem, r0, r1, r2]
    · have HG : Hid (ThreeAt (((w6.setCell ⟨w1.heap.size, 0, none⟩ (.string t)).setCell ⟨w1.heap.size, 1, none⟩ (.string u)).setCell ⟨w1.heap.size, 2, none⟩ (.int .i64 D)) (w1.heap.size) (.string t) (.string u) (.int .i64 D) 28) := Lib.hid (threeAt_put (Hid.out (by assumption : Hid (ThreeAt w6 w1.heap.size _ _ _ _))) _ _ _)
      have HTW : Hid (TwoP w (.string t) (.string u) (.int .i64 D) (((w6.setCell ⟨w1.heap.size, 0, none⟩ (.string t)).setCell ⟨w1.heap.size, 1, none⟩ (.string u)).setCell ⟨w1.heap.size, 2, none⟩ (.int .i64 D))) := Lib.hid (HT1.out.later (by repeat' (first | exact Below.refl _ _ | assumption | refine below_trans ?_ (below_drew _) | refine below_trans ?_ (below_alloc _ _) | refine bel_set ?_ (bel_size ?_) _ | refine below_trans ?_ (by assumption))))
      have hgB : w.heap.size + 1 < w1.heap.size := Nat.lt_of_lt_of_le HT1.out.res.lt (Nat.le_refl _)
      obtain ⟨w7, hw7⟩ : ∃ w7, w7 = ((w6.setCell ⟨w1.heap.size, 0, none⟩ (.string t)).setCell ⟨w1.heap.size, 1, none⟩ (.string u)).setCell ⟨w1.heap.size, 2, none⟩ (.int .i64 D) := ⟨_, rfl⟩
      obtain ⟨g, hgg⟩ : ∃ g, g = w1.heap.size := ⟨_, rfl⟩
      rw [← hw7] at HG HTW ⊢
      rw [← hgg] at HG hgB ⊢
      clear hw7 hgg HS HCW HCS HH
      obtain ⟨c0, c1, c2, _, _, _⟩ := HTW.out.arg.cells
      go_wp2_with fail
      clear c0 c1 c2
      go_loopw [23] (fun iv wr => ∃ k : Nat, k ≤ N ∧ iv = .int .i64 (k : Int) ∧ Hid (ThreeAt wr g (.string (fw k)) (.string u) (.int .i64 D) 28 ∧ TwoP w (.string t) (.string u) (.int .i64 D) wr)) (fun iv _ => N - (intOf iv).toNat)
      case atStart => exact ⟨0, Nat.zero_le _, rfl, by rw [HW0.out]; exact HG.out, HTW.out⟩
      case round =>
        obtain ⟨k, hk, rfl, HX⟩ := hrel
        by_cases hlt : k < N
        · obtain ⟨d0, d1, d2, _, _, _⟩ := HX.out.1.cells
          go_wp2_with fail
          refine (HPW.out k _).mono ?_
          rintro e w8 ⟨rfl, hb⟩
          have hg8 := HX.out.1.below hb
          have HT8 := Lib.hid (HX.out.2.later hb)
          clear d0 d1 d2 hb
          obtain ⟨d0, d1, d2, f0, f1, f2⟩ := hg8.cells
          have HG8 := Lib.hid hg8; clear hg8
          go_wp2_with fail
          go_roundw
          case rel => exact ⟨k + 1, by omega, by go_num, threeAt_put HG8.out _ _ _, twoP_put HT8.out hgB _ _ _⟩
          case measure => simp [intOf] <;> omega
        · have hkN : k = N := by omega
          subst hkN
          obtain ⟨c0, c1, c2, _, _, _⟩ := HX.out.2.arg.cells
          go_wp2_with fail
          clear c0 c1 c2
          go_loopw [33] (fun iv wr => ∃ j : Nat, j ≤ M ∧ iv = .int .i64 (j : Int) ∧ Hid (ThreeAt wr g (.string (fw k)) (.string (fs j)) (.int .i64 D) 28 ∧ TwoP w (.string t) (.string u) (.int .i64 D) wr)) (fun iv _ => M - (intOf iv).toNat)
          case atStart => exact ⟨0, Nat.zero_le _, rfl, by rw [HS0.out]; exact HX.out.1, HX.out.2⟩
          case round =>
            obtain ⟨j, hj, rfl, HY⟩ := hrel
            by_cases hlj : j < M
            · obtain ⟨d0, d1, d2, _, _, _⟩ := HY.out.1.cells
              go_wp2_with fail
              refine (HPS.out j _).mono ?_
              rintro e w8 ⟨rfl, hb⟩
              have hg8 := HY.out.1.below hb
              have HT8 := Lib.hid (HY.out.2.later hb)
              clear d0 d1 d2 hb
              obtain ⟨d0, d1, d2, f0, f1, f2⟩ := hg8.cells
              have HG8 := Lib.hid hg8; clear hg8
              go_wp2_with fail
              go_roundw
              case rel => exact ⟨j + 1, by omega, by go_num, threeAt_put HG8.out _ _ _, twoP_put HT8.out hgB _ _ _⟩
              case measure => simp [intOf] <;> omega
            · have hjM : j = M := by omega
              subst hjM
              obtain ⟨d0, d1, d2, _, _, _⟩ := HY.out.1.cells
              obtain ⟨r0, r1, r2, f0, f1, f2⟩ := HY.out.2.res.cells
              have HB := Lib.hid HY.out.2.below
              go_wp2_with fail
              refine bodyPost_ret (v := .tuple #[.agg #[.string (fw k), .string (fs j), .int .i64 D], .bool true]) ?_ rfl ⟨rfl, three_below HB.out (by omega) _ _ _⟩
              simp [results, Tryd.results29, go_sem, r0, r1, r2]
end Go.Proofs.YtplcdofpikdigaaDoor
