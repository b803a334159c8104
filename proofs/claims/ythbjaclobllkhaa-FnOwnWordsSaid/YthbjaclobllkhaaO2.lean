/- The model's own word: a row of numbers. -/
import Derived.Test.YthbjaclobllkhaaO1
import Derived.Test.YthbjaclobllkhaaA4
namespace Go.Proofs.Ythbjaclobllkhaa
open Go.RowKit Go.BigFrame
set_option linter.unusedSimpArgs false
set_option linter.unusedVariables false
set_option maxRecDepth 4000

def nVs (xs : List Nat) : List Value := xs.map fun (x : Nat) => Value.int .i64 (x : Int)
theorem nVs_len (xs : List Nat) : (nVs xs).length = xs.length := by simp [nVs]
theorem nVs_app (xs ys : List Nat) : nVs (xs ++ ys) = nVs xs ++ nVs ys := by simp [nVs]
theorem info_intO : ∃ i, Try.prog.info? 3 = some i ∧ i.zero = some (.int .i64 0) ∧ i.size = 1 ∧ i.bytes = 8 := by
  have h : (Try.prog.info? 3).map (fun i => (i.zero, i.size, i.bytes)) = some (some (.int .i64 0), 1, 8) := by kernel_rfl
  obtain ⟨i, hi, hb⟩ := Option.map_eq_some_iff.1 h
  simp only [Prod.mk.injEq] at hb
  exact ⟨i, hi, hb.1, hb.2.1, hb.2.2⟩

/-- A slice value holds these numbers, in a block of the call's own. -/
def NumsAt (w : World) (B : Nat) (v : Value) (xs : List Nat) : Prop :=
  ∃ g cap, v = .slice (some ⟨g, 0, none⟩) xs.length cap ∧ B ≤ g ∧ g < w.heap.size ∧ ∀ i (h : i < xs.length), w.cell? ⟨g, i, none⟩ = some (.int .i64 (xs[i] : Int))

theorem ownN_cells {w : World} {B : Nat} {v : Value} {xs : List Nat} (h : w.ownsRow B 3 1 v xs.length (nVs xs)) (g c : Nat) (hv : v = .slice (some ⟨g, 0, none⟩) xs.length c) (i : Nat) (hi : i < xs.length) :
    w.cell? ⟨g, i, none⟩ = some (.int .i64 (xs[i] : Int)) := by
  subst hv
  rw [h.cellAt i (by omega)]
  simp [nVs, hi]
def CapOk (v : Value) (n : Nat) : Prop := ∃ a c, v = .slice a n c ∧ n ≤ c ∧ c ≤ 9223372036854775807
set_option maxHeartbeats 1000000 in
theorem ruOwnC_any (a b n : Nat) (w : World) (ha : 1 ≤ a ∧ a ≤ 9) (hb : 1 ≤ b ∧ b ≤ 9) (hn1 : 1 ≤ n) (hn : n ≤ 100000) :
    Calls Try.prog 30 #[.int .i64 (a : Int), .int .i64 (b : Int), .int .i64 (n : Int)] w fun e w' => ∃ v, e = .returned v ∧ (NumsAt w' w.heap.size v (gOwn a b n) ∧ CapOk v n) ∧ Below w.heap.size w w' := by
  obtain ⟨i0, hi, hz0, hz1, hz2⟩ := info_intO
  go_enter Try.func30, Try.ntmps30
  go_wp2_with (refine wpList_make_own _ rfl _ _ 47 rfl w.heap.size 3 i0 (.int .i64 0) 1 Try.underlying47 hi hz0 hz1 .i64 .i64 ((n : Int) + 10) (n + 10) rfl rfl (by omega) (by rw [hz2]; omega) (by unfold maxLen; omega) (by simp) ?_; intro w1 hown hgr)
  have HO := Lib.hid hown; have HB := Lib.hid ((Below.refl w.heap.size w).grown hgr (by simp) (fun k h => by cases h))
  clear hown hgr
  go_loopw [7, 8] (fun v q wr => ∃ (r : Nat) (G : List Nat), q = .int .i64 (r : Int) ∧ r ≤ n ∧ r ≤ G.length ∧ G.length ≤ n + 9 ∧ (∃ a c, v = .slice a G.length c) ∧ Hid (G = gG a b r ∧ wr.ownsRow w.heap.size 3 1 v G.length (nVs G) ∧ Below w.heap.size w wr)) (fun _ q _ => n - (intOf q).toNat)
  case atStart => exact ⟨0, [], rfl, Nat.zero_le _, Nat.le_refl _, by simp, ⟨_, _, rfl⟩, rfl, HO.out, HB.out⟩
  case round =>
    obtain ⟨r, G, rfl, hr, hrG, hG9, ⟨av, cv, rfl⟩, HX⟩ := hrel
    have hda := gD_mem a b r
    have hpar : (r % 2 = 1 ∧ gD a b r = b) ∨ (¬ r % 2 = 1 ∧ gD a b r = a) := by unfold gD; split <;> simp_all
    have htm : ((r : Int).tmod 2) = ((r % 2 : Nat) : Int) := by rw [Int.tmod_eq_emod_of_nonneg (by omega)]; omega
    by_cases hlt : G.length < n
    · have hL : gG a b (r + 1) = G ++ List.replicate (gLen a b r) (gD a b r) := by rw [gG_succ, ← HX.out.1]
      have HL := Lib.hid hL; clear hL
      
      rcases hpar with ⟨hp, hd⟩ | ⟨hp, hd⟩
      · by_cases hx : r < G.length
        · rcases own_open HX.out.2.1 with ⟨_, h0, _⟩ | ⟨g, cap, hv, hB, hg, hnc, hcm, _, _, _⟩
          · omega
          · cases hv
            have hc := ownN_cells HX.out.2.1 g _ rfl r hx
            have hmem := gG_mem a b r G[r] (by rw [← HX.out.1]; exact List.getElem_mem hx)
            have HLL : Hid (gLen a b r = G[r]) := by unfold gLen; rw [← HX.out.1, List.getElem?_eq_getElem hx]; rfl
            have hcc : (nVs G)[r]'(by rw [nVs_len]; exact hx) = .int .i64 (G[r] : Int) := by simp [nVs]
            obtain ⟨L, hLd⟩ : ∃ L, L = G[r] := ⟨_, rfl⟩
            rw [← hLd] at hc hmem HLL hcc
            have hL9 : L ≤ 9 := by omega
            clear hmem hLd
            go_wp2_with fail
            go_loopw [7, 10] (fun v q wr2 => ∃ (k m : Nat), k + m = L ∧ q = .int .i64 (k : Int) ∧ (∃ av cv, v = .slice av (G.length + m) cv) ∧ Hid (wr2.ownsRow w.heap.size 3 1 v (G.length + m) (nVs (G ++ List.replicate m (gD a b r))) ∧ Below w.heap.size w wr2)) (fun _ q _ => (intOf q).toNat)
            case atStart => exact ⟨L, 0, rfl, rfl, ⟨_, _, rfl⟩, by simpa using HX.out.2.1, HX.out.2.2⟩
            case round =>
              obtain ⟨k, m, hkm, rfl, ⟨av2, cv2, rfl⟩, HY⟩ := hrel
              by_cases hk : 0 < k
              · obtain ⟨k2, rfl⟩ : ∃ k2, k = k2 + 1 := ⟨k - 1, by omega⟩
                have hXl : (nVs (G ++ List.replicate m (gD a b r))).length = G.length + m := by rw [nVs_len]; simp
                go_wp2_with (at_builtin; refine wpList_app _ rfl _ _ 47 rfl w.heap.size 3 i0 (.int .i64 0) 8 Try.underlying47 hi hz0 hz1 hz2 rfl _ (G.length + m) _ rfl (HY.out.1.alloc _) _ 1 1 [.int .i64 (b : Int)] rfl rfl ?c1 ?c2 ?c3 ?c4 ?c5 ?_)
                case c1 => intro j u hj; cases j with | zero => (simp at hj; subst hj; simp [Addr.add]) | succ j => simp at hj
                case c2 => intro u hu; simp at hu; subst hu; rfl
                case c3 => unfold maxLen; omega
                case c4 => omega
                case c5 => have := HY.out.2.size; simp; omega
                intro v' w3 hown' hgrow _
                obtain ⟨av', cv', rfl⟩ := own_slice hown'
                have R1 := Lib.hid hown'
                have R2 := Lib.hid ((HY.out.2.alloc HY.out.2.size _).grown hgrow (by have := HY.out.2.size; simp; omega) (fun q hq => (HY.out.1.lt q hq).1))
                clear hown' hgrow
                go_wp2_with fail
                go_roundw
                case rel =>
                  refine ⟨k2, m + 1, by omega, by go_num, ⟨av', cv', rfl⟩, ?_, R2.out⟩
                  have := R1.out
                  rw [List.replicate_succ', ← List.append_assoc, nVs_app, hd]
                  try rw [hd] at this
                  exact this
                case measure => simp [intOf] <;> omega
              · obtain rfl : k = 0 := by omega
                obtain rfl : m = L := by omega
                go_wp2_with fail
                go_roundw
                case rel =>
                  have hgl : (gG a b (r + 1)).length = G.length + m := by rw [HL.out, HLL.out]; simp
                  refine ⟨r + 1, gG a b (r + 1), by go_num, by omega, by omega, by omega, ⟨av2, cv2, by rw [hgl]⟩, rfl, ?_, HY.out.2⟩
                  rw [hgl, HL.out, HLL.out]
                  exact HY.out.1
                case measure => simp [intOf] <;> omega
        · have HLL : Hid (gLen a b r = b) := by unfold gLen; rw [← HX.out.1, List.getElem?_eq_none_iff.2 (by omega)]; exact hd
          go_wp2_with fail
          go_loopw [7, 10] (fun v q wr2 => ∃ (k m : Nat), k + m = b ∧ q = .int .i64 (k : Int) ∧ (∃ av cv, v = .slice av (G.length + m) cv) ∧ Hid (wr2.ownsRow w.heap.size 3 1 v (G.length + m) (nVs (G ++ List.replicate m (gD a b r))) ∧ Below w.heap.size w wr2)) (fun _ q _ => (intOf q).toNat)
          case atStart => exact ⟨b, 0, rfl, rfl, ⟨_, _, rfl⟩, by simpa using HX.out.2.1, HX.out.2.2⟩
          case round =>
            obtain ⟨k, m, hkm, rfl, ⟨av2, cv2, rfl⟩, HY⟩ := hrel
            by_cases hk : 0 < k
            · obtain ⟨k2, rfl⟩ : ∃ k2, k = k2 + 1 := ⟨k - 1, by omega⟩
              have hXl : (nVs (G ++ List.replicate m (gD a b r))).length = G.length + m := by rw [nVs_len]; simp
              go_wp2_with (at_builtin; refine wpList_app _ rfl _ _ 47 rfl w.heap.size 3 i0 (.int .i64 0) 8 Try.underlying47 hi hz0 hz1 hz2 rfl _ (G.length + m) _ rfl (HY.out.1.alloc _) _ 1 1 [.int .i64 (b : Int)] rfl rfl ?c1 ?c2 ?c3 ?c4 ?c5 ?_)
              case c1 => intro j u hj; cases j with | zero => (simp at hj; subst hj; simp [Addr.add]) | succ j => simp at hj
              case c2 => intro u hu; simp at hu; subst hu; rfl
              case c3 => unfold maxLen; omega
              case c4 => omega
              case c5 => have := HY.out.2.size; simp; omega
              intro v' w3 hown' hgrow _
              obtain ⟨av', cv', rfl⟩ := own_slice hown'
              have R1 := Lib.hid hown'
              have R2 := Lib.hid ((HY.out.2.alloc HY.out.2.size _).grown hgrow (by have := HY.out.2.size; simp; omega) (fun q hq => (HY.out.1.lt q hq).1))
              clear hown' hgrow
              go_wp2_with fail
              go_roundw
              case rel =>
                refine ⟨k2, m + 1, by omega, by go_num, ⟨av', cv', rfl⟩, ?_, R2.out⟩
                have := R1.out
                rw [List.replicate_succ', ← List.append_assoc, nVs_app, hd]
                try rw [hd] at this
                exact this
              case measure => simp [intOf] <;> omega
            · obtain rfl : k = 0 := by omega
              have hmx : m = b := by omega
              go_wp2_with fail
              go_roundw
              case rel =>
                have hgl : (gG a b (r + 1)).length = G.length + m := by rw [HL.out, HLL.out]; simp; omega
                refine ⟨r + 1, gG a b (r + 1), by go_num, by omega, by omega, by omega, ⟨av2, cv2, by rw [hgl]⟩, rfl, ?_, HY.out.2⟩
                rw [hgl, HL.out, HLL.out]
                have hy := HY.out.1
                rw [hmx] at hy ⊢
                exact hy
              case measure => simp [intOf] <;> omega
      · have hp2 : ((r : Int) % 2 == 1) = false := by simp; omega
        by_cases hx : r < G.length
        · rcases own_open HX.out.2.1 with ⟨_, h0, _⟩ | ⟨g, cap, hv, hB, hg, hnc, hcm, _, _, _⟩
          · omega
          · cases hv
            have hc := ownN_cells HX.out.2.1 g _ rfl r hx
            have hmem := gG_mem a b r G[r] (by rw [← HX.out.1]; exact List.getElem_mem hx)
            have HLL : Hid (gLen a b r = G[r]) := by unfold gLen; rw [← HX.out.1, List.getElem?_eq_getElem hx]; rfl
            have hcc : (nVs G)[r]'(by rw [nVs_len]; exact hx) = .int .i64 (G[r] : Int) := by simp [nVs]
            obtain ⟨L, hLd⟩ : ∃ L, L = G[r] := ⟨_, rfl⟩
            rw [← hLd] at hc hmem HLL hcc
            have hL9 : L ≤ 9 := by omega
            clear hmem hLd
            go_wp2_with fail
            go_loopw [7, 10] (fun v q wr2 => ∃ (k m : Nat), k + m = L ∧ q = .int .i64 (k : Int) ∧ (∃ av cv, v = .slice av (G.length + m) cv) ∧ Hid (wr2.ownsRow w.heap.size 3 1 v (G.length + m) (nVs (G ++ List.replicate m (gD a b r))) ∧ Below w.heap.size w wr2)) (fun _ q _ => (intOf q).toNat)
            case atStart => exact ⟨L, 0, rfl, rfl, ⟨_, _, rfl⟩, by simpa using HX.out.2.1, HX.out.2.2⟩
            case round =>
              obtain ⟨k, m, hkm, rfl, ⟨av2, cv2, rfl⟩, HY⟩ := hrel
              by_cases hk : 0 < k
              · obtain ⟨k2, rfl⟩ : ∃ k2, k = k2 + 1 := ⟨k - 1, by omega⟩
                have hXl : (nVs (G ++ List.replicate m (gD a b r))).length = G.length + m := by rw [nVs_len]; simp
                go_wp2_with (at_builtin; refine wpList_app _ rfl _ _ 47 rfl w.heap.size 3 i0 (.int .i64 0) 8 Try.underlying47 hi hz0 hz1 hz2 rfl _ (G.length + m) _ rfl (HY.out.1.alloc _) _ 1 1 [.int .i64 (a : Int)] rfl rfl ?c1 ?c2 ?c3 ?c4 ?c5 ?_)
                case c1 => intro j u hj; cases j with | zero => (simp at hj; subst hj; simp [Addr.add]) | succ j => simp at hj
                case c2 => intro u hu; simp at hu; subst hu; rfl
                case c3 => unfold maxLen; omega
                case c4 => omega
                case c5 => have := HY.out.2.size; simp; omega
                intro v' w3 hown' hgrow _
                obtain ⟨av', cv', rfl⟩ := own_slice hown'
                have R1 := Lib.hid hown'
                have R2 := Lib.hid ((HY.out.2.alloc HY.out.2.size _).grown hgrow (by have := HY.out.2.size; simp; omega) (fun q hq => (HY.out.1.lt q hq).1))
                clear hown' hgrow
                go_wp2_with fail
                go_roundw
                case rel =>
                  refine ⟨k2, m + 1, by omega, by go_num, ⟨av', cv', rfl⟩, ?_, R2.out⟩
                  have := R1.out
                  rw [List.replicate_succ', ← List.append_assoc, nVs_app, hd]
                  try rw [hd] at this
                  exact this
                case measure => simp [intOf] <;> omega
              · obtain rfl : k = 0 := by omega
                obtain rfl : m = L := by omega
                go_wp2_with fail
                go_roundw
                case rel =>
                  have hgl : (gG a b (r + 1)).length = G.length + m := by rw [HL.out, HLL.out]; simp
                  refine ⟨r + 1, gG a b (r + 1), by go_num, by omega, by omega, by omega, ⟨av2, cv2, by rw [hgl]⟩, rfl, ?_, HY.out.2⟩
                  rw [hgl, HL.out, HLL.out]
                  exact HY.out.1
                case measure => simp [intOf] <;> omega
        · have HLL : Hid (gLen a b r = a) := by unfold gLen; rw [← HX.out.1, List.getElem?_eq_none_iff.2 (by omega)]; exact hd
          go_wp2_with fail
          go_loopw [7, 10] (fun v q wr2 => ∃ (k m : Nat), k + m = a ∧ q = .int .i64 (k : Int) ∧ (∃ av cv, v = .slice av (G.length + m) cv) ∧ Hid (wr2.ownsRow w.heap.size 3 1 v (G.length + m) (nVs (G ++ List.replicate m (gD a b r))) ∧ Below w.heap.size w wr2)) (fun _ q _ => (intOf q).toNat)
          case atStart => exact ⟨a, 0, rfl, rfl, ⟨_, _, rfl⟩, by simpa using HX.out.2.1, HX.out.2.2⟩
          case round =>
            obtain ⟨k, m, hkm, rfl, ⟨av2, cv2, rfl⟩, HY⟩ := hrel
            by_cases hk : 0 < k
            · obtain ⟨k2, rfl⟩ : ∃ k2, k = k2 + 1 := ⟨k - 1, by omega⟩
              have hXl : (nVs (G ++ List.replicate m (gD a b r))).length = G.length + m := by rw [nVs_len]; simp
              go_wp2_with (at_builtin; refine wpList_app _ rfl _ _ 47 rfl w.heap.size 3 i0 (.int .i64 0) 8 Try.underlying47 hi hz0 hz1 hz2 rfl _ (G.length + m) _ rfl (HY.out.1.alloc _) _ 1 1 [.int .i64 (a : Int)] rfl rfl ?c1 ?c2 ?c3 ?c4 ?c5 ?_)
              case c1 => intro j u hj; cases j with | zero => (simp at hj; subst hj; simp [Addr.add]) | succ j => simp at hj
              case c2 => intro u hu; simp at hu; subst hu; rfl
              case c3 => unfold maxLen; omega
              case c4 => omega
              case c5 => have := HY.out.2.size; simp; omega
              intro v' w3 hown' hgrow _
              obtain ⟨av', cv', rfl⟩ := own_slice hown'
              have R1 := Lib.hid hown'
              have R2 := Lib.hid ((HY.out.2.alloc HY.out.2.size _).grown hgrow (by have := HY.out.2.size; simp; omega) (fun q hq => (HY.out.1.lt q hq).1))
              clear hown' hgrow
              go_wp2_with fail
              go_roundw
              case rel =>
                refine ⟨k2, m + 1, by omega, by go_num, ⟨av', cv', rfl⟩, ?_, R2.out⟩
                have := R1.out
                rw [List.replicate_succ', ← List.append_assoc, nVs_app, hd]
                try rw [hd] at this
                exact this
              case measure => simp [intOf] <;> omega
            · obtain rfl : k = 0 := by omega
              have hmx : m = a := by omega
              go_wp2_with fail
              go_roundw
              case rel =>
                have hgl : (gG a b (r + 1)).length = G.length + m := by rw [HL.out, HLL.out]; simp; omega
                refine ⟨r + 1, gG a b (r + 1), by go_num, by omega, by omega, by omega, ⟨av2, cv2, by rw [hgl]⟩, rfl, ?_, HY.out.2⟩
                rw [hgl, HL.out, HLL.out]
                have hy := HY.out.1
                rw [hmx] at hy ⊢
                exact hy
              case measure => simp [intOf] <;> omega
    · rcases own_open HX.out.2.1 with ⟨_, h0, _⟩ | ⟨g, cap, hv, hB, hg, hnc, hcm, _, _, _⟩
      · omega
      · cases hv
        go_wp2_with fail
        go_ret
        refine ⟨_, rfl, ⟨⟨g, cv, by rw [gOwn_len a b n ha.1 hb.1]; rfl, hB, hg, fun i hi2 => ?_⟩, _, _, rfl, by omega, by unfold maxLen at hcm; omega⟩, HX.out.2.2⟩
        rw [gOwn_len a b n ha.1 hb.1] at hi2
        rw [ownN_cells HX.out.2.1 g _ rfl i (by omega)]
        have h1 : (gOwn a b n)[i]'(by rw [gOwn_len a b n ha.1 hb.1]; exact hi2) = G[i] := by
          have h2 := gG_take a b r n ha.1 hb.1 (by rw [← HX.out.1]; omega)
          rw [← HX.out.1] at h2
          simp only [← h2, List.getElem_take]
        rw [h1]
theorem ruOwn_any (a b n : Nat) (w : World) (ha : 1 ≤ a ∧ a ≤ 9) (hb : 1 ≤ b ∧ b ≤ 9) (hn1 : 1 ≤ n) (hn : n ≤ 100000) :
    Calls Try.prog 30 #[.int .i64 (a : Int), .int .i64 (b : Int), .int .i64 (n : Int)] w fun e w' => ∃ v, e = .returned v ∧ NumsAt w' w.heap.size v (gOwn a b n) ∧ Below w.heap.size w w' :=
  (ruOwnC_any a b n w ha hb hn1 hn).mono fun e w' ⟨v, h1, ⟨h2, _⟩, h3⟩ => ⟨v, h1, h2, h3⟩
end Go.Proofs.Ythbjaclobllkhaa
