/- The model's rows of the back, the nested and the wild sequence. -/
import Derived.Test.YtakmmoplepghjaaG4
import Derived.Test.YtakmmoplepghjaaE2
import Derived.Deep.RegionLaw
import Derived.IntWalk
namespace Go.Proofs.Ytakmmoplepghjaa
open Go.RowKit Go.BigFrame
set_option linter.unusedSimpArgs false
set_option linter.unusedVariables false
set_option maxRecDepth 4000

theorem step_appG {P : Program} {w : World} {ops : Array Oper} {o : Oper} {a : Act} {K : Act → World → Prop} {Q : Exit → Act → World → Prop} {E : Prop} (hgd : o.guard = none) (s x : Operand) (t : TypeId)
    (ho : o.op = .call { callee := .builtin .append, args := #[s, x], argTypes := #[t, t] })
    (base : Nat) (e : TypeId) (i : TypeInfo) (z : Value) (bytes : Nat) (ht : P.underlying t = some (.slice e)) (hi : P.info? e = some i) (hz : i.zero = some z)
    (hsize : i.size = 1) (hby : i.bytes = bytes) (hzs : z.cells.size = 1)
    (v : Value) (n : Nat) (xs : List Value) (hs : a.eval s = v) (hown : w.ownsRow base e 1 v n xs)
    (ad : Addr) (m c : Nat) (news : List Value) (hx : a.eval x = .slice (some ad) m c) (hl : news.length = m) (hnews : ∀ j u, news[j]? = some u → w.cell? (ad.add j) = some u) (h1 : ∀ u ∈ news, u.oneCell' = true)
    (h63 : n + m ≤ maxLen) (hbytes : (n + m) * bytes ≤ 140737488355328) (hbase : base ≤ w.heap.size)
    (h : ∀ v' w', w'.ownsRow base e 1 v' (n + m) (xs ++ news) → w.grownBy w' v.ownBlock → (v'.ownBlock = v.ownBlock ∨ v'.ownBlock = some w.heap.size) → K (a.put o.dst v') w') :
    if Region.wanted o (yielded ops a.tmps) = true then Oper.wp P o a w K Q else E := by
  have hwt : Region.wanted o (yielded ops a.tmps) = true := by simp [Region.wanted, hgd]
  rw [if_pos hwt]
  obtain ⟨v', w', hr, h2, h3, h4⟩ := run_append_own (P := P) w base t o.type e i z 1 bytes ht hi hz hsize hby hzs (by decide) v n xs hown ad m c news (by omega) hnews h1 h63 hbytes hbase
  have hw := append_where w base t o.type e i z bytes ht hi hz hsize hby hzs v n xs hown ad m c news hl hnews h1 h63 hbytes v' w' hr
  unfold Oper.wp execOp
  simp only [ho, resolve, invoke, builtin, Sem.run_bind, Sem.run_pure, Result.andThen_ok, List.map_toArray, List.map_cons, List.map_nil, hs, hx, hr]
  exact h v' w' h2 h3 hw

theorem lit_oneG {w : World} {b : Nat} {v : Value} (h : w.cell? ⟨b, 0, none⟩ = some v) :
    ∀ j u, ([v] : List Value)[j]? = some u → w.cell? ((⟨b, 0, none⟩ : Addr).add j) = some u := by
  intro j u hj
  match j, hj with
  | 0, hj => simp at hj; subst hj; simpa [Addr.add] using h

theorem info_intG : (Try.prog.info? 3).map (fun i => (i.zero, i.size, i.bytes)) = some (some (.int .i64 0), 1, 8) := by kernel_rfl
def seqL (f : Nat → Nat) (m : Nat) : List Int := (List.range m).map fun i => ((f i : Nat) : Int)
theorem seqL_len (f : Nat → Nat) (m : Nat) : (seqL f m).length = m := by simp [seqL]
theorem seqL_succ (f : Nat → Nat) (m : Nat) : seqL f (m + 1) = seqL f m ++ [((f m : Nat) : Int)] := by simp [seqL, List.range_succ]
theorem seqL_get (f : Nat → Nat) (m i : Nat) (h : i < m) : (seqL f m)[i]'(by rw [seqL_len]; exact h) = ((f i : Nat) : Int) := by simp [seqL]
/-- A row that holds the first m numbers of f. -/
abbrev SeqRow (w : World) (B : Nat) (v : Value) (m : Nat) (f : Nat → Nat) : Prop := w.ownsRow B 3 1 v m ((seqL f m).map (.int .i64))
theorem seqRow_cells {w : World} {B : Nat} {v : Value} {m : Nat} {f : Nat → Nat} (h : SeqRow w B v m f) (h0 : 0 < m) :
    ∃ g c, v = .slice (some ⟨g, 0, none⟩) m c ∧ B ≤ g ∧ g < w.heap.size ∧ m ≤ c ∧ c ≤ 9223372036854775807 ∧ ∀ i, i < m → w.cell? ⟨g, i, none⟩ = some (.int .i64 (f i : Nat)) := by
  rcases own_open h with ⟨_, e, _⟩ | ⟨g, c, rfl, h1, h2, h3, h4, h5, h6, _⟩
  · omega
  · unfold maxLen at h4
    refine ⟨g, c, rfl, h1, h2, h3, by omega, fun i hi => ?_⟩
    have := h6 i (by simpa [seqL] using hi)
    rw [this]
    simp [seqL]


set_option maxHeartbeats 1000000 in
theorem seBack_any (n : Nat) (w : World) (h1 : 1 ≤ n) (h9 : n ≤ 3000) :
    Calls Try.prog 64 #[.int .i64 n] w fun e w' => ∃ m v, e = .returned v ∧ n < m ∧ m ≤ 3001 ∧ Hid (SeqRow w' w.heap.size v m bac ∧ Below w.heap.size w w') := by
  obtain ⟨i0, hi, hz0, hz1, hz2⟩ := info_parts info_intG
  go_enter Try.func64, Try.ntmps64
  go_wp2_with fail
  go_loopw [3, 4] (fun v q wr => ∃ m : Nat, q = .int .i64 m ∧ 3 ≤ m ∧ (m = 3 ∨ m ≤ n + 1) ∧ Hid (SeqRow wr w.heap.size v m bac ∧ Below w.heap.size w wr)) (fun _ q _ => n + 1 - (intOf q).toNat)
  case atStart => exact ⟨3, rfl, by omega, by omega, own_lit w w.heap.size 3 [.int .i64 0, .int .i64 1, .int .i64 1] (Nat.le_refl _) (by simp [maxLen]), below_alloc w _⟩
  case round =>
    obtain ⟨m, rfl, hm3, hmn, HX⟩ := hrel
    obtain ⟨g, c, rfl, hgB, hgw, hmc, hc9, hce⟩ := seqRow_cells HX.out.1 (by omega)
    by_cases hlt : m ≤ n
    · obtain ⟨j, rfl⟩ : ∃ j, m = j + 1 := ⟨m - 1, by omega⟩
      have hin := bac_in j (by omega)
      have hp := hin.2.1 (by omega)
      have hl := hin.2.2
      have hr := bac_rec (j + 1) (by omega) (by omega)
      rw [Nat.add_sub_cancel] at hr
      obtain ⟨x, hx⟩ : ∃ x, x = bac j := ⟨_, rfl⟩
      rw [← hx] at hp hl hr
      obtain ⟨t, ht⟩ : ∃ t, t = j + 1 - x := ⟨_, rfl⟩
      rw [← ht] at hr
      have c1 : wr.cell? ⟨g, j, none⟩ = some (.int .i64 (x : Nat)) := by rw [hce j (by omega), hx]
      have c2 := hce x (by omega)
      have c3 := hce t (by omega)
      have hy9 := (bac_in x (by omega)).2.2
      have hz9 := (bac_in t (by omega)).2.2
      obtain ⟨y, hy⟩ : ∃ y, y = bac x := ⟨_, rfl⟩
      obtain ⟨z, hz⟩ : ∃ z, z = bac t := ⟨_, rfl⟩
      rw [← hy] at c2 hr hy9
      rw [← hz] at c3 hr hz9
      have hti : (j : Int) + 1 - (x : Int) = (t : Int) := by omega
      have htl : t < j + 1 := by omega
      have HR := Lib.hid hr
      clear hx hy hz hr hin hce ht
      have b1 : (x : Int) < (j : Int) + 1 := by omega
      have b2 : (t : Int) < (j : Int) + 1 := by omega
      have b3 : IntKind.i64.wrap (t : Int) = (t : Int) := IntWalk.i64_in _ (by omega)
      have b4 : (0 : Int) ≤ (x : Int) := by omega
      have b5 : (0 : Int) ≤ (t : Int) := by omega
      have b6 : IntKind.i64.wrap ((y : Int) + (z : Int)) = (y : Int) + (z : Int) := IntWalk.i64_in _ (by omega)
      have hln : ((seqL bac (j + 1)).map (Value.int .i64)).length = j + 1 := by simp [seqL]
      have hsz0 := HX.out.2.size
      go_wp2_with fail
      go_region_law (refine step_appG rfl (.tmp 17) (.tmp 29) 25 rfl w.heap.size 3 i0 (.int .i64 0) 8 Try.underlying25 hi hz0 hz1 hz2 rfl _ (j + 1) ((seqL bac (j + 1)).map (Value.int .i64)) (by simp [Act.eval, Act.put]) (HX.out.1.drew.alloc _) ⟨wr.heap.size, 0, none⟩ 1 1 [.int .i64 ((y : Int) + (z : Int))] (by simp [Act.eval, Act.put]) rfl (lit_oneG (by simp [go_sem])) (fun u hu => by simp at hu; subst hu; rfl) (by unfold maxLen; omega) (by omega) (by simp [go_sem]; omega) ?_; intro v' w3 hown' hgrow _; have R1 := Lib.hid hown'; have R2 := Lib.hid ((HX.out.2.drew.alloc hsz0 _).grown hgrow (by simp [go_sem]; omega) (fun q hq => (HX.out.1.lt q hq).1)); clear hown' hgrow)
      all_goals
       go_wp2_with fail
       go_roundw
       case rel =>
        refine ⟨j + 2, by go_num, by omega, by omega, ?_, R2.out⟩
        have := R1.out
        unfold SeqRow
        rw [seqL_succ, List.map_append, HR.out]
        simpa using this
       case measure => simp [intOf] <;> omega
    · go_wp2_with fail
      go_ret
      exact ⟨m, _, rfl, by omega, by omega, HX.out⟩

set_option maxHeartbeats 1000000 in
theorem seNested_any (n : Nat) (w : World) (h9 : n ≤ 3009) :
    Calls Try.prog 70 #[.int .i64 n] w fun e w' => ∃ v, e = .returned v ∧ Hid (SeqRow w' w.heap.size v (n + 1) nes ∧ Below w.heap.size w w') := by
  obtain ⟨i0, hi, hz0, hz1, hz2⟩ := info_parts info_intG
  go_enter Try.func70, Try.ntmps70
  go_wp2_with fail
  go_loopw [3, 4] (fun v q wr => ∃ m : Nat, q = .int .i64 m ∧ 1 ≤ m ∧ m ≤ n + 1 ∧ Hid (SeqRow wr w.heap.size v m nes ∧ Below w.heap.size w wr)) (fun _ q _ => n + 1 - (intOf q).toNat)
  case atStart => exact ⟨1, rfl, by omega, by omega, own_lit w w.heap.size 3 [.int .i64 0] (Nat.le_refl _) (by simp [maxLen]), below_alloc w _⟩
  case round =>
    obtain ⟨m, rfl, hm3, hmn, HX⟩ := hrel
    obtain ⟨g, c, rfl, hgB, hgw, hmc, hc9, hce⟩ := seqRow_cells HX.out.1 (by omega)
    by_cases hlt : m ≤ n
    · obtain ⟨j, rfl⟩ : ∃ j, m = j + 1 := ⟨m - 1, by omega⟩
      have hin := nes_in j (by omega)
      have hl := hin.1
      have hr := nes_rec (j + 1) (by omega) (by omega)
      rw [Nat.add_sub_cancel] at hr
      obtain ⟨x, hx⟩ : ∃ x, x = nes j := ⟨_, rfl⟩
      rw [← hx] at hl hr
      have c1 : wr.cell? ⟨g, j, none⟩ = some (.int .i64 (x : Nat)) := by rw [hce j (by omega), hx]
      have c2 := hce x (by omega)
      have hy9 := (nes_in x (by omega)).1
      obtain ⟨y, hy⟩ : ∃ y, y = nes x := ⟨_, rfl⟩
      rw [← hy] at c2 hr hy9
      have HR := Lib.hid hr
      clear hx hy hr hin hce
      go_wp2_with (at_builtin; refine wpList_app _ rfl _ _ 25 rfl w.heap.size 3 i0 (.int .i64 0) 8 Try.underlying25 hi hz0 hz1 hz2 rfl _ (j + 1) _ rfl (HX.out.1.alloc _) _ 1 1 [.int .i64 ((j : Int) + 1 - (y : Int))] rfl rfl ?c1 ?c2 ?c3 ?c4 ?c5 ?_)
      case c1 => intro j u hj; cases j with | zero => (simp at hj; subst hj; simp [Addr.add]) | succ j => simp at hj
      case c2 => intro u hu; simp at hu; subst hu; rfl
      case c3 => unfold maxLen; omega
      case c4 => omega
      case c5 => have := HX.out.2.size; simp; omega
      intro v' w3 hown' hgrow _
      have R1 := Lib.hid hown'
      have R2 := Lib.hid ((HX.out.2.alloc HX.out.2.size _).grown hgrow (by have := HX.out.2.size; simp; omega) (fun q hq => (HX.out.1.lt q hq).1))
      clear hown' hgrow
      go_wp2_with fail
      go_roundw
      case rel =>
        refine ⟨j + 2, by go_num, by omega, by omega, ?_, R2.out⟩
        have := R1.out
        unfold SeqRow
        rw [seqL_succ, List.map_append, HR.out, show ((j + 1 - y : Nat) : Int) = (j : Int) + 1 - (y : Int) by omega]
        simpa using this
      case measure => simp [intOf] <;> omega
    · obtain rfl : m = n + 1 := by omega
      go_wp2_with fail
      go_ret
      exact ⟨_, rfl, HX.out⟩

set_option maxHeartbeats 1000000 in
theorem seGolomb_any (n : Nat) (w : World) (h1 : 1 ≤ n) (h9 : n ≤ 3000) :
    Calls Try.prog 59 #[.int .i64 n] w fun e w' => ∃ v, e = .returned v ∧ Hid (SeqRow w' w.heap.size v n (fun i => gol (i + 1)) ∧ Below w.heap.size w w') := by
  obtain ⟨i0, hi, hz0, hz1, hz2⟩ := info_parts info_intG
  go_enter Try.func59, Try.ntmps59
  go_wp2_with fail
  go_loopw [3, 4] (fun v q wr => ∃ (m x : Nat), q = .int .i64 x ∧ (∃ av cv, v = .slice av m cv) ∧ m ≤ n ∧ 1 ≤ x ∧ x ≤ 3001 ∧ Hid (m < n → golFirst x (m + 1)) ∧ Hid (SeqRow wr w.heap.size v m (fun i => gol (i + 1)) ∧ Below w.heap.size w wr)) (fun _ q _ => 3002 - (intOf q).toNat)
  case atStart => exact ⟨0, 1, rfl, ⟨_, _, rfl⟩, by omega, by omega, by omega, fun _ => gol_first1, World.ownsRow_nil _ _ _ _, Below.refl _ _⟩
  case round =>
    obtain ⟨m, x, rfl, ⟨av, cv, rfl⟩, hmn, hx1, hx9, HF, HX⟩ := hrel
    by_cases hlt : m < n
    · have hf := HF.out hlt
      have hxl : x ≤ m + 1 := by have := gol_le (m + 1) (by omega); rw [hf.2.1] at this; exact this
      have htp := gol_pos x hx1 (by omega)
      have ht9 := gol_le x (by omega)
      obtain ⟨t, ht⟩ : ∃ t, t = gol x := ⟨_, rfl⟩
      have HT := Lib.hid ht
      rw [← ht] at htp ht9
      by_cases hx2 : x ≤ 2
      · have htx : t = x := by rw [ht]; exact (gol_in x (by omega)).1 hx2
        have HFF := Lib.hid hf
        have hsz0 := HX.out.2.size
        clear ht hf
        have hcl : (wr.alloc (.cells #[.int .i64 0, .int .i64 1, .int .i64 2] 3)).cell? ⟨wr.heap.size, x, none⟩ = some (.int .i64 (t : Int)) := by
          rw [htx]
          have hx12 : x = 1 ∨ x = 2 := by omega
          rcases hx12 with rfl | rfl <;> simp [go_sem]
        have hdx : decide ((x : Int) ≤ 2) = true := by simp; omega
        go_wp2_with fail
        try rw [hdx]
        go_loopw [3, 5] (fun v q wr2 => ∃ (j r : Nat), j + r = t ∧ q = .int .i64 (r : Int) ∧ m + j ≤ n ∧ (∃ av cv, v = .slice av (m + j) cv) ∧ Hid (SeqRow wr2 w.heap.size v (m + j) (fun i => gol (i + 1)) ∧ Below w.heap.size w wr2)) (fun _ q _ => (intOf q).toNat)
        case atStart => exact ⟨0, t, by omega, by rw [htx], by omega, ⟨_, _, rfl⟩, HX.out.1.alloc _, HX.out.2.alloc hsz0 _⟩
        case round =>
          obtain ⟨j, r, hjr, rfl, hjn, ⟨av2, cv2, rfl⟩, HY⟩ := hrel
          by_cases hin : 0 < r ∧ m + j < n
          · obtain ⟨hr0, hjn2⟩ := hin
            have hg := gol_run HFF.out j (by rw [← HT.out]; omega) (by omega)
            rw [show m + 1 + j = m + j + 1 by omega] at hg
            have HG := Lib.hid hg; clear hg
            go_wp2_with (at_builtin; refine wpList_app _ rfl _ _ 25 rfl w.heap.size 3 i0 (.int .i64 0) 8 Try.underlying25 hi hz0 hz1 hz2 rfl _ (m + j) _ rfl (HY.out.1.alloc _) _ 1 1 [.int .i64 (x : Int)] rfl rfl ?c1 ?c2 ?c3 ?c4 ?c5 ?_)
            case c1 => intro j u hj; cases j with | zero => (simp at hj; subst hj; simp [Addr.add]) | succ j => simp at hj
            case c2 => intro u hu; simp at hu; subst hu; rfl
            case c3 => unfold maxLen; omega
            case c4 => omega
            case c5 => have := HY.out.2.size; simp; omega
            intro v' w3 hown' hgrow _
            obtain ⟨av', cv', rfl⟩ := own_slice hown'
            have R1 := Lib.hid hown'
            have R2 := Lib.hid ((HY.out.2.alloc HY.out.2.size _).grown hgrow (by have := HY.out.2.size; simp; omega) (fun q hq => (HY.out.1.lt q hq).1))
            clear hown' hgrow
            go_wp2_with fail
            go_roundw
            case rel =>
              refine ⟨j + 1, r - 1, by omega, by go_num, by omega, ⟨av', cv', rfl⟩, ?_, R2.out⟩
              have := R1.out
              unfold SeqRow
              rw [show m + (j + 1) = m + j + 1 by omega, seqL_succ, List.map_append, HG.out]
              simpa using this
            case measure => simp [intOf] <;> omega
          · have hend : m + j < n → golFirst (x + 1) (m + j + 1) := fun h => by
              have ej : j = gol x := by rw [← HT.out]; omega
              have := gol_next HFF.out (by rw [← ej]; omega)
              rw [← ej, show m + 1 + j = m + j + 1 by omega] at this
              exact this
            have HE := Lib.hid hend; clear hend
            by_cases hr0 : 0 < r
            all_goals
              go_wp2_with fail
              go_roundw
              case rel => exact ⟨m + j, x + 1, by go_num, ⟨_, _, rfl⟩, hjn, by omega, by omega, HE.out, HY.out⟩
              case measure => simp [intOf] <;> omega
      · have hxp := gol_first_le hf (by omega) (by omega)
        obtain ⟨g, c, hv, hgB, hgw, hmc, hc9, hce⟩ := seqRow_cells HX.out.1 (by omega)
        cases hv
        obtain ⟨y, hy⟩ : ∃ y, y = x - 1 := ⟨_, rfl⟩
        have c1 : wr.cell? ⟨g, y, none⟩ = some (.int .i64 (t : Nat)) := by rw [hce y (by omega), ht, show y + 1 = x by omega]
        have hyx : (x : Int) - 1 = (y : Int) := by omega
        have hym : y < m := by omega
        have HFF := Lib.hid hf
        clear ht hf hce hy
        go_wp2_with fail
        go_loopw [3, 5] (fun v q wr2 => ∃ (j r : Nat), j + r = t ∧ q = .int .i64 (r : Int) ∧ m + j ≤ n ∧ (∃ av cv, v = .slice av (m + j) cv) ∧ Hid (SeqRow wr2 w.heap.size v (m + j) (fun i => gol (i + 1)) ∧ Below w.heap.size w wr2)) (fun _ q _ => (intOf q).toNat)
        case atStart => exact ⟨0, t, by omega, rfl, by omega, ⟨_, _, rfl⟩, HX.out⟩
        case round =>
          obtain ⟨j, r, hjr, rfl, hjn, ⟨av2, cv2, rfl⟩, HY⟩ := hrel
          by_cases hin : 0 < r ∧ m + j < n
          · obtain ⟨hr0, hjn2⟩ := hin
            have hg := gol_run HFF.out j (by rw [← HT.out]; omega) (by omega)
            rw [show m + 1 + j = m + j + 1 by omega] at hg
            have HG := Lib.hid hg; clear hg
            go_wp2_with (at_builtin; refine wpList_app _ rfl _ _ 25 rfl w.heap.size 3 i0 (.int .i64 0) 8 Try.underlying25 hi hz0 hz1 hz2 rfl _ (m + j) _ rfl (HY.out.1.alloc _) _ 1 1 [.int .i64 (x : Int)] rfl rfl ?c1 ?c2 ?c3 ?c4 ?c5 ?_)
            case c1 => intro j u hj; cases j with | zero => (simp at hj; subst hj; simp [Addr.add]) | succ j => simp at hj
            case c2 => intro u hu; simp at hu; subst hu; rfl
            case c3 => unfold maxLen; omega
            case c4 => omega
            case c5 => have := HY.out.2.size; simp; omega
            intro v' w3 hown' hgrow _
            obtain ⟨av', cv', rfl⟩ := own_slice hown'
            have R1 := Lib.hid hown'
            have R2 := Lib.hid ((HY.out.2.alloc HY.out.2.size _).grown hgrow (by have := HY.out.2.size; simp; omega) (fun q hq => (HY.out.1.lt q hq).1))
            clear hown' hgrow
            go_wp2_with fail
            go_roundw
            case rel =>
              refine ⟨j + 1, r - 1, by omega, by go_num, by omega, ⟨av', cv', rfl⟩, ?_, R2.out⟩
              have := R1.out
              unfold SeqRow
              rw [show m + (j + 1) = m + j + 1 by omega, seqL_succ, List.map_append, HG.out]
              simpa using this
            case measure => simp [intOf] <;> omega
          · have hend : m + j < n → golFirst (x + 1) (m + j + 1) := fun h => by
              have ej : j = gol x := by rw [← HT.out]; omega
              have := gol_next HFF.out (by rw [← ej]; omega)
              rw [← ej, show m + 1 + j = m + j + 1 by omega] at this
              exact this
            have HE := Lib.hid hend; clear hend
            by_cases hr0 : 0 < r
            all_goals
              go_wp2_with fail
              go_roundw
              case rel => exact ⟨m + j, x + 1, by go_num, ⟨_, _, rfl⟩, hjn, by omega, by omega, HE.out, HY.out⟩
              case measure => simp [intOf] <;> omega
    · obtain rfl : m = n := by omega
      go_wp2_with fail
      go_ret
      exact ⟨_, rfl, HX.out⟩
end Go.Proofs.Ytakmmoplepghjaa
