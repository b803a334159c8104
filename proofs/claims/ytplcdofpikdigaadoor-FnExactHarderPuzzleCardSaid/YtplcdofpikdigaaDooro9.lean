/- Chapter 9: bytes.ReplaceAll: gaps become ones. -/
import Derived.Test.YtplcdofpikdigaaDooro8
import Derived.Test.YtplcdofpikdigaaDoorS
import Derived.Laws.CopyOwn
namespace Go.Proofs.YtplcdofpikdigaaDoor
open Go.RowKit Go.BigFrame Go.Shelf
set_option linter.unusedSimpArgs false
set_option linter.unusedVariables false
set_option maxRecDepth 4000
attribute [local irreducible] wpStill

theorem indexByte_memR {c : UInt8} : ∀ {l : List UInt8}, c ∈ l → ∃ m : Nat, ∃ hm : m < l.length, Go.Lib.indexByte l c = (m : Int) ∧ l[m] = c ∧ (∀ j (hj : j < l.length), j < m → l[j] ≠ c) ∧ l.count c = (l.drop (m + 1)).count c + 1
  | [], h => by simp at h
  | a :: t, h => by
    by_cases e : a = c
    · refine ⟨0, by simp, by simp [Go.Lib.indexByte, e], by simpa using e, fun j _ hj => by omega, by simp [e]⟩
    · have ht : c ∈ t := by
        rcases List.mem_cons.1 h with h | h
        · exact absurd h.symm e
        · exact h
      obtain ⟨m, hm, h1, h2, h3, h4⟩ := indexByte_memR ht
      refine ⟨m + 1, by simpa using hm, ?_, by simpa using h2, fun j hj hjm => ?_, ?_⟩
      · simp only [Go.Lib.indexByte, h1]
        have : ¬ (m : Int) < 0 := by omega
        simp [e, this]
      · match j, hj, hjm with
        | 0, _, _ => exact e
        | j + 1, hj, hjm => exact h3 j (by simpa using hj) (by omega)
      · rw [List.count_cons_of_ne (fun x => e x)]
        simpa using h4
theorem info_u8r : (Tryd.prog.info? 5).map (fun i => (i.zero, i.size, i.bytes)) = some (some (.int .u8 0), 1, 1) := by kernel_rfl
def u8i (l : List UInt8) : List Int := l.map fun c => (c.toNat : Int)
theorem u8i_len (l : List UInt8) : (u8i l).length = l.length := by simp [u8i]
theorem u8i_at (l : List UInt8) (i : Nat) : (u8i l).getD i 0 = ((l.getD i 0).toNat : Int) := by
  unfold u8i
  by_cases h : i < l.length
  · simp [List.getD, h]
  · simp [List.getD, List.getElem?_eq_none (Nat.le_of_not_lt h)]
theorem bytesOf_u8i (l : List UInt8) : Lib.bytesOf (u8i l) = l := by
  unfold Lib.bytesOf u8i
  rw [List.map_map]
  conv => rhs; rw [← List.map_id l]
  apply List.map_congr_left
  intro c _
  simp
def u8r (l : List UInt8) : List Value := l.map fun c => .int .u8 (c.toNat : Int)
theorem u8r_len (l : List UInt8) : (u8r l).length = l.length := by simp [u8r]
theorem splice_map {α β : Type} (f : α → β) (L : List α) (off : Nat) (cs : List α) : splice (L.map f) off (cs.map f) = (splice L off cs).map f := by
  simp [splice, List.map_append, List.map_take, List.map_drop]
theorem minW_no : ∀ (l : List UInt8), (46 : UInt8) ∉ l → minW l = l
  | [], _ => rfl
  | a :: t, h => by
    have h1 : ¬ a = 46 := fun e => h (by simp [e])
    have h2 : (46 : UInt8) ∉ t := fun e => h (by simp [e])
    show (if a = 46 then (49 : UInt8) else a) :: minW t = _
    rw [if_neg h1, minW_no t h2]
theorem minW_app (a b : List UInt8) : minW (a ++ b) = minW a ++ minW b := by simp [minW]
theorem minW_len (a : List UInt8) : (minW a).length = a.length := by simp [minW]

theorem splice_at {α : Type} (A Z X : List α) : splice (A ++ Z) A.length X = A ++ X ++ Z.drop X.length := by
  unfold splice
  rw [List.take_left, List.drop_append]
  have : A.drop (A.length + X.length) = [] := List.drop_eq_nil_iff.2 (by omega)
  rw [this, List.nil_append, show A.length + X.length - A.length = X.length by omega, List.append_assoc]
/-- What is written so far: the beginning, then zeros. -/
def fillL (W : List UInt8) (n st : Nat) : List UInt8 := minW (W.take st) ++ List.replicate (n - st) 0
theorem fillL_len {W : List UInt8} {n st : Nat} (hn : n = W.length) (h : st ≤ n) : (fillL W n st).length = n := by
  unfold fillL; rw [List.length_append, minW_len, List.length_take, List.length_replicate]; omega
theorem fill_copy {W : List UInt8} {n st k : Nat} (hn : n = W.length) (h : st + k ≤ n) (hno : ∀ j (hj : j < (W.drop st).length), j < k → (W.drop st)[j] ≠ 46) :
    splice (fillL W n st) st ((W.drop st).take k) = fillL W n (st + k) := by
  have hl : (minW (W.take st)).length = st := by rw [minW_len, List.length_take]; omega
  have hx : ((W.drop st).take k).length = k := by rw [List.length_take, List.length_drop]; omega
  have e := splice_at (minW (W.take st)) (List.replicate (n - st) 0) ((W.drop st).take k)
  rw [hl] at e
  unfold fillL
  rw [e, hx, List.drop_replicate, show W.take (st + k) = W.take st ++ (W.drop st).take k by rw [List.take_add], minW_app]
  have hm : minW ((W.drop st).take k) = (W.drop st).take k := minW_no _ (fun hmem => by
    obtain ⟨j, hj, e⟩ := List.getElem_of_mem hmem
    have hj1 : j < k := by rw [hx] at hj; exact hj
    have hj2 : j < (W.drop st).length := by rw [List.length_drop]; omega
    rw [List.getElem_take] at e
    exact hno j hj2 hj1 e)
  rw [hm, show n - st - k = n - (st + k) by omega]
theorem fill_one {W : List UInt8} {n j : Nat} (hn : n = W.length) (h : j < n) (h46 : W.getD j 0 = 46) : splice (fillL W n j) j [49] = fillL W n (j + 1) := by
  have hl : (minW (W.take j)).length = j := by rw [minW_len, List.length_take]; omega
  have e := splice_at (minW (W.take j)) (List.replicate (n - j) 0) [49]
  rw [hl] at e
  have hj : j < W.length := by omega
  unfold fillL
  rw [e, List.drop_replicate, List.take_succ_eq_append_getElem hj, minW_app]
  rw [getD_lt hj] at h46
  rw [h46]
  have : minW [46] = [49] := rfl
  rw [this, show n - j - [(49 : UInt8)].length = n - (j + 1) by simp; omega]
theorem bytQ_row {w : World} {g : Nat} {l : List UInt8} {T : TypeId} (h : w.heap[g]? = some (.cells (u8r l).toArray T (0, 0))) : BytQ w g l := by
  refine ⟨fun i hi => ?_, fun i _ => frozen_of_row w g i _ T h⟩
  rw [cell_of_row w g i _ T _ h]
  simp [u8r, hi]
set_option maxHeartbeats 2000000 in
theorem replace_any (W : List UInt8) (b c b2 d2 b3 d3 : Nat) (w : World) (h1 : 1 ≤ W.length) (h8 : W.length ≤ 8) (hb : b < w.heap.size) (hb2 : b2 < w.heap.size) (hb3 : b3 < w.heap.size)
    (hc : ∀ i, i < W.length → w.cell? ⟨b, i, none⟩ = some (.int .u8 ((W.getD i 0).toNat : Int))) (hc2 : w.cell? ⟨b2, 0, none⟩ = some (.int .u8 46)) (hc3 : w.cell? ⟨b3, 0, none⟩ = some (.int .u8 49)) (hcw : W.length ≤ c) (hcm : c ≤ maxLen) :
    Calls Tryd.prog 70 #[.slice (some ⟨b, 0, none⟩) W.length c, .slice (some ⟨b2, 0, none⟩) 1 d2, .slice (some ⟨b3, 0, none⟩) 1 d3, .int .i64 (-1)] w fun e w' =>
      ∃ g cap, e = .returned (.slice (some ⟨g, 0, none⟩) W.length cap) ∧ w.heap.size ≤ g ∧ g < w'.heap.size ∧ W.length ≤ cap ∧ cap ≤ maxLen ∧ BytQ w' g (minW W) ∧ Below w.heap.size w w' := by
  obtain ⟨i0, hi, hz0, hz1, hz2⟩ := info_parts info_u8r
  obtain ⟨n, hn⟩ : ∃ n, n = W.length := ⟨_, rfl⟩
  obtain ⟨m, hm⟩ : ∃ m, m = W.count 46 := ⟨_, rfl⟩
  have hcnt : ∀ W0 : World, (∀ i, i < W.length → W0.cell? ⟨b, i, none⟩ = some (.int .u8 ((W.getD i 0).toNat : Int))) → W0.cell? ⟨b2, 0, none⟩ = some (.int .u8 46) →
      Calls Tryd.prog 77 #[.slice (some ⟨b, 0, none⟩) n c, .slice (some ⟨b2, 0, none⟩) 1 d2] W0 fun e w' => e = .returned (.int .i64 (m : Int)) ∧ w' = W0 := fun W0 ha h2 => by
    have h := Tryd.bytes_Count_one b 0 n c b2 0 d2 (u8i W) 46 W0 (by rw [u8i_len, hn]) (fun i h => by rw [u8i_at, Nat.zero_add]; exact ha i (by omega)) h2
    rw [bytesOf_u8i] at h
    have e : Lib.countByte W (46 : Int).toNat.toUInt8 = m := by rw [hm]; rfl
    rw [e] at h
    exact h
  have HCNT := Lib.hid (hcnt w hc hc2)
  have HN := Lib.hid hn; have HM := Lib.hid hm; have HC := Lib.hid hc
  rw [← hn] at h1 h8 hcw ⊢
  clear hcnt hn hm hc
  by_cases h0 : m = 0
  · subst h0
    have HNO : Hid (minW W = W) := Lib.hid (minW_no W (fun h => by have := List.count_pos_iff.2 h; rw [← HM.out] at this; omega))
    go_enter Tryd.func70, Tryd.ntmps70
    go_wp2_with fail
    refine HCNT.out.mono ?_
    rintro e w1 ⟨rfl, rfl⟩
    have hown : w1.ownsRow w1.heap.size 5 1 (.slice none 0 0) 0 [] := ⟨by simp, .inl ⟨rfl, rfl⟩⟩
    have HOWN := Lib.hid hown
    clear hown
    go_wp2_with (at_builtin; refine wpList_app _ rfl _ _ 52 rfl w1.heap.size 5 i0 (.int .u8 0) 1 Tryd.underlying52 hi hz0 hz1 hz2 rfl (.slice none 0 0) 0 [] rfl HOWN.out ⟨b, 0, none⟩ n c (u8r W) rfl (by rw [u8r_len, HN.out]) ?c1 ?c2 (by unfold maxLen; omega) (by omega) (Nat.le_refl _) ?_)
    case c1 =>
      intro j x hj
      obtain ⟨hjl, e⟩ := List.getElem?_eq_some_iff.1 hj
      have hjl' : j < W.length := by rw [u8r_len] at hjl; exact hjl
      have hadd : (⟨b, 0, none⟩ : Addr).add j = ⟨b, j, none⟩ := by unfold Addr.add; split <;> simp_all
      rw [hadd, HC.out j hjl', ← e, getD_lt hjl']; simp [u8r]
    case c2 =>
      intro x hx
      obtain ⟨l, _, rfl⟩ := List.mem_map.1 hx
      rfl
    intro v' w3 hown' hgrow _
    have HO := Lib.hid hown'; have HG := Lib.hid hgrow
    clear hown' hgrow
    go_wp2_with fail
    go_ret
    have ho := HO.out

    rcases own_open ho with ⟨_, hz, _⟩ | ⟨g, cap, hv, hBg, hgl, hnc, hcm', hl, hcell, hfree⟩
    · omega
    · refine ⟨g, cap, by rw [← hv]; rfl, hBg, hgl, hnc, hcm', ?_, ?_⟩
      · rw [HNO.out]
        refine ⟨fun i hi => ?_, fun i _ => hfree i⟩
        have := hcell i (by rw [u8r_len]; exact hi)
        rw [this]; simp [u8r]
      · exact ⟨HG.out.os, HG.out.tape, HG.out.output, HG.out.size, fun k hk => HG.out.block k hk (by simp [Value.ownBlock])⟩
  · have hm0 : ((m : Int) == 0) = false := by simp; omega
    go_enter Tryd.func70, Tryd.ntmps70
    go_wp2_with fail
    refine HCNT.out.mono ?_
    rintro e w1 ⟨rfl, rfl⟩
    go_wp2_with (refine wpList_make_row _ rfl _ _ 52 rfl 5 i0 (.int .u8 0) Tryd.underlying52 hi hz0 hz1 rfl .i64 .i64 n rfl rfl (by rw [hz2]; omega) (by omega) ?_)
    have hrow0 : (w1.alloc (.cells (madeCells #[.int .u8 0] n) 5)).heap[w1.heap.size]? = some (.cells (u8r (fillL W n 0)).toArray 5 (0, 0)) := by
      have h := heap_alloc_new w1 (.cells (madeCells #[.int .u8 0] n) 5)
      rw [h]
      have e : madeCells #[Value.int .u8 0] n = (u8r (fillL W n 0)).toArray := by
        apply Array.toList_inj.1
        rw [toList_madeCells_one]
        unfold fillL u8r
        simp [minW]
      rw [e]
    have HROW := Lib.hid hrow0
    have HBA := Lib.hid (below_alloc w1 (.cells (madeCells #[.int .u8 0] n) 5))
    have hcnt0 : W.count 46 = m - 0 := by rw [← HM.out]; rfl
    have HCN := Lib.hid hcnt0
    have hsz : (Tryd.prog.info? 5).map (·.size) = some 1 := by rw [hi]; simp [hz1]
    have hm8 : m ≤ 8 := by rw [HM.out]; exact Nat.le_trans List.count_le_length (by rw [← HN.out]; exact h8)
    have hn63 : (n : Int) ≤ 9223372036854775807 := by omega
    unfold maxLen at hcm
    clear hrow0 hcnt0
    go_loopw [11, 12, 49] (fun wv sv iv wr => ∃ i st : Nat, i ≤ m ∧ st ≤ n ∧ wv = .int .i64 st ∧ sv = .int .i64 st ∧ iv = .int .i64 i ∧ Hid ((W.drop st).count 46 = m - i ∧ wr.heap[w1.heap.size]? = some (.cells (u8r (fillL W n st)).toArray 5 (0, 0)) ∧ Below w1.heap.size w1 wr)) (fun _ _ iv _ => m - (intOf iv).toNat)
    case atStart => exact ⟨0, 0, Nat.zero_le _, Nat.zero_le _, rfl, rfl, rfl, by simpa using HCN.out, HROW.out, HBA.out⟩
    case round =>
      obtain ⟨i, st, him, hst, rfl, rfl, rfl, HX⟩ := hrel
      have f2 : (0 : Int) ≤ (st : Int) := by omega
      have f1 : (st : Int) ≤ (n : Int) := by omega
      have f3 : (st : Int) ≤ (c : Int) := by omega
      by_cases hlt : i < m
      · have hmem : (46 : UInt8) ∈ W.drop st := List.count_pos_iff.1 (by rw [HX.out.1]; omega)
        obtain ⟨k, hk, hidx, hk46, hkno, hkc⟩ := indexByte_memR hmem
        have hkn : st + k < n := by rw [List.length_drop, ← HN.out] at hk; omega
        have hIX : Calls Tryd.prog 78 #[.slice (some ⟨b, st, none⟩) (n - st) (c - st), .slice (some ⟨b2, 0, none⟩) 1 d2] wr fun e w' => e = .returned (.int .i64 (k : Int)) ∧ w' = wr := by
          have h := Tryd.bytes_Index_one b st (n - st) (c - st) b2 0 d2 (u8i (W.drop st)) 46 wr (by rw [u8i_len, List.length_drop, HN.out]) (fun i h => by
            rw [u8i_at]
            have e : (W.drop st).getD i 0 = W.getD (st + i) 0 := by simp [List.getD, List.getElem?_drop]
            rw [e]
            exact (HX.out.2.2.cell (p := ⟨b, st + i, none⟩) hb).trans (HC.out (st + i) (by rw [← HN.out]; omega))) ((HX.out.2.2.cell (p := ⟨b2, 0, none⟩) hb2).trans hc2)
          rw [bytesOf_u8i] at h
          have e : Lib.indexByte (W.drop st) (46 : Int).toNat.toUInt8 = (k : Int) := hidx
          rw [e] at h
          exact h
        have HIX := Lib.hid hIX
        have HF1 := Lib.hid (fill_copy (n := n) (st := st) (k := k) HN.out (by omega) hkno)
        have hg46 : W.getD (st + k) 0 = 46 := by
          rw [List.getElem_drop] at hk46
          rw [getD_lt (by rw [← HN.out]; exact hkn)]; exact hk46
        have HF2 := Lib.hid (fill_one (n := n) (j := st + k) HN.out hkn hg46)
        have HKC : Hid ((W.drop (st + k + 1)).count 46 = m - (i + 1)) := Lib.hid (by
          have e1 := HX.out.1
          rw [hkc, List.drop_drop] at e1
          rw [show st + k + 1 = st + (k + 1) by omega]; omega)
        have HL1 := Lib.hid (fillL_len (W := W) (st := st) HN.out hst)
        have HL2 := Lib.hid (fillL_len (W := W) (st := st + k) HN.out (by omega))
        clear hk hidx hk46 hkno hkc hmem hIX hg46
        go_wp2_with fail
        refine HIX.out.mono ?_
        rintro e w3 ⟨rfl, rfl⟩
        go_wp2_with fail
        have hmin : Nat.min k (n - st) = k := Nat.min_eq_left (by omega)
        have f4 : (st : Int) + (k : Int) ≤ (c : Int) := by omega
        have f5 : (st : Int) ≤ (st : Int) + (k : Int) := by omega
        have f6 : (0 : Int) ≤ (st : Int) + (k : Int) := by omega
        have HSRC : Hid (∀ j v, (u8r ((W.drop st).take k))[j]? = some v → w3.drew.cell? ((⟨b, st, none⟩ : Addr).add j) = some v) := Lib.hid (by
          intro j x hj
          obtain ⟨hjl, e⟩ := List.getElem?_eq_some_iff.1 hj
          have hjk : j < k := by
            have h2 : j < ((W.drop st).take k).length := by simpa [u8r] using hjl
            rw [List.length_take] at h2; omega
          have hadd : (⟨b, st, none⟩ : Addr).add j = ⟨b, st + j, none⟩ := by unfold Addr.add; split <;> simp_all
          have hlt : st + j < W.length := by rw [← HN.out]; omega
          rw [hadd]
          refine (HX.out.2.2.cell (p := ⟨b, st + j, none⟩) hb).trans ?_
          rw [HC.out (st + j) hlt, ← e, getD_lt hlt]
          simp [u8r])
        have HXR := Lib.hid HX.out.2.1; have HXB := Lib.hid HX.out.2.2
        have hul : (u8r ((W.drop st).take k)).length = k := by rw [u8r_len, List.length_take, List.length_drop, ← HN.out]; omega
        have HUL := Lib.hid hul
        clear hul
        go_region_law (refine step_copy_splice rfl (.tmp 61) (.tmp 65) 52 52 rfl 5 Tryd.underlying52 hsz (some ⟨w1.heap.size, st, none⟩) (some ⟨b, st, none⟩) (n - st) (n - st) k (c - st) (by simp [Act.eval, Act.put]; try omega) (by simp [Act.eval, Act.put]; try omega) w1.heap.size st (u8r (fillL W n st)) 5 HXR.out (u8r ((W.drop st).take k)) (by rw [HUL.out, hmin]) (fun _ => ⟨rfl, _, rfl, HSRC.out⟩) (by rw [HUL.out, u8r_len, HL1.out]; omega) (fun v hv => by obtain ⟨x, _, rfl⟩ := List.mem_map.1 hv; rfl) w1.heap.size w1 HXB.out.drew (Nat.le_refl _) ?_; intro w4 hw4 hb4)
        have HW4 : Hid (w4.heap[w1.heap.size]? = some (.cells (u8r (fillL W n (st + k))).toArray 5 (0, 0))) := Lib.hid (by
          have h := hw4.out
          unfold u8r at h
          rw [splice_map, HF1.out] at h
          exact h)
        have HB4 := Lib.hid hb4
        have hul2 : (u8r ((W.drop st).take k)).length = k := HUL.out
        clear hw4 hb4
        have f7 : (st : Int) + (k : Int) ≤ (n : Int) := by omega
        have hmin1 : Nat.min 1 (n - (st + k)) = 1 := Nat.min_eq_left (by omega)
        have HFIT : Hid (st + k + (u8r [49]).length ≤ (u8r (fillL W n (st + k))).length) := Lib.hid (by rw [u8r_len (fillL W n (st + k)), HL2.out]; show st + k + 1 ≤ n; omega)
        have HS2 : Hid (∀ j v, (u8r [49])[j]? = some v → w4.cell? ((⟨b3, 0, none⟩ : Addr).add j) = some v) := Lib.hid (by
          intro j x hj
          obtain ⟨hjl, e⟩ := List.getElem?_eq_some_iff.1 hj
          have hj0 : j = 0 := by simp [u8r] at hjl; exact hjl
          subst hj0
          have hadd : (⟨b3, 0, none⟩ : Addr).add 0 = ⟨b3, 0, none⟩ := by unfold Addr.add; split <;> simp_all
          rw [hadd, ← e]
          exact (HB4.out.cell (p := ⟨b3, 0, none⟩) hb3).trans hc3)
        have hcp := run_copy_row (P := Tryd.prog) w4 52 52 3 5 w1.heap.size (st + k) (n - (st + k)) (n - (st + k)) ⟨b3, 0, none⟩ 1 d3 (u8r (fillL W n (st + k))).toArray 5 (u8r [49]) Tryd.underlying52 hsz HW4.out (by rw [hmin1]; rfl) HS2.out (by simpa using HFIT.out) (fun v hv => by obtain ⟨x, _, rfl⟩ := List.mem_map.1 hv; rfl)
        obtain ⟨w5, hw5⟩ : ∃ w5, w5 = w4.setRow w1.heap.size ((u8r (fillL W n (st + k))).toArray.toList.take (st + k) ++ u8r [49] ++ (u8r (fillL W n (st + k))).toArray.toList.drop (st + k + (u8r [49]).length)).toArray := ⟨_, rfl⟩
        rw [← hw5] at hcp
        have hb5 : Below w1.heap.size w1 w5 := by rw [hw5]; exact below_setRow HB4.out (Nat.le_refl _) _
        have hrow5 : w5.heap[w1.heap.size]? = some (.cells (splice (u8r (fillL W n (st + k))) (st + k) (u8r [49])).toArray 5 (0, 0)) := by
          rw [hw5]
          simpa [splice] using setRow_heap w4 w1.heap.size _ _ 5 _ HW4.out
        have hns2 : ¬ n = st + k := by omega
        have HW5 : Hid (w5.heap[w1.heap.size]? = some (.cells (u8r (fillL W n (st + k + 1))).toArray 5 (0, 0))) := Lib.hid (by
          have h := hrow5
          unfold u8r at h
          rw [splice_map, HF2.out] at h
          exact h)
        have HB5 := Lib.hid hb5
        clear hw5 hb5 hrow5
        have hu1 : (u8r [49]).length = 1 := rfl
        go_wp2_with fail
        go_roundw
        case rel => exact ⟨i + 1, st + k + 1, by omega, by omega, by go_num, by go_num, by go_num, HKC.out, HW5.out, HB5.out⟩
        case measure => simp [intOf] <;> omega
      · have hie : i = m := by omega
        have hno : (46 : UInt8) ∉ W.drop st := fun h => by have := List.count_pos_iff.2 h; rw [HX.out.1] at this; omega
        have HF1 := Lib.hid (fill_copy (W := W) (n := n) (st := st) (k := n - st) HN.out (by omega) (fun j hj _ e => hno (by rw [← e]; exact List.getElem_mem hj)))
        have HL1 := Lib.hid (fillL_len (W := W) (st := st) HN.out hst)
        have hmin : Nat.min (n - st) (n - st) = n - st := Nat.min_self _
        have HSRC : Hid (∀ j v, (u8r ((W.drop st).take (n - st)))[j]? = some v → wr.drew.cell? ((⟨b, st, none⟩ : Addr).add j) = some v) := Lib.hid (by
          intro j x hj
          obtain ⟨hjl, e⟩ := List.getElem?_eq_some_iff.1 hj
          have hjk : j < n - st := by
            have h2 : j < ((W.drop st).take (n - st)).length := by simpa [u8r] using hjl
            rw [List.length_take] at h2; omega
          have hadd : (⟨b, st, none⟩ : Addr).add j = ⟨b, st + j, none⟩ := by unfold Addr.add; split <;> simp_all
          have hlt : st + j < W.length := by rw [← HN.out]; omega
          rw [hadd]
          refine (HX.out.2.2.cell (p := ⟨b, st + j, none⟩) hb).trans ?_
          rw [HC.out (st + j) hlt, ← e, getD_lt hlt]
          simp [u8r])
        have HXR := Lib.hid HX.out.2.1; have HXB := Lib.hid HX.out.2.2
        have HUL : Hid ((u8r ((W.drop st).take (n - st))).length = n - st) := Lib.hid (by rw [u8r_len, List.length_take, List.length_drop, ← HN.out]; omega)
        clear hno
        have HFE : Hid (fillL W n (st + (n - st)) = minW W) := Lib.hid (by
          unfold fillL
          rw [show st + (n - st) = n by omega, Nat.sub_self, List.replicate_zero, List.append_nil, List.take_of_length_le (by rw [HN.out]; exact Nat.le_refl _)])
        rw [HFE.out] at HF1
        have HML : Hid ((minW W).length = n) := Lib.hid (by rw [minW_len, HN.out])
        by_cases hsn : st = n
        · subst hsn
          have HZ : Hid (wr.heap[w1.heap.size]? = some (.cells (u8r (minW W)).toArray 5 (0, 0))) := Lib.hid (by
            have h := HXR.out
            unfold fillL at h
            rw [Nat.sub_self, List.replicate_zero, List.append_nil, List.take_of_length_le (by rw [HN.out]; exact Nat.le_refl _)] at h
            exact h)
          have hcp := run_copy_none (P := Tryd.prog) wr.drew 52 52 3 5 (some ⟨w1.heap.size, 0, none⟩) (if c = st then some ⟨b, 0, none⟩ else some ⟨b, st, none⟩) 0 0 0 (c - st) Tryd.underlying52 hsz rfl
          go_wp2_with fail
          go_region
          all_goals go_wp2_with fail
          all_goals
            go_ret
            exact ⟨w1.heap.size, st, rfl, Nat.le_refl _, by have := (Array.getElem?_eq_some_iff.1 HZ.out).1; exact this, Nat.le_refl _, by unfold maxLen; omega, bytQ_row HZ.out, HXB.out.drew⟩
        · have hns : ¬ n = st := fun e => hsn e.symm
          have hcs : ¬ c = st := by omega
          go_wp2_with fail
          go_region_law (refine step_copy_splice rfl (.tmp 123) (.tmp 126) 52 52 rfl 5 Tryd.underlying52 hsz (some ⟨w1.heap.size, st, none⟩) (some ⟨b, st, none⟩) (n - st) (n - st) (n - st) (c - st) (by simp [Act.eval, Act.put, hns]; try omega) (by simp [Act.eval, Act.put, hcs]; try omega) w1.heap.size st (u8r (fillL W n st)) 5 HXR.out (u8r ((W.drop st).take (n - st))) (by rw [HUL.out, hmin]) (fun _ => ⟨rfl, _, rfl, HSRC.out⟩) (by rw [HUL.out, u8r_len, HL1.out]; omega) (fun v hv => by obtain ⟨x, _, rfl⟩ := List.mem_map.1 hv; rfl) w1.heap.size w1 HXB.out.drew (Nat.le_refl _) ?_; intro w4 hw4 hb4)
          have HW4 : Hid (w4.heap[w1.heap.size]? = some (.cells (u8r (minW W)).toArray 5 (0, 0))) := Lib.hid (by
            have h := hw4.out
            unfold u8r at h
            rw [splice_map, HF1.out] at h
            exact h)
          have HB4 := Lib.hid hb4
          have hul2 : (u8r ((W.drop st).take (n - st))).length = n - st := HUL.out
          have hst2 : (st : Int) + ((n - st : Nat) : Int) = (n : Int) := by omega
          clear hw4 hb4
          go_wp2_with fail
          go_ret
          exact ⟨w1.heap.size, n, rfl, Nat.le_refl _, (Array.getElem?_eq_some_iff.1 HW4.out).1, Nat.le_refl _, by unfold maxLen; omega, bytQ_row HW4.out, HB4.out⟩
end Go.Proofs.YtplcdofpikdigaaDoor
