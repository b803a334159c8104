/- Told again and again: the program's loop by a jump back. -/
import Derived.Test.YtkdoghopbefjfaaU11
namespace Go.Proofs.Ytkdoghopbefjfaa
open Go.RowKit Go.BigFrame
set_option linter.unusedSimpArgs false
set_option linter.unusedVariables false
set_option maxRecDepth 4000

theorem wp_scope_againT {P : Program} {a : Act} {w : World} {Q : Exit → Act → World → Prop} {c rest : Code} (l : Nat) (J : Act → World → Prop) (μ : Act → World → Nat) (hf : findLabel c l = some (Code.seq Code.skip rest))
    (pass : ∀ a w, J a w → rest.wp P (Exit.jump l (fun a' w' => J a' w' ∧ μ a' w' < μ a w) Q) a w)
    (first : (∀ a w, J a w → rest.wp P (Exit.jump l J Q) a w) → c.wp P (Exit.jump l J Q) a w) : (Code.scope c).wp P Q a w :=
  wp_scope_jumps l J μ hf (first fun a w h => Code.wp_mono (fun e a' w' h' => by
    cases e
    case goto l' => exact ⟨h'.1, h'.2.1⟩
    all_goals exact h') (pass a w h)) (fun a w h => wp_seq (wp_skip (pass a w h)))
theorem info_tallyZ : (Try.prog.info? 65).map (fun i => (i.zero, i.size, i.bytes)) = some (some (.agg #[.int .i64 0, .int .i64 0, .int .i64 0, .int .i64 0, .int .i64 0, .int .i64 0, .int .i64 0, .int .i64 0, .int .i64 0]), 9, 72) := by kernel_rfl

theorem own_belowS {w w' : World} {B s n : Nat} {E : TypeId} {v : Value} {xs : List Value} (h : w.ownsRow B E s v n xs) (hb : Below w.heap.size w w') : w'.ownsRow B E s v n xs := by
  refine ⟨h.1, ?_⟩
  rcases h.2 with hn | ⟨g, cap, cur, rfl, hB, hg, rest⟩
  · exact .inl hn
  · exact .inr ⟨g, cap, cur, rfl, hB, by rw [hb.block g (Array.getElem?_eq_some_iff.1 hg).1]; exact hg, rest⟩
theorem nineU {ts : List Nat} (h : ts.length = 9) : ∃ p0 p1 p2 p3 p4 p5 p6 p7 p8, ts = [p0, p1, p2, p3, p4, p5, p6, p7, p8] := by
  match ts, h with
  | [a0, a1, a2, a3, a4, a5, a6, a7, a8], _ => exact ⟨a0, a1, a2, a3, a4, a5, a6, a7, a8, rfl⟩
theorem own_blockS {w w' : World} {B s n : Nat} {E : TypeId} {v : Value} {xs : List Value} (h : w.ownsRow B E s v n xs) (hb : ∀ g, v.ownBlock = some g → w'.heap[g]? = w.heap[g]?) : w'.ownsRow B E s v n xs := by
  refine ⟨h.1, ?_⟩
  rcases h.2 with hn | ⟨g, cap, cur, rfl, hB, hg, rest⟩
  · exact .inl hn
  · exact .inr ⟨g, cap, cur, rfl, hB, by rw [hb g rfl]; exact hg, rest⟩
/-- What holds at the label. -/
def AtTell (ns : List Nat) (w : World) (L K : Nat) (R : Option (List (List Nat) × Nat)) (g n c : Nat) (wr : World) : Prop :=
  ∃ (way : List (List Nat)) (x : List Nat), n = way.length ∧ wr.ownsRow (w.heap.size + 1) 65 9 (.slice (some ⟨g, 0, none⟩) n c) n (flatT way) ∧ g ≠ w.heap.size + 2 ∧ g < wr.heap.size ∧ w.heap.size + 3 ≤ wr.heap.size ∧ BlkT wr (w.heap.size + 2) (pad x) ∧ Below w.heap.size w wr ∧
    Way (fT L) ns way x ∧ (x.length = L ∧ ∀ y ∈ x, y ≤ L) ∧ loopF (fT L) (K - n) way x = R
def TellJ (ns : List Nat) (bl : Nat) (w : World) (L K : Nat) (R : Option (List (List Nat) × Nat)) (a' : Act) (w' : World) : Prop :=
  ∃ (n g c : Nat) (u10 u11 u12 u13 u14 u15 u16 u17 u18 u19 u20 u21 u22 u23 u24 u25 u26 u27 u28 u29 u30 u31 : Value), a' = { tmps := #[.agg (tvl (pad ns)).toArray, .func (.func 88) #[] #[.pointer (some ⟨bl, 0, none⟩)], .pointer (some ⟨w.heap.size, 0, none⟩), undef, .slice none 0 0, .int .i64 0, .bool false, .slice (some ⟨g, 0, none⟩) n c, .pointer (some ⟨w.heap.size + 2, 0, none⟩), .bool true, u10, u11, u12, u13, u14, u15, u16, u17, u18, u19, u20, u21, u22, u23, u24, u25, u26, u27, u28, u29, u30, u31], defers := [] } ∧ AtTell ns w L K R g n c w'
def tellM (K : Nat) (a' : Act) (_ : World) : Nat := K + 1 - lenT (a'.tmps.getD 7 undef)

set_option maxHeartbeats 4000000 in
theorem loopTell_any (w : World) (bl L : Nat) (a : Option Addr) (cap : Nat) (ns : List Nat) (K : Nat) (hK : 1000000010 ≤ K) (hbl : w.cell? ⟨bl, 0, none⟩ = some (.slice a L cap)) (h9 : L ≤ 9) (hns : ns.length = L ∧ ∀ y ∈ ns, y ≤ L) :
    Calls Try.prog 87 #[.agg (tvl (pad ns)).toArray, .func (.func 88) #[] #[.pointer (some ⟨bl, 0, none⟩)]] w fun e w' =>
      ∃ g n c i, e = .returned (.tuple #[.slice (some ⟨g, 0, none⟩) n c, .int .i64 (i : Nat), .bool true]) ∧ (loopF (fT L) K [] ns).isSome = true ∧ (i : Int) = tailN (loopF (fT L) K [] ns) ∧ (n : Int) - (i : Int) = cycN (loopF (fT L) K [] ns) ∧ i ≤ n ∧ n ≤ 2000000000 ∧ Below w.heap.size w w' := by
  obtain ⟨i0, hi, hz0, hz1, hz2⟩ := info_parts info_tallyZ
  have hlt := World.block_lt_of_cell? w _ hbl
  obtain ⟨R, hR⟩ : ∃ R, R = loopF (fT L) K [] ns := ⟨_, rfl⟩
  rw [← hR]
  have hp9 : (pad ns).length = 9 := pad_len ns (by omega)
  have HR := Lib.hid hR; have HNS := Lib.hid hns; have HBL := Lib.hid hbl
  have hblk : ∀ W : World, W = (w.alloc (.cells (tvl (pad ns)).toArray 65)).alloc (.cells #[] 65) → BlkT (W.alloc (.cells #[.int .i64 0, .int .i64 0, .int .i64 0, .int .i64 0, .int .i64 0, .int .i64 0, .int .i64 0, .int .i64 0, .int .i64 0] 65)) w.heap.size (pad ns) ∧ BlkT (W.alloc (.cells #[.int .i64 0, .int .i64 0, .int .i64 0, .int .i64 0, .int .i64 0, .int .i64 0, .int .i64 0, .int .i64 0, .int .i64 0] 65)) (w.heap.size + 1 + 1) zeros9 ∧ BlkT W w.heap.size (pad ns) := fun W h => by
    have h1 : BlkT (w.alloc (.cells (tvl (pad ns)).toArray 65)) w.heap.size (pad ns) := ⟨heap_alloc_new _ _, hp9⟩
    have h2 := blkT_below h1 (below_alloc _ (.cells #[] 65))
    rw [h]
    refine ⟨blkT_below h2 (below_alloc _ _), ⟨?_, rfl⟩, h2⟩
    have := heap_alloc_new ((w.alloc (.cells (tvl (pad ns)).toArray 65)).alloc (.cells #[] 65)) (.cells #[.int .i64 0, .int .i64 0, .int .i64 0, .int .i64 0, .int .i64 0, .int .i64 0, .int .i64 0, .int .i64 0, .int .i64 0] 65)
    rw [Go.Deep.nblk_alloc, Go.Deep.nblk_alloc] at this
    exact this
  have HBLK := Lib.hid hblk
  clear hR hns hbl hblk
  go_enter Try.func87, Try.ntmps87
  go_wp2_with fail
  refine wp_scope_againT 0 (TellJ ns bl w L K R) (tellM K) rfl ?_ ?_
  · rintro a' wr ⟨n, g, c, u10, u11, u12, u13, u14, u15, u16, u17, u18, u19, u20, u21, u22, u23, u24, u25, u26, u27, u28, u29, u30, u31, rfl, way, x, hn, ho, hgN, hgl, hsz, hbx, hb, hway, hxg, hloop⟩
    have hwl := wayT_len h9 hway
    have hall : ∀ m ∈ way, m.length = L := fun m hm => (wayT_good hway HNS.out m hm).1
    have hn20 : n ≤ 2000000000 := by omega
    have hix := index9_any wr _ g c n L way x ho hn (by omega) hgl h9 hall hxg.1
    have HIX := Lib.hid hix; have HBX := Lib.hid hbx; have HO := Lib.hid ho; have HB := Lib.hid hb; have HN := Lib.hid hn; have HX := Lib.hid hxg
    by_cases hm : x ∈ way
    · have hid : idxN way x = ((posL x way : Nat) : Int) := by unfold idxN; rw [if_pos hm]
      have hend := loopN_end (K := K - n) (m := K - n - 1) (f := fT L) (by omega) hm
      rw [hloop] at hend
      have hkn : posL x way < n := by
        have : ∀ (l : List (List Nat)), x ∈ l → posL x l < l.length := by
          intro l
          induction l with
          | nil => intro h; simp at h
          | cons a r ih =>
            intro h
            unfold posL
            split
            · simp
            · rename_i hne
              rcases List.mem_cons.1 h with rfl | h
              · exact absurd rfl hne
              · have := ih h; simp; omega
        rw [hn]; exact this way hm
      obtain ⟨k, hk⟩ : ∃ k, k = posL x way := ⟨_, rfl⟩
      rw [← hk] at hid hend hkn
      have HID := Lib.hid hid; have HE := Lib.hid hend
      clear hid hend hway hloop hm hk hn hxg ho hb hbx hix hwl hall
      go_wp2_with (refine wpList_getT rfl _ rfl (w.heap.size + 2) rfl (pad x) HBX.out ?_; unfold aggT tvA)
      refine HIX.out.mono ?_
      rintro e w2 ⟨rfl, hb2⟩
      have HB2 := Lib.hid hb2; clear hb2
      rw [HID.out]
      have hk0 : (0 : Int) ≤ (k : Int) := by omega
      go_wp2_with fail
      simp only [Exit.jump]
      go_ret3
      refine ⟨g, n, c, k, rfl, ?_, ?_, ?_, by omega, hn20, HB.out.trans (HB2.out.mono HB.out.size)⟩
      · rw [HE.out]; rfl
      · rw [HE.out]; rfl
      · rw [HE.out]; simp only [cycN, Option.getD_some, HN.out]
    · have hid : idxN way x = -1 := by unfold idxN; rw [if_neg hm]
      have hst := loopN_step (K := K - n) (m := K - (n + 1)) (f := fT L) (by omega) hm
      have hft : fT L x = some (tel L x) := by unfold fT; rw [if_pos hxg.1]
      rw [hloop, hft] at hst
      dsimp only at hst
      have hto := fun W (hcW : W.cell? ⟨bl, 0, none⟩ = some (.slice a L cap)) => tellOnce_any W bl L a cap x hcW hxg.1 h9
      have hn8 : n ≤ 1000000001 := by omega
      have hpx : (pad x).length = 9 := pad_len x (by omega)
      have hpt : (pad (tel L x)).length = 9 := pad_len _ (by rw [tel_len]; exact h9)
      have HID := Lib.hid hid; have HST := Lib.hid hst; have HM := Lib.hid hm; have HFT := Lib.hid hft; have HW := Lib.hid hway; have HTO := Lib.hid hto
      clear hid hst hway hloop hm hn hxg ho hb hbx hix hwl hall hft hto
      go_wp2_with (refine wpList_getT rfl _ rfl (w.heap.size + 2) rfl (pad x) HBX.out ?_; unfold aggT tvA)
      refine HIX.out.mono ?_
      rintro e w2 ⟨rfl, hb2⟩
      have HB2 := Lib.hid hb2
      have hbx2 := blkT_below HBX.out hb2
      have HO2 := Lib.hid (own_belowS HO.out hb2)
      have HBX2 := Lib.hid hbx2
      have hsz2 : w.heap.size + 3 ≤ w2.heap.size := Nat.le_trans hsz hb2.size
      have hgl2 : g < w2.heap.size := Nat.lt_of_lt_of_le hgl hb2.size
      clear hb2
      rw [HID.out]
      obtain ⟨p0, p1, p2, p3, p4, p5, p6, p7, p8, hp⟩ := nineU hpx
      have hbx3 : BlkT w2 (w.heap.size + 2) [p0, p1, p2, p3, p4, p5, p6, p7, p8] := by rw [← hp]; exact hbx2
      have HP := Lib.hid hp
      clear hp hbx2
      go_wp2_with (first
        | (refine wpList_getT rfl _ rfl (w.heap.size + 2) rfl [p0, p1, p2, p3, p4, p5, p6, p7, p8] hbx3 ?_; unfold aggT tvA tvl; simp only [List.map_cons, List.map_nil])
        | (at_builtin; refine wpList_append_lies _ rfl _ _ 96 rfl (w.heap.size + 1) 65 i0 (.agg #[.int .i64 0, .int .i64 0, .int .i64 0, .int .i64 0, .int .i64 0, .int .i64 0, .int .i64 0, .int .i64 0, .int .i64 0]) 9 72 Try.underlying96 hi hz0 hz1 hz2 rfl (by decide) _ n _ rfl (own_belowS HO2.out (below_alloc _ _)) ⟨w2.heap.size, 0, none⟩ 1 1 (tvl [p0, p1, p2, p3, p4, p5, p6, p7, p8]) rfl (by rfl) ?c1 ?c2 (by omega) ?c3 ?c4 ?c5 _ rfl ?_))
      case c1 =>
        intro j u hj
        rw [add_plainL, Nat.zero_add]
        have hj9 := get_lt hj
        rw [cell_of_row _ w2.heap.size j _ _ _ (heap_alloc_new _ _)]
        simpa [tvl] using hj
      case c2 =>
        intro u hu
        simp only [tvl, List.mem_map] at hu
        obtain ⟨l, _, rfl⟩ := hu
        rfl
      case c3 => unfold maxLen; omega
      case c4 => omega
      case c5 => simp; omega
      intro g' c' w3 hown' hgrow hat hlt3
      have hb23 : BlkT w3 (w.heap.size + 2) [p0, p1, p2, p3, p4, p5, p6, p7, p8] := ⟨(hgrow.block _ (by simp; omega) (fun e => hgN (by simpa [Value.ownBlock] using e.symm))).trans ((below_alloc w2 _).block _ (blkT_lt hbx3) |>.trans hbx3.1), rfl⟩
      have hgN' : g' ≠ w.heap.size + 2 := by
        rcases hat with e | e
        · have : g = g' := by simpa [Value.ownBlock] using e
          omega
        · have : g' = w2.heap.size + 1 := by simpa using e
          omega
      have hBW : Below w.heap.size w w3 := ((HB.out.trans (HB2.out.mono HB.out.size)).alloc (by omega) _).grown hgrow (by simp; omega) (fun q hq => by
        have := (HO2.out.lt q hq).1
        omega)
      have hW3 : w3.cell? ⟨bl, 0, none⟩ = some (.slice a L cap) := (hBW.cell (p := ⟨bl, 0, none⟩) hlt).trans HBL.out
      have hto3 := HTO.out w3 hW3
      rw [HP.out] at hto3
      simp only [tvl, List.map_cons, List.map_nil] at hto3
      have hown2 : w3.ownsRow (w.heap.size + 1) 65 9 (.slice (some ⟨g', 0, none⟩) (n + 1) c') (n + 1) (flatT (way ++ [x])) := by
        rw [flatT_snoc, HP.out]; exact hown'
      have HTO3 := Lib.hid hto3; have HOW := Lib.hid hown2; have HBW := Lib.hid hBW
      clear hto3 hown2 hBW hown' hgrow hat hW3
      go_wp2_with (first | (refine wpList_getT rfl _ rfl (w.heap.size + 2) rfl [p0, p1, p2, p3, p4, p5, p6, p7, p8] hb23 ?_; unfold aggT tvA tvl; simp only [List.map_cons, List.map_nil]))
      refine HTO3.out.mono ?_
      rintro e w4 ⟨rfl, hb4⟩
      have hb24 := blkT_below hb23 hb4
      have HO4 := Lib.hid (own_belowS HOW.out hb4); have HB4 := Lib.hid hb4
      go_wp2_with (refine wpList_putT rfl _ _ rfl (w.heap.size + 2) rfl [p0, p1, p2, p3, p4, p5, p6, p7, p8] (pad (tel L x)) rfl hb24 hpt ?_; intro w5 hB5 hoth hbb hs5)
      have hfin : AtTell ns w L K R g' (n + 1) c' w5 := by
        refine ⟨way ++ [x], tel L x, by have := HN.out; simp; omega, own_blockS HO4.out (fun z hz => hoth z (fun e => hgN' (by
            have : g' = z := by simpa [Value.ownBlock] using hz
            omega))), hgN', ?_, ?_, hB5, ?_, way_snoc HW.out HM.out HFT.out, fT_some HFT.out, HST.out.symm⟩
        · have := HB4.out.size; omega
        · have h1 := HBW.out.size; have h2 := HB4.out.size; have h3 := blkT_lt hB5; omega
        · exact (HBW.out.trans (HB4.out.mono HBW.out.size)).trans (hbb _ (by omega))
      have HFIN := Lib.hid hfin
      clear hfin hoth hbb hb24 hb4 hB5
      go_step3
      refine ⟨rfl, ⟨n + 1, g', c', _, _, _, _, _, _, _, _, _, _, _, _, _, _, _, _, _, _, _, _, _, _, rfl, HFIN.out⟩, ?_⟩
      simp [tellM, lenT]; omega
  · intro hpp
    go_wp2_with (first
      | (refine wpList_getT rfl _ rfl w.heap.size rfl (pad ns) (HBLK.out _ rfl).2.2 ?_)
      | (refine wpList_putT rfl _ _ rfl (w.heap.size + 1 + 1) rfl zeros9 (pad ns) rfl (HBLK.out _ rfl).2.1 hp9 ?_; intro w2 hB2 hoth hbb hs2))
    refine wp_label ?_
    rename_i K1 hk
    refine hk _ _ (hpp _ _ ⟨0, w.heap.size + 1, 0, _, _, _, _, _, _, _, _, _, _, _, _, _, _, _, _, _, _, _, _, _, _, rfl, [], ns, rfl, ?_, by omega, ?_, ?_, hB2, ?_, way_nil _ _, HNS.out, HR.out.symm⟩)
    · have h1 := own_lit (w.alloc (.cells (tvl (pad ns)).toArray 65)) (w.heap.size + 1) 65 [] (by simp) (by simp [maxLen])
      rw [Go.Deep.nblk_alloc] at h1
      have h2 : ((w.alloc (.cells (tvl (pad ns)).toArray 65)).alloc (.cells #[] 65)).ownsRow (w.heap.size + 1) 65 9 (.slice (some ⟨w.heap.size + 1, 0, none⟩) 0 0) 0 (flatT []) := by
        refine ⟨rfl, ?_⟩
        rcases h1.2 with ⟨e, _⟩ | ⟨g, cap, cur, e, hB, hg, h3, h4, h5, h6⟩
        · cases e
        · simp only [Value.slice.injEq, Option.some.injEq, Addr.mk.injEq] at e
          obtain ⟨⟨rfl, _⟩, _, rfl⟩ := e
          exact .inr ⟨_, _, cur, rfl, hB, hg, h3, h4, by simpa using h5, by simp [flatT]⟩
      refine own_blockS (own_belowS h2 (below_alloc _ (.cells #[.int .i64 0, .int .i64 0, .int .i64 0, .int .i64 0, .int .i64 0, .int .i64 0, .int .i64 0, .int .i64 0, .int .i64 0] 65))) (fun z hz => ?_)
      have : w.heap.size + 1 = z := by simpa [Value.ownBlock] using hz
      exact hoth z (by omega)
    · rw [hs2]; simp
    · rw [hs2]; simp
    · exact (below_trans (below_alloc _ _) (below_trans (below_alloc _ _) (below_alloc _ _))).trans (hbb _ (by omega))
end Go.Proofs.Ytkdoghopbefjfaa
