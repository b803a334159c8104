/- Chapter 7: counted again and again: the program's loop by a jump back. -/
import Derived.Test.YtampjipbemmicaaDoor8B
namespace Go.Proofs.YtampjipbemmicaaDoor
open Go.RowKit Go.BigFrame
set_option linter.unusedSimpArgs false
set_option linter.unusedVariables false
set_option maxRecDepth 4000

theorem wp_scope_againT {P : Program} {a : Act} {w : World} {Q : Exit → Act → World → Prop} {c rest : Code} (l : Nat) (J : Act → World → Prop) (μ : Act → World → Nat) (hf : findLabel c l = some (Code.seq Code.skip rest))
    (pass : ∀ a w, J a w → rest.wp P (Exit.jump l (fun a' w' => J a' w' ∧ μ a' w' < μ a w) Q) a w)
    (first : (∀ a w, J a w → rest.wp P (Exit.jump l J Q) a w) → c.wp P (Exit.jump l J Q) a w) : (Code.scope c).wp P Q a w :=
  wp_scope_jumps l J μ hf (first fun a w h => Code.wp_mono (fun e a' w' h' => by
    cases e
    case goto l' => exact ⟨h'.1, h'.2.1⟩
    all_goals exact h') (pass a w h)) (fun a w h => wp_seq (wp_skip (pass a w h)))
theorem info_tellingZ : (Tryd.prog.info? 73).map (fun i => (i.zero, i.size, i.bytes)) = some (some (.agg #[.int .i64 0, .int .i64 0, .int .i64 0, .int .i64 0]), 4, 32) := by kernel_rfl
theorem own_belowS {w w' : World} {B s n : Nat} {E : TypeId} {v : Value} {xs : List Value} (h : w.ownsRow B E s v n xs) (hb : Below w.heap.size w w') : w'.ownsRow B E s v n xs := by
  refine ⟨h.1, ?_⟩
  rcases h.2 with hn | ⟨g, cap, cur, rfl, hB, hg, rest⟩
  · exact .inl hn
  · exact .inr ⟨g, cap, cur, rfl, hB, by rw [hb.block g (Array.getElem?_eq_some_iff.1 hg).1]; exact hg, rest⟩
theorem own_blockS {w w' : World} {B s n : Nat} {E : TypeId} {v : Value} {xs : List Value} (h : w.ownsRow B E s v n xs) (hb : ∀ g, v.ownBlock = some g → w'.heap[g]? = w.heap[g]?) : w'.ownsRow B E s v n xs := by
  refine ⟨h.1, ?_⟩
  rcases h.2 with hn | ⟨g, cap, cur, rfl, hB, hg, rest⟩
  · exact .inl hn
  · exact .inr ⟨g, cap, cur, rfl, hB, by rw [hb g rfl]; exact hg, rest⟩
theorem fourU {ts : List Int} (h : ts.length = 4) : ∃ p0 p1 p2 p3, ts = [p0, p1, p2, p3] := by
  match ts, h with
  | [a0, a1, a2, a3], _ => exact ⟨a0, a1, a2, a3, rfl⟩
theorem posL_lt {x : List Int} : ∀ (l : List (List Int)), x ∈ l → posL x l < l.length := by
  intro l
  induction l with
  | nil => intro h; simp at h
  | cons a r ih =>
    intro h
    unfold posL
    split
    · simp
    · rename_i hne
      rcases List.mem_cons.1 h with rfl | h
      · exact absurd rfl hne
      · have := ih h; simp; omega
/-- What holds at the label. -/
def AtQ (ns : List (List UInt8)) (fr : List UInt8) (xs : List Int) (w : World) (L K : Nat) (R : Option (List (List Int) × Nat)) (g n c : Nat) (ok : Bool) (wr : World) : Prop :=
  Below w.heap.size w wr ∧ (ok = false → R = none) ∧ (ok = true → ∃ (way : List (List Int)) (x : List Int), n = way.length ∧ wr.ownsRow (w.heap.size + 1) 73 4 (.slice (some ⟨g, 0, none⟩) n c) n (flatF way) ∧ g ≠ w.heap.size + 2 ∧ g < wr.heap.size ∧ w.heap.size + 3 ≤ wr.heap.size ∧ BlkF wr (w.heap.size + 2) (padF x) ∧
    Way (gQ ns fr L) xs way x ∧ (x.length = L ∧ toldB ns fr x = true) ∧ loopF (gQ ns fr L) (K - n) way x = R)
def TellJ (ns : List (List UInt8)) (fr : List UInt8) (xs : List Int) (bl bt : Nat) (w : World) (L K : Nat) (R : Option (List (List Int) × Nat)) (a' : Act) (w' : World) : Prop :=
  ∃ (n g c : Nat) (ok : Bool) (u10 u11 u12 u13 u14 u15 u16 u17 u18 u19 u20 u21 u22 u23 u24 u25 u26 u27 u28 u29 u30 u31 : Value), a' = { tmps := #[.agg (fvA (padF xs)), .func (.func 73) #[] #[.pointer (some ⟨bl, 0, none⟩), .pointer (some ⟨bt, 0, none⟩)], .pointer (some ⟨w.heap.size, 0, none⟩), undef, .slice none 0 0, .int .i64 0, .bool false, .slice (some ⟨g, 0, none⟩) n c, .pointer (some ⟨w.heap.size + 2, 0, none⟩), .bool ok, u10, u11, u12, u13, u14, u15, u16, u17, u18, u19, u20, u21, u22, u23, u24, u25, u26, u27, u28, u29, u30, u31], defers := [] } ∧ n ≤ 10002 ∧ AtQ ns fr xs w L K R g n c ok w'
def tellM (K : Nat) (a' : Act) (_ : World) : Nat := K + 1 - lenQ (a'.tmps.getD 7 undef)

set_option maxHeartbeats 4000000 in
theorem loopQ_any (w : World) (bl bt L : Nat) (u : Value) (a : Option Addr) (cap : Nat) (ns : List (List UInt8)) (fr : List UInt8) (xs : List Int) (K : Nat) (hK : 10010 ≤ K) (h : ArgS w u ns) (hf : fr.length ≤ 9223372036854775807) (hbx : TwoAt w bl u (.string (bs fr)) 27) (hc : w.cell? ⟨bt, 0, none⟩ = some (.slice a L cap)) (h4 : L ≤ 4) (hns : xs.length = L ∧ toldB ns fr xs = true) :
    Calls Tryd.prog 71 #[.agg (fvA (padF xs)), .func (.func 73) #[] #[.pointer (some ⟨bl, 0, none⟩), .pointer (some ⟨bt, 0, none⟩)]] w fun e w' =>
      ∃ p n c i, e = .returned (.tuple #[.slice p n c, .int .i64 (i : Nat), .bool (loopF (gQ ns fr L) K [] xs).isSome]) ∧ (i : Int) = tailQ (loopF (gQ ns fr L) K [] xs) ∧ (n : Int) - (i : Int) = cycQ (loopF (gQ ns fr L) K [] xs) ∧ i ≤ n ∧ n ≤ 20000 ∧ Below w.heap.size w w' := by
  obtain ⟨i0, hi, hz0, hz1, hz2⟩ := info_parts info_tellingZ
  have hlt := World.block_lt_of_cell? w _ hc
  obtain ⟨R, hR⟩ : ∃ R, R = loopF (gQ ns fr L) K [] xs := ⟨_, rfl⟩
  rw [← hR]
  have hp4 : (padF xs).length = 4 := padF_len (by omega)
  have HTO := Lib.hid (fun (W : World) (hb : Below w.heap.size w W) (x : List Int) (hx : x.length = L) => loopClosure_any W bl bt L u a cap ns fr x (argS_below h hb) hf (hbx.below hb) ((hb.cell (p := ⟨bt, 0, none⟩) hlt).trans hc) hx h4)
  have HR := Lib.hid hR; have HNS := Lib.hid hns
  have hblk : ∀ W : World, W = (w.alloc (.cells (fvA (padF xs)) 73)).alloc (.cells #[] 73) → BlkF (W.alloc (.cells #[.int .i64 0, .int .i64 0, .int .i64 0, .int .i64 0] 73)) w.heap.size (padF xs) ∧ BlkF (W.alloc (.cells #[.int .i64 0, .int .i64 0, .int .i64 0, .int .i64 0] 73)) (w.heap.size + 1 + 1) zF ∧ BlkF W w.heap.size (padF xs) := fun W h => by
    have h1 : BlkF (w.alloc (.cells (fvA (padF xs)) 73)) w.heap.size (padF xs) := ⟨heap_alloc_new _ _, hp4⟩
    have h2 := blkF_below h1 (below_alloc _ (.cells #[] 73))
    rw [h]
    refine ⟨blkF_below h2 (below_alloc _ _), ⟨?_, rfl⟩, h2⟩
    have := heap_alloc_new ((w.alloc (.cells (fvA (padF xs)) 73)).alloc (.cells #[] 73)) (.cells #[.int .i64 0, .int .i64 0, .int .i64 0, .int .i64 0] 73)
    rw [Go.Deep.nblk_alloc, Go.Deep.nblk_alloc] at this
    exact this
  have HBLK := Lib.hid hblk
  clear hR hns hblk h hbx hc hlt
  go_enter Tryd.func71, Tryd.ntmps71
  go_wp2_with fail
  refine wp_scope_againT 0 (TellJ ns fr xs bl bt w L K R) (tellM K) rfl ?_ ?_
  · rintro a' wr ⟨n, g, c, ok, u10, u11, u12, u13, u14, u15, u16, u17, u18, u19, u20, u21, u22, u23, u24, u25, u26, u27, u28, u29, u30, u31, rfl, hn2, hb, hbad, hgood⟩
    cases ok with
    | false =>
      have hR0 := hbad rfl
      have HB := Lib.hid hb; have HR0 := Lib.hid hR0
      clear hb hbad hgood hR0
      go_wp2_with fail
      simp only [Exit.jump]
      go_ret3
      refine ⟨none, 0, 0, 0, ?_, ?_, ?_, Nat.le_refl _, by omega, HB.out⟩
      all_goals (rw [HR0.out]; rfl)
    | true =>
    obtain ⟨way, x, hn, ho, hgN, hgl, hsz, hbx, hway, hxg, hloop⟩ := hgood rfl
    have hwl : way.length ≤ 10001 := wayQ_len HNS.out.1 hway
    have hall : ∀ m ∈ way, m.length = L := fun m hm => (wayG_good hway HNS.out m hm).1
    have hn20 : n ≤ 20000 := by omega
    have hn1 : n ≤ 10001 := by omega
    have hix := index4_any wr _ g c n L way x ho hn (by omega) hgl h4 hall hxg.1
    have HIX := Lib.hid hix; have HBX := Lib.hid hbx; have HO := Lib.hid ho; have HB := Lib.hid hb; have HN := Lib.hid hn; have HX := Lib.hid hxg
    by_cases hm : x ∈ way
    · have hid : idxF way x = ((posL x way : Nat) : Int) := by unfold idxF; rw [if_pos hm]
      have hend := loopF_end (K := K - n) (m := K - n - 1) (f := gQ ns fr L) (by omega) hm
      rw [hloop] at hend
      have hkn : posL x way < n := by rw [hn]; exact posL_lt way hm
      obtain ⟨k, hk⟩ : ∃ k, k = posL x way := ⟨_, rfl⟩
      rw [← hk] at hid hend hkn
      have HID := Lib.hid hid; have HE := Lib.hid hend
      clear hid hend hway hloop hm hk hn hxg ho hb hbx hix hwl hall hbad hgood
      go_wp2_with (refine wpList_getF rfl _ rfl (w.heap.size + 2) rfl (padF x) HBX.out ?_; unfold aggF)
      refine HIX.out.mono ?_
      rintro e w2 ⟨rfl, hb2⟩
      have HB2 := Lib.hid hb2; clear hb2
      rw [HID.out]
      have hk0 : (0 : Int) ≤ (k : Int) := by omega
      go_wp2_with fail
      simp only [Exit.jump]
      go_ret3
      refine ⟨some ⟨g, 0, none⟩, n, c, k, ?_, ?_, ?_, by omega, hn20, HB.out.trans (HB2.out.mono HB.out.size)⟩
      · rw [HE.out]; rfl
      · rw [HE.out]; rfl
      · rw [HE.out]; simp only [cycQ, Option.getD_some, HN.out]
    · have hid : idxF way x = -1 := by unfold idxF; rw [if_neg hm]
      have hst := loopF_step (K := K - n) (m := K - (n + 1)) (f := gQ ns fr L) (by omega) hm
      have hft : gQ ns fr L x = againL ns fr x := by rw [gQ_told hxg.2 hxg.1]; unfold againL; rw [if_pos hxg.2]
      rw [hloop, hft] at hst
      have hto := fun W hb => HTO.out W hb x hxg.1
      have hO4 : ((againL ns fr x).getD []).length ≤ 4 := by have := againL_len (ns := ns) (fr := fr) (x := x); omega
      obtain ⟨O, hO⟩ : ∃ O, O = againL ns fr x := ⟨_, rfl⟩
      rw [← hO] at hst hto hft hO4
      have hpx : (padF x).length = 4 := padF_len (by omega)
      have hpt : (padF (O.getD [])).length = 4 := padF_len hO4
      obtain ⟨ts, hts⟩ : ∃ ts, ts = padF (O.getD []) := ⟨_, rfl⟩
      rw [← hts] at hpt hto
      obtain ⟨bo, hbo⟩ : ∃ bo, bo = O.isSome := ⟨_, rfl⟩
      rw [← hbo] at hto
      have HID := Lib.hid hid; have HST := Lib.hid hst; have HM := Lib.hid hm; have HFT := Lib.hid hft; have HW := Lib.hid hway; have HTO2 := Lib.hid hto; have HTS := Lib.hid hts; have HBO := Lib.hid hbo
      clear hid hst hway hloop hm hn hxg ho hb hbx hix hwl hall hft hto hO hts hbo hO4 hbad hgood
      go_wp2_with (refine wpList_getF rfl _ rfl (w.heap.size + 2) rfl (padF x) HBX.out ?_; unfold aggF)
      refine HIX.out.mono ?_
      rintro e w2 ⟨rfl, hb2⟩
      have HB2 := Lib.hid hb2
      have hbx2 := blkF_below HBX.out hb2
      have HO2 := Lib.hid (own_belowS HO.out hb2)
      have HBX2 := Lib.hid hbx2
      have hsz2 : w.heap.size + 3 ≤ w2.heap.size := Nat.le_trans hsz hb2.size
      have hgl2 : g < w2.heap.size := Nat.lt_of_lt_of_le hgl hb2.size
      clear hb2
      rw [HID.out]
      obtain ⟨p0, p1, p2, p3, hp⟩ := fourU hpx
      have hbx3 : BlkF w2 (w.heap.size + 2) [p0, p1, p2, p3] := by rw [← hp]; exact hbx2
      have HP := Lib.hid hp
      clear hp hbx2
      go_wp2_with (first
        | (refine wpList_getF rfl _ rfl (w.heap.size + 2) rfl [p0, p1, p2, p3] hbx3 ?_; unfold aggF fvA; simp only [ivs, List.map_cons, List.map_nil])
        | (at_builtin; refine wpList_append_lies _ rfl _ _ 69 rfl (w.heap.size + 1) 73 i0 (.agg #[.int .i64 0, .int .i64 0, .int .i64 0, .int .i64 0]) 4 32 Tryd.underlying69 hi hz0 hz1 hz2 rfl (by decide) _ n _ rfl (own_belowS HO2.out (below_alloc _ _)) ⟨w2.heap.size, 0, none⟩ 1 1 (ivs [p0, p1, p2, p3]) rfl (by rfl) ?c1 ?c2 (by omega) ?c3 ?c4 ?c5 _ rfl ?_))
      case c1 =>
        intro j u hj
        rw [add_plainL, Nat.zero_add]
        have hj9 := get_lt hj
        rw [cell_of_row _ w2.heap.size j _ _ _ (heap_alloc_new _ _)]
        simpa [ivs] using hj
      case c2 =>
        intro u hu
        simp only [ivs, List.mem_map] at hu
        obtain ⟨l, _, rfl⟩ := hu
        rfl
      case c3 => unfold maxLen; omega
      case c4 => omega
      case c5 => simp; omega
      intro g' c' w3 hown' hgrow hat hlt3
      have hb23 : BlkF w3 (w.heap.size + 2) [p0, p1, p2, p3] := ⟨(hgrow.block _ (by simp; omega) (fun e => hgN (by simpa [Value.ownBlock] using e.symm))).trans ((below_alloc w2 _).block _ (blkF_lt hbx3) |>.trans hbx3.1), rfl⟩
      have hgN' : g' ≠ w.heap.size + 2 := by
        rcases hat with e | e
        · have : g = g' := by simpa [Value.ownBlock] using e
          omega
        · have : g' = w2.heap.size + 1 := by simpa using e
          omega
      have hBW : Below w.heap.size w w3 := ((HB.out.trans (HB2.out.mono HB.out.size)).alloc (by omega) _).grown hgrow (by simp; omega) (fun q hq => by
        have := (HO2.out.lt q hq).1
        omega)
      have hto3 : Calls Tryd.prog 73 #[.agg #[.int .i64 p0, .int .i64 p1, .int .i64 p2, .int .i64 p3], .pointer (some ⟨bl, 0, none⟩), .pointer (some ⟨bt, 0, none⟩)] w3 fun e w' => e = .returned (.tuple #[aggF ts, .bool bo]) ∧ Below w3.heap.size w3 w' := by
        have := HTO2.out w3 hBW
        rw [HP.out] at this
        exact this
      have hown2 : w3.ownsRow (w.heap.size + 1) 73 4 (.slice (some ⟨g', 0, none⟩) (n + 1) c') (n + 1) (flatF (way ++ [x])) := by
        rw [flatF_snoc, HP.out]; exact hown'
      have HTO3 := Lib.hid hto3; have HOW := Lib.hid hown2; have HBW := Lib.hid hBW
      clear hto3 hown2 hBW hown' hgrow hat
      go_wp2_with (first | (refine wpList_getF rfl _ rfl (w.heap.size + 2) rfl [p0, p1, p2, p3] hb23 ?_; unfold aggF fvA; simp only [ivs, List.map_cons, List.map_nil]))
      refine HTO3.out.mono ?_
      rintro e w4 ⟨rfl, hb4⟩
      have hb24 := blkF_below hb23 hb4
      have HO4 := Lib.hid (own_belowS HOW.out hb4); have HB4 := Lib.hid hb4
      go_wp2_with (refine wpList_putF rfl _ _ rfl (w.heap.size + 2) rfl [p0, p1, p2, p3] ts rfl hb24 hpt ?_; intro w5 hB5 hoth hbb hs5)
      have hfin : AtQ ns fr xs w L K R g' (n + 1) c' bo w5 := by
        refine ⟨(HBW.out.trans (HB4.out.mono HBW.out.size)).trans (hbb _ (by omega)), fun e => ?_, fun e => ?_⟩
        · rw [HBO.out] at e
          cases O with
          | none => rw [HST.out]
          | some y => cases e
        · rw [HBO.out] at e
          cases O with
          | none => cases e
          | some y =>
            have hxy := HFT.out
            refine ⟨way ++ [x], y, by have := HN.out; simp; omega, own_blockS HO4.out (fun z hz => hoth z (fun e => hgN' (by
                have : g' = z := by simpa [Value.ownBlock] using hz
                omega))), hgN', ?_, ?_, by rw [HTS.out] at hB5; exact hB5, way_snoc HW.out HM.out hxy, gQ_some hxy, HST.out.symm⟩
            · have := HB4.out.size; omega
            · have h1 := HBW.out.size; have h2 := HB4.out.size; have h3 := blkF_lt hB5; omega
      have HFIN := Lib.hid hfin
      clear hfin hoth hbb hb24 hb4 hB5
      go_step3
      refine ⟨rfl, ⟨n + 1, g', c', bo, _, _, _, _, _, _, _, _, _, _, _, _, _, _, _, _, _, _, _, _, _, _, rfl, by omega, HFIN.out⟩, ?_⟩
      simp [tellM, lenQ]; omega
  · intro hpp
    go_wp2_with (first
      | (refine wpList_getF rfl _ rfl w.heap.size rfl (padF xs) (HBLK.out _ rfl).2.2 ?_)
      | (refine wpList_putF rfl _ _ rfl (w.heap.size + 1 + 1) rfl zF (padF xs) rfl (HBLK.out _ rfl).2.1 hp4 ?_; intro w2 hB2 hoth hbb hs2))
    refine wp_label ?_
    rename_i K1 hk
    refine hk _ _ (hpp _ _ ⟨0, w.heap.size + 1, 0, true, _, _, _, _, _, _, _, _, _, _, _, _, _, _, _, _, _, _, _, _, _, _, rfl, by omega, ?_, fun e => (by cases e), fun _ => ⟨[], xs, rfl, ?_, by omega, ?_, ?_, hB2, way_nil _ _, HNS.out, HR.out.symm⟩⟩)
    · exact (below_trans (below_alloc _ _) (below_trans (below_alloc _ _) (below_alloc _ _))).trans (hbb _ (by omega))
    · have h1 := own_lit (w.alloc (.cells (fvA (padF xs)) 73)) (w.heap.size + 1) 73 [] (by simp) (by simp [maxLen])
      rw [Go.Deep.nblk_alloc] at h1
      have h2 : ((w.alloc (.cells (fvA (padF xs)) 73)).alloc (.cells #[] 73)).ownsRow (w.heap.size + 1) 73 4 (.slice (some ⟨w.heap.size + 1, 0, none⟩) 0 0) 0 (flatF []) := by
        refine ⟨rfl, ?_⟩
        rcases h1.2 with ⟨e, _⟩ | ⟨g, cap, cur, e, hB, hg, h3, h4, h5, h6⟩
        · cases e
        · simp only [Value.slice.injEq, Option.some.injEq, Addr.mk.injEq] at e
          obtain ⟨⟨rfl, _⟩, _, rfl⟩ := e
          exact .inr ⟨_, _, cur, rfl, hB, hg, h3, h4, by simpa using h5, by simp [flatF]⟩
      refine own_blockS (own_belowS h2 (below_alloc _ (.cells #[.int .i64 0, .int .i64 0, .int .i64 0, .int .i64 0] 73))) (fun z hz => ?_)
      have : w.heap.size + 1 = z := by simpa [Value.ownBlock] using hz
      exact hoth z (by omega)
    · rw [hs2]; simp
    · rw [hs2]; simp
end Go.Proofs.YtampjipbemmicaaDoor
