/- ComesBack: what is reached, pure; rows that are laid anew place by place; the model's ComesBack. -/
import Derived.Test.YtgmknehioadjhaaME
import Derived.Test.YtgmknehioadjhaaMT
namespace Go.Proofs.Ytgmknehioadjhaa
open Go.RowKit Go.BigFrame Go.Maps
set_option linter.unusedSimpArgs false
set_option linter.unusedVariables false
set_option maxRecDepth 4000

/-- The places that are reached from a by one step or more. -/
def Rch (rows : Nat → List Nat) (a x : Nat) : Prop := ∀ S : Nat → Prop, (∀ y ∈ rows a, S y) → (∀ y, S y → ∀ z ∈ rows y, S z) → S x
theorem Rch.step {rows : Nat → List Nat} {a x : Nat} (h : x ∈ rows a) : Rch rows a x := fun S h1 _ => h1 x h
theorem Rch.next {rows : Nat → List Nat} {a x y : Nat} (h : Rch rows a y) (hx : x ∈ rows y) : Rch rows a x := fun S h1 h2 => h2 y (h S h1 h2) x hx
theorem count_put : ∀ (sb : List Bool) (j : Nat), j < sb.length → sb.getD j false = false → (sb.set j true).count true = sb.count true + 1
  | [], j, h, _ => by simp at h
  | b :: r, 0, _, h => by
    simp [List.getD] at h
    subst h
    simp [List.count_cons]
  | b :: r, j + 1, h, h2 => by
    have ih := count_put r j (by simpa using h) (by simpa [List.getD] using h2)
    simp only [List.set_cons_succ, List.count_cons, ih]
    omega
theorem getD_put {sb : List Bool} {j k : Nat} (hj : j < sb.length) : (sb.set j true).getD k false = if k = j then true else sb.getD k false := by
  by_cases e : k = j
  · subst e; simp [List.getD, hj]
  · rw [if_neg e]
    simp [List.getD, List.getElem?_set, Ne.symm e]
def CbInv (rows : Nat → List Nat) (a n : Nat) (sb : List Bool) (q : List Nat) : Prop :=
  sb.length = n ∧ AllLt n q ∧ (∀ j, sb.getD j false = true → Rch rows a j) ∧ (∀ y ∈ q, y = a ∨ sb.getD y false = true) ∧ (∀ j, sb.getD j false = true → j ∈ q) ∧ q.length = 1 + sb.count true ∧ a ∈ q
theorem CbInv.start {rows : Nat → List Nat} {a n : Nat} (h : a < n) : CbInv rows a n (List.replicate n false) [a] := by
  have hf : ∀ j, (List.replicate n false).getD j false = false := fun j => by
    simp only [List.getD, List.getElem?_replicate]
    split <;> rfl
  exact ⟨by simp, (fun x hx => by simp at hx; omega), (fun j hj => by rw [hf] at hj; cases hj), (fun y hy => .inl (by simpa using hy)), (fun j hj => by rw [hf] at hj; cases hj), by simp [List.count_replicate], by simp⟩
theorem CbInv.len {rows : Nat → List Nat} {a n : Nat} {sb : List Bool} {q : List Nat} (h : CbInv rows a n sb q) : q.length ≤ n + 1 := by
  obtain ⟨h1, _, _, _, _, h6, _⟩ := h
  have := List.count_le_length (a := true) (l := sb)
  omega
theorem CbInv.put {rows : Nat → List Nat} {a n y z : Nat} {sb : List Bool} {q : List Nat} (h : CbInv rows a n sb q) (hy : y ∈ q) (hz : z ∈ rows y) (hzn : z < n) (hs : sb.getD z false = false) : CbInv rows a n (sb.set z true) (q ++ [z]) := by
  obtain ⟨h1, h2, h3, h4, h5, h6, h7⟩ := h
  have hrz : Rch rows a z := by
    rcases h4 y hy with rfl | hsy
    · exact Rch.step hz
    · exact (h3 y hsy).next hz
  have hzl : z < sb.length := by omega
  refine ⟨by simpa using h1, fun x hx => ?_, fun j hj => ?_, fun x hx => ?_, fun j hj => ?_, ?_, by simp [h7]⟩
  · rcases List.mem_append.1 hx with hx | hx
    · exact h2 x hx
    · simp at hx; omega
  · rw [getD_put hzl] at hj
    by_cases e : j = z
    · rw [e]; exact hrz
    · rw [if_neg e] at hj; exact h3 j hj
  · rw [getD_put hzl]
    rcases List.mem_append.1 hx with hx | hx
    · rcases h4 x hx with h | h
      · exact .inl h
      · refine .inr ?_
        split
        · rfl
        · exact h
    · simp at hx; exact .inr (by rw [if_pos hx])
  · rw [getD_put hzl] at hj
    by_cases e : j = z
    · simp [e]
    · rw [if_neg e] at hj; simp [h5 j hj]
  · rw [count_put sb z hzl hs, List.length_append, h6]; simp; omega
theorem CbInv.fin {rows : Nat → List Nat} {a n : Nat} {sb : List Bool} {q : List Nat} (h : CbInv rows a n sb q) (hall : ∀ y ∈ q, ∀ z ∈ rows y, sb.getD z false = true) : sb.getD a false = true ↔ Rch rows a a := by
  obtain ⟨h1, h2, h3, h4, h5, h6, h7⟩ := h
  exact ⟨fun hs => h3 a hs, fun hr => hr (fun x => sb.getD x false = true) (hall a h7) (fun y hy z hz => hall y (h5 y hy) z hz)⟩

/-! ### rows laid anew -/
theorem row_put {W : World} {B g n c : Nat} {T : TypeId} {xs : List Value} (h : W.ownsRow B T 1 (.slice (some ⟨g, 0, none⟩) n c) n xs) (j : Nat) (x : Value) : (W.setCell ⟨g, j, none⟩ x).ownsRow B T 1 (.slice (some ⟨g, 0, none⟩) n c) n (xs.set j x) := by
  obtain ⟨hl, h2⟩ := h
  rcases h2 with ⟨e, _⟩ | ⟨g', cap, cur, e, hB, hg, hn, hm, hs, ht⟩
  · cases e
  · injection e with e1 e2 e3
    injection e1 with e1
    injection e1 with e1
    subst e1; subst e3
    refine ⟨by simpa using hl, .inr ⟨g, c, cur.setIfInBounds j x, rfl, hB, set_obj hg, hn, hm, by simpa using hs, ?_⟩⟩
    rw [Array.toList_setIfInBounds, List.take_set, ht]
abbrev BR (W : World) (B g n : Nat) (sb : List Bool) : Prop := W.ownsRow B 4 1 (.slice (some ⟨g, 0, none⟩) n n) n (sb.map .bool)
theorem BR.put {W : World} {B g n : Nat} {sb : List Bool} (h : BR W B g n sb) (j : Nat) (b : Bool) : BR (W.setCell ⟨g, j, none⟩ (.bool b)) B g n (sb.set j b) := by
  have := row_put h j (.bool b)
  unfold BR
  rw [List.map_set]; exact this
theorem BR.at_ {W : World} {B g n : Nat} {sb : List Bool} (h : BR W B g n sb) {j : Nat} (hj : j < n) : W.cell? ⟨g, j, none⟩ = some (.bool (sb.getD j false)) ∧ W.frozen? ⟨g, j, none⟩ = false ∧ g < W.heap.size ∧ B ≤ g := by
  rcases own_open h with ⟨e, _⟩ | ⟨g', cap, e, h1, h2, _, _, hl, h3, h4⟩
  · cases e
  · injection e with e1 e2 e3
    injection e1 with e1
    injection e1 with e1
    subst e1
    have hjl : j < sb.length := by simp at hl; omega
    refine ⟨?_, h4 j, h2, h1⟩
    rw [h3 j (by omega)]
    simp [List.getD, List.getElem?_eq_getElem hjl]
theorem BR.made {W : World} {B g n : Nat} (h : W.ownsRow B 4 1 (.slice (some ⟨g, 0, none⟩) n n) n (madeCells (Value.bool false).cells (n * 1)).toList) : BR W B g n (List.replicate n false) := by
  have e : (madeCells (Value.bool false).cells (n * 1)).toList = List.replicate n (.bool false) := by
    rw [Nat.mul_one]; exact toList_madeCells_one _ _
  rw [e] at h
  unfold BR
  simpa using h
theorem info_boolW : (Try.prog.info? 4).map (fun i => (i.zero, i.size, i.bytes)) = some (some (.bool false), 1, 1) := by kernel_rfl
/-- Whether a name of the table comes back. -/
def cbP (l x : List UInt8) : Prop := ∃ ns, tabQ l = some ns ∧ x ∈ ns ∧ Rch (rowN ns) (posN x ns) (posN x ns)

set_option maxHeartbeats 8000000 in
theorem specComesBack_any (s t : ByteArray) (w : World) (hs : s.size ≤ maxLen) (ht : t.size ≤ maxLen) (rb : Bool) (hrb : rb = true ↔ cbP s.data.toList t.data.toList) :
    Calls Try.prog 28 #[.string s, .string t] w fun e w' => e = .returned (.tuple #[.bool rb, .bool (ftB s.data.toList t.data.toList)]) ∧ Below w.heap.size w w' := by
  obtain ⟨i0, hi, hz0, hz1, hz2⟩ := info_parts info_int5
  obtain ⟨b0, bi, bz0, bz1, bz2⟩ := info_parts info_boolW
  have HA := Lib.hid (fun (W : World) => elAsked_any s W hs)
  obtain ⟨l, hl⟩ : ∃ l, l = s.data.toList := ⟨_, rfl⟩
  obtain ⟨x, hx⟩ : ∃ x, x = t.data.toList := ⟨_, rfl⟩
  have et : t = bs x := by rw [hx]; exact bs_eq rfl
  rw [← hl] at HA hrb ⊢
  rw [← hx] at hrb ⊢
  clear hl hx
  cases hR : tabQ l with
  | none =>
    have hrf : rb = false := by
      cases rb with
      | false => rfl
      | true => obtain ⟨ns, h1, _⟩ := hrb.1 rfl; rw [hR] at h1; cases h1
    have HB : Hid (Ending.returned (.tuple #[.bool rb, .bool (ftB l x)]) = .returned (.tuple #[.bool false, .bool false])) := Lib.hid (by rw [hrf]; unfold ftB; rw [hR])
    rw [hR] at HA
    rw [HB.out]
    clear hR et hrb hrf
    go_enter Try.func28, Try.ntmps28
    go_wp2_with fail
    refine (HA.out w).mono ?_
    rintro e w1 hpost
    have HB1 := Lib.hid hpost.2.2
    obtain rfl := hpost.1 rfl
    clear hpost HA
    go_wp2_with fail
    go_ret2
    exact ⟨rfl, HB1.out⟩
  | some ns =>
    have h1 := tabQ_le hR
    by_cases hin : x ∈ ns
    · have h0 := tabQ_ok hR
      have hrr : rb = true ↔ Rch (rowN ns) (posN x ns) (posN x ns) := ⟨fun h => by
          obtain ⟨ns', e1, e2, e3⟩ := hrb.1 h
          rw [hR] at e1; cases e1; exact e3, fun h => hrb.2 ⟨ns, hR, hin, h⟩⟩
      have HB : Hid (Ending.returned (.tuple #[.bool rb, .bool (ftB l x)]) = .returned (.tuple #[.bool rb, .bool true])) := Lib.hid (by unfold ftB; rw [hR]; simp [hin])
      rw [hR] at HA
      rw [HB.out]
      have hpos := posN_mem.2 hin
      have hix := fun (W : World) (n₀ tp nd : Nat) (xb : List Nat) (v0 v1 v2 : Value) (hT : TabM W n₀ tp ns nd xb v0 v1 v2) => elIndex_any W n₀ tp nd xb v0 v1 v2 ns x hT (by omega) ((posN x ns : Nat) : Int) (by rw [if_pos hin])
      rw [← et] at hix
      obtain ⟨a, hpe⟩ : ∃ a, a = posN x ns := ⟨_, rfl⟩
      rw [← hpe] at hix hpos hrr
      obtain ⟨n, hnn⟩ : ∃ n, n = ns.length := ⟨_, rfl⟩
      have hn9 : n ≤ 200 := by rw [hnn]; exact h1
      rw [← hnn] at hpos
      have HIX := Lib.hid hix; have HNN := Lib.hid hnn; have H0 := Lib.hid h0; have HRR := Lib.hid hrr
      clear hR et hin hix hnn hpe h0 h1 hrb hrr
      go_enter Try.func28, Try.ntmps28
      go_wp2_with fail
      refine (HA.out w).mono ?_
      rintro e w1 hpost
      have hB1 := hpost.2.2
      obtain ⟨tp, nd, xb, v0, v1, v2, rfl, hT, hRM⟩ := hpost.2.1 ns rfl
      obtain ⟨hrows, rfl, hxb, hmem⟩ := hRM
      obtain ⟨am, cm, rfl⟩ := own_slice hT.names
      have x0 := hT.cell0
      have x1 := hT.cell1
      have htp := hT.lt
      rw [← HNN.out] at x0
      have hrw : ∀ k, k < n → ∃ gD cD gr cr, v1 = .slice (some ⟨gD, 0, none⟩) n cD ∧ gD < w1.heap.size ∧ w1.cell? ⟨gD, k, none⟩ = some (.slice (some ⟨gr, 0, none⟩) (rowN ns k).length cr) ∧ gr < w1.heap.size ∧
          (∀ i (hi : i < (rowN ns k).length), w1.cell? ⟨gr, i, none⟩ = some (.int .i64 ((rowN ns k)[i] : Nat)) ∧ (rowN ns k)[i] < n) ∧ w.heap.size ≤ gD ∧ w.heap.size ≤ gr := fun k hk => by
        have := RowsX.rowM hrows (k := k) (by rw [← HNN.out]; exact hk)
        rw [← HNN.out] at this
        exact this
      have hrl : ∀ k, k < n → (rowN ns k).length ≤ 121 := fun k hk => by
        have hk2 : k < ns.length := by rw [← HNN.out]; exact hk
        rw [rowN_get (List.getElem?_eq_getElem hk2), linkL_len]
        obtain ⟨q1, q2⟩ := H0.out.1 _ (List.getElem_mem hk2)
        exact (sd_ok q1 q2).2.1
      have HB1 := Lib.hid hB1; have HT := Lib.hid hT; have HRW := Lib.hid hrw; have HRL := Lib.hid hrl
      clear hpost hB1 HA hT hrows hxb hmem hrw hrl
      go_wp2_with fail
      refine (HIX.out w1 w.heap.size tp _ xb _ v1 v2 HT.out).mono ?_
      rintro e w2 ⟨rfl, rfl⟩
      go_wp2_with (refine wpList_make_full _ rfl _ _ 68 rfl w1.heap.size 4 b0 (.bool false) 1 Try.underlying68 bi bz0 bz1 .i64 .i64 (n : Int) (n : Int) n rfl rfl rfl rfl (by rw [bz2]; omega) (by unfold maxLen; omega) (Nat.le_refl _) ?_; intro w3 hrow hgr; have HB3 := Lib.hid (below_grownG (Nat.le_refl _) hgr (fun g e => by cases e)); have HR3 := Lib.hid (BR.made hrow); clear hrow hgr)
      refine (HIX.out w3 w.heap.size tp _ xb _ v1 v2 (HT.out.below HB3.out)).mono ?_
      rintro e w4 ⟨rfl, rfl⟩
      have hsz3 := (HR3.out.at_ hpos).2.2.1
      have HQ0 : Hid (NR (w3.alloc (.cells #[.int .i64 (a : Nat)] 3 (0, 0))) (w1.heap.size + 1) (.slice (some ⟨w3.heap.size, 0, none⟩) 1 1) 1 [a]) := Lib.hid (own_lit w3 (w1.heap.size + 1) 3 [.int .i64 (a : Nat)] hsz3 (by simp [maxLen]))
      go_wp2_with fail
      go_loopw [9, 10] (fun qv kv wr => ∃ (k : Nat) (sb : List Bool) (q : List Nat), k ≤ q.length ∧ kv = .int .i64 k ∧ (∃ ra rc, qv = .slice ra q.length rc) ∧ Hid (CbInv (rowN ns) a n sb q ∧ (∀ i (hi : i < q.length), i < k → ∀ z ∈ rowN ns q[i], sb.getD z false = true) ∧ BR wr w1.heap.size w1.heap.size n sb ∧ NR wr (w1.heap.size + 1) qv q.length q ∧ Below w1.heap.size w1 wr)) (fun _ kv _ => n + 2 - (intOf kv).toNat)
      case atStart => exact ⟨0, List.replicate n false, [a], by simp, rfl, ⟨_, _, rfl⟩, Lib.hid ⟨CbInv.start hpos, fun i _ h => by omega, HR3.out.alloc _, HQ0.out, HB3.out.alloc (by omega) _⟩⟩
      case round =>
        obtain ⟨k, sb, q, hkq, rfl, ⟨ra, rc, rfl⟩, HX⟩ := hrel
        obtain ⟨hinv, hdone, hbr, hq, hb⟩ := HX.out
        have hq9 := hinv.len
        obtain ⟨T, hT⟩ : ∃ T, T = q.length := ⟨_, rfl⟩
        rw [← hT] at hq hq9 hkq ⊢
        by_cases hkT : k < T
        · have hkl : k < q.length := by rw [← hT]; exact hkT
          obtain ⟨gq, cq, heq, yqk, hgq, hgqB⟩ := hq.at_ hT hkT
          cases heq
          have hyn := getD_lt hinv.2.1 hkl
          have hyq : q.getD k 0 ∈ q := by
            rw [show q.getD k 0 = q[k] by simp [List.getD, List.getElem?_eq_getElem hkl]]
            exact List.getElem_mem hkl
          have hyk : q[k]? = some (q.getD k 0) := by simp [List.getD, List.getElem?_eq_getElem hkl]
          obtain ⟨y, hy⟩ : ∃ y, y = q.getD k 0 := ⟨_, rfl⟩
          rw [← hy] at yqk hyn hyq hyk
          obtain ⟨gD, cD, gr, cr, hv1, hgD, hcD, hgr, hrc, _, _⟩ := HRW.out y hyn
          subst hv1
          have y1 := (hb.cell (p := ⟨tp, 1, none⟩) htp).trans x1
          have yD := (hb.cell (p := ⟨gD, y, none⟩) hgD).trans hcD
          have hL9 := HRL.out y hyn
          obtain ⟨row, hrow⟩ : ∃ row, row = rowN ns y := ⟨_, rfl⟩
          rw [← hrow] at yD hrc hL9
          obtain ⟨L, hL⟩ : ∃ L, L = row.length := ⟨_, rfl⟩
          rw [← hL] at yD hL9
          have HINV := Lib.hid hinv; have HDONE := Lib.hid hdone; have HBR := Lib.hid hbr; have HQ := Lib.hid hq; have HB := Lib.hid hb; have HT2 := Lib.hid hT; have HYQ := Lib.hid hyq; have HYK := Lib.hid hyk; have HRC := Lib.hid hrc; have HL := Lib.hid hL; have HROW := Lib.hid hrow
          clear HX hinv hdone hbr hq hb hT hyq hyk hrc hL hrow hy hcD hkl
          go_wp2_with fail
          go_quiet (fail)
          go_wp2_with fail
          go_loopw [9, 53] (fun qv jv wz => ∃ (j : Nat) (sb' : List Bool) (q' : List Nat), j ≤ L ∧ jv = .int .i64 j ∧ (∃ ra rc, qv = .slice ra q'.length rc) ∧ Hid (CbInv (rowN ns) a n sb' q' ∧ (∀ z, sb.getD z false = true → sb'.getD z false = true) ∧ (∃ d, q' = q ++ d) ∧ (∀ i (hi : i < row.length), i < j → sb'.getD row[i] false = true) ∧ BR wz w1.heap.size w1.heap.size n sb' ∧ NR wz (w1.heap.size + 1) qv q'.length q' ∧ Below w1.heap.size w1 wz)) (fun _ jv _ => L - (intOf jv).toNat)
          case atStart => exact ⟨0, sb, q, by omega, rfl, ⟨_, _, by rw [HT2.out]⟩, Lib.hid ⟨HINV.out, fun z h => h, ⟨[], by simp⟩, fun i _ h => by omega, HBR.out, by rw [← HT2.out]; exact HQ.out, ⟨HB.out.os, HB.out.tape, HB.out.output, HB.out.size, HB.out.block⟩⟩⟩
          case round =>
            obtain ⟨j, sb', q', hj, rfl, ⟨ra, rc, rfl⟩, HX⟩ := hrel
            obtain ⟨hinv, hmono, ⟨d, hd⟩, hseen, hbr, hq, hb⟩ := HX.out
            have hq9' := hinv.len
            by_cases hjl : j < L
            · have hjr : j < row.length := by rw [← HL.out]; exact hjl
              obtain ⟨hcj, hzn⟩ := HRC.out j hjr
              have yj := (hb.cell (p := ⟨gr, j, none⟩) hgr).trans hcj
              have hzrow : row[j] ∈ rowN ns y := by rw [← HROW.out]; exact List.getElem_mem hjr
              obtain ⟨z, hz⟩ : ∃ z, z = row[j] := ⟨_, rfl⟩
              rw [← hz] at yj hzn hzrow
              obtain ⟨yz, fz, hszr, _⟩ := hbr.at_ hzn
              obtain ⟨T2, hT2⟩ : ∃ T2, T2 = q'.length := ⟨_, rfl⟩
              rw [← hT2] at hq hq9' ⊢
              cases hsz : sb'.getD z false with
              | true =>
                rw [hsz] at yz
                have hseen2 : ∀ i (hi : i < row.length), i < j + 1 → sb'.getD row[i] false = true := fun i hi h => by
                  by_cases e : i = j
                  · subst e; rw [← hz]; exact hsz
                  · exact hseen i hi (by omega)
                have HINV2 := Lib.hid hinv; have HMONO := Lib.hid hmono; have HD := Lib.hid hd; have HSEEN := Lib.hid hseen2; have HBR2 := Lib.hid hbr; have HQ2 := Lib.hid hq; have HB2 := Lib.hid hb; have HT3 := Lib.hid hT2
                clear HX hinv hmono hd hseen hseen2 hbr hq hb hcj hzrow hz hsz hT2 hjr
                go_wp2_with fail
                go_roundw
                case rel => exact ⟨j + 1, sb', q', by omega, by go_num, ⟨ra, rc, by rw [HT3.out]⟩, Lib.hid ⟨HINV2.out, HMONO.out, ⟨d, HD.out⟩, HSEEN.out, HBR2.out, by rw [← HT3.out]; exact HQ2.out, HB2.out⟩⟩
                case measure => simp [intOf] <;> omega
              | false =>
                rw [hsz] at yz
                have hyq' : y ∈ q' := by rw [hd]; exact List.mem_append_left _ HYQ.out
                have hinv2 := hinv.put hyq' hzrow hzn hsz
                have hzl : z < sb'.length := by rw [hinv.1]; exact hzn
                have hmono2 : ∀ c, sb.getD c false = true → (sb'.set z true).getD c false = true := fun c h => by
                  rw [getD_put hzl]
                  split
                  · rfl
                  · exact hmono c h
                have hseen2 : ∀ i (hi : i < row.length), i < j + 1 → (sb'.set z true).getD row[i] false = true := fun i hi h => by
                  rw [getD_put hzl]
                  by_cases e : i = j
                  · subst e; rw [if_pos hz.symm]
                  · split
                    · rfl
                    · exact hseen i hi (by omega)
                have HQ2 : Hid (NR (wr.setCell ⟨w1.heap.size, z, none⟩ (.bool true)) (w1.heap.size + 1) (.slice ra T2 rc) T2 q') := Lib.hid (own_block hq (fun g' e => Below.heap_setCell _ _ _ _ (fun e2 => by have e3 : g' = w1.heap.size := e2; have := (hq.lt g' e).1; omega)))
                have HINV2 := Lib.hid hinv2; have HMONO := Lib.hid hmono2; have HD := Lib.hid hd; have HSEEN := Lib.hid hseen2; have HBR2 := Lib.hid hbr; have HB2 := Lib.hid hb; have HT3 := Lib.hid hT2
                clear HX hinv hinv2 hmono hmono2 hd hseen hseen2 hbr hq hb hcj hzrow hz hsz hT2 hjr hzl hyq'
                go_wp2_with (at_builtin; refine wpList_app _ rfl _ _ 30 rfl (w1.heap.size + 1) 3 i0 (.int .i64 0) 8 Try.underlying30 hi hz0 hz1 hz2 rfl _ T2 _ rfl (HQ2.out.alloc _) _ 1 1 [.int .i64 (z : Nat)] rfl rfl ?c1 ?c2 ?c3 ?c4 ?c5 ?_)
                case c1 => intro i u hi'; cases i with | zero => (simp at hi'; subst hi'; simp [Addr.add]; (try exact cell_newN _ _ _ _ (by simp))) | succ i => simp at hi'
                case c2 => intro u hu; simp at hu; subst hu; rfl
                case c3 => unfold maxLen; omega
                case c4 => omega
                case c5 => simp; omega
                intro v' w5 hown' hgrow hwh
                have hbb : Below w1.heap.size w1 w5 := (((HB2.out.setCell (Nat.le_refl _) _).alloc (by simp; omega) _)).trans (below_grownG (by simp; omega) hgrow (fun g e => by have := (HQ2.out.lt g e).1; omega))
                have hbr5 : BR w5 w1.heap.size w1.heap.size n (sb'.set z true) := by
                  have h5 := World.ownsRow.alloc (HBR2.out.put z true) (.cells #[.int .i64 (z : Nat)] 3 (0, 0))
                  exact own_block h5 (fun g e => hgrow.block g (h5.lt g e).2 (fun e2 => by have := (HQ2.out.lt g e2.symm).1; simp only [Value.ownBlock, Option.some.injEq] at e; omega))
                have hq5 : NR w5 (w1.heap.size + 1) v' (T2 + 1) (q' ++ [z]) := NR.app (r := [z]) (by simpa [natsI] using hown')
                obtain ⟨a3, c3, rfl⟩ := own_slice hown'
                have HBB := Lib.hid hbb; have HBR5 := Lib.hid hbr5; have HQ5 := Lib.hid hq5
                clear hown' hgrow hwh hbb hbr5 hq5
                go_wp2_with fail
                go_roundw
                case rel => exact ⟨j + 1, sb'.set z true, q' ++ [z], by omega, by go_num, ⟨a3, c3, by rw [List.length_append, ← HT3.out]; rfl⟩, Lib.hid ⟨HINV2.out, HMONO.out, ⟨d ++ [z], by rw [HD.out, List.append_assoc]⟩, HSEEN.out, HBR5.out, by rw [List.length_append, ← HT3.out]; exact HQ5.out, HBB.out⟩⟩
                case measure => simp [intOf] <;> omega
            · obtain rfl : j = L := by omega
              have hlen : q'.length = q.length + d.length := by rw [hd, List.length_append]
              have hdone2 : ∀ i (hi : i < q'.length), i < k + 1 → ∀ z ∈ rowN ns q'[i], sb'.getD z false = true := fun i hi h z hzm => by
                have hiq : i < q.length := by rw [← HT2.out]; omega
                have e : q'[i] = q[i] := by simp only [hd, List.getElem_append_left hiq]
                rw [e] at hzm
                by_cases ek : i = k
                · subst ek
                  have hqy : q[i] = y := by
                    have h1 := HYK.out
                    rw [List.getElem?_eq_getElem hiq] at h1
                    exact Option.some.inj h1
                  rw [hqy, ← HROW.out] at hzm
                  obtain ⟨i2, hi2, rfl⟩ := List.getElem_of_mem hzm
                  exact hseen i2 hi2 (by rw [HL.out]; exact hi2)
                · exact hmono z (HDONE.out i hiq (by omega) z hzm)
              have hkq' : k + 1 ≤ q'.length := by rw [hlen, ← HT2.out]; omega
              have HINV2 := Lib.hid hinv; have HDONE2 := Lib.hid hdone2; have HBR2 := Lib.hid hbr; have HQ2 := Lib.hid hq; have HB2 := Lib.hid hb
              clear HX hinv hmono hd hseen hbr hq hb hlen hdone2
              go_wp2_with fail
              go_roundw
              case rel => exact ⟨k + 1, sb', q', hkq', by go_num, ⟨ra, rc, rfl⟩, Lib.hid ⟨HINV2.out, HDONE2.out, HBR2.out, HQ2.out, HB2.out⟩⟩
              case measure => simp [intOf] <;> omega
        · have hfin := hinv.fin (fun y hy z hzm => by
            obtain ⟨i, hi, rfl⟩ := List.getElem_of_mem hy
            exact hdone i hi (by omega) z hzm)
          have hval : sb.getD a false = rb := by
            have h := hfin.trans HRR.out.symm
            revert h
            cases sb.getD a false <;> cases rb <;> simp
          obtain ⟨yz, _, _, _⟩ := hbr.at_ hpos
          rw [hval] at yz
          have HIX2 := Lib.hid (HIX.out wr w.heap.size tp _ xb _ v1 v2 (HT.out.below hb))
          have HB := Lib.hid hb
          clear HX hinv hdone hbr hq hb hfin hval
          go_wp2_with fail
          refine HIX2.out.mono ?_
          rintro e w5 ⟨rfl, rfl⟩
          go_wp2_with fail
          go_ret2
          exact ⟨rfl, HB1.out.trans (HB.out.mono HB1.out.size)⟩
    · have hrf : rb = false := by
        cases rb with
        | false => rfl
        | true =>
          obtain ⟨ns', e1, e2, _⟩ := hrb.1 rfl
          rw [hR] at e1; cases e1; exact absurd e2 hin
      have HB : Hid (Ending.returned (.tuple #[.bool rb, .bool (ftB l x)]) = .returned (.tuple #[.bool false, .bool false])) := Lib.hid (by rw [hrf]; unfold ftB; rw [hR]; simp [hin])
      rw [hR] at HA
      rw [HB.out]
      have hix := fun (W : World) (n₀ tp nd : Nat) (xb : List Nat) (v0 v1 v2 : Value) (hT : TabM W n₀ tp ns nd xb v0 v1 v2) => elIndex_any W n₀ tp nd xb v0 v1 v2 ns x hT (by omega) (-1) (by rw [if_neg hin])
      rw [← et] at hix
      have HIX := Lib.hid hix
      clear hR et hin hix hrb hrf
      go_enter Try.func28, Try.ntmps28
      go_wp2_with fail
      refine (HA.out w).mono ?_
      rintro e w1 hpost
      have HB1 := Lib.hid hpost.2.2
      obtain ⟨tp, nd, xb, v0, v1, v2, rfl, hT, hRM⟩ := hpost.2.1 ns rfl
      have HT := Lib.hid hT
      clear hpost HA hT hRM
      go_wp2_with fail
      refine (HIX.out w1 w.heap.size tp nd xb v0 v1 v2 HT.out).mono ?_
      rintro e w2 ⟨rfl, rfl⟩
      go_wp2_with fail
      go_ret2
      exact ⟨rfl, HB1.out⟩
end Go.Proofs.Ytgmknehioadjhaa
