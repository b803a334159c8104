/- The inventory of a word: the model's taOf and the program's inventory. -/
import Derived.Test.YtkdoghopbefjfaaT4
import Derived.Test.YtkdoghopbefjfaaI3
namespace Go.Proofs.Ytkdoghopbefjfaa
open Go.RowKit Go.BigFrame
set_option linter.unusedSimpArgs false
set_option linter.unusedVariables false
set_option maxRecDepth 4000

theorem okT_take_succ (ts : List Nat) (k n : Nat) (h : ts[k]? = some n) : okT (ts.take (k + 1)) = (okT (ts.take k) && decide (n ≤ 9)) := by
  obtain ⟨hk, e⟩ := List.getElem?_eq_some_iff.1 h
  unfold okT
  rw [List.take_succ_eq_append_getElem hk, List.all_append, e]
  simp
theorem okT_false {ts : List Nat} {k : Nat} (h : okT (ts.take k) = false) : okT ts = false := by
  unfold okT at *
  rw [← List.take_append_drop k ts, List.all_append, h]; rfl
theorem invK_next (ts : List Nat) (k n : Nat) (h : ts[k]? = some n) : invK ts (k + 1) = invK ts k ++ if n = 0 then [] else numL n ++ numL (k + 1) := by
  rw [invK_succ]
  unfold pairAt
  rw [List.getD_eq_getElem?_getD, h]; rfl
theorem run_indexT (ts : List Nat) (k n : Nat) (w : World) (h9 : ts.length = 9) (h : ts[k]? = some n) : (Instr.index 65 (aggT ts) (.int .i64 (k : Int))).run Try.prog w = .ok (.int .i64 (n : Int)) w := by
  have hk := get_lt h
  match ts, h9 with
  | [a0, a1, a2, a3, a4, a5, a6, a7, a8], _ =>
    match k, hk, h with
    | 0, _, h => cases h; rfl
    | 1, _, h => cases h; rfl
    | 2, _, h => cases h; rfl
    | 3, _, h => cases h; rfl
    | 4, _, h => cases h; rfl
    | 5, _, h => cases h; rfl
    | 6, _, h => cases h; rfl
    | 7, _, h => cases h; rfl
    | 8, _, h => cases h; rfl
    | j + 9, hk, _ => simp at hk; omega

set_option maxHeartbeats 1000000 in
theorem taOf_any (s : ByteArray) (w : World) (hs : s.size ≤ maxLen) :
    Calls Try.prog 58 #[.string s] w fun e w' => e = .returned (strOk (invO s.data.toList)) ∧ Below w.heap.size w w' := by
  cases hg : goodL s.data.toList with
  | false =>
    have hi : invO s.data.toList = none := by unfold invO; rw [if_neg (by rw [hg]; simp)]
    have HG := Lib.hid hg; have HI := Lib.hid hi; clear hg hi
    go_enter Try.func58, Try.ntmps58
    go_wp2_with fail
    refine (woGood_any s w hs).mono ?_
    rintro e w1 ⟨rfl, rfl⟩
    rw [HG.out]
    go_wp2_with fail
    go_ret2
    exact ⟨by rw [HI.out]; rfl, Below.refl _ _⟩
  | true =>
    obtain ⟨_, hl, hd⟩ := goodL_parts (s := s) hg
    obtain ⟨ts, hts⟩ : ∃ ts, ts = tal s.data.toList := ⟨_, rfl⟩
    have h9 : ts.length = 9 := by rw [hts]; exact tal_len _
    have h400 : ∀ n ∈ ts, n ≤ 400 := fun n hn => Nat.le_trans (tal_le _ n (by rw [← hts]; exact hn)) (by simpa using hl)
    have hio : invO s.data.toList = if okT ts = true then some (invK ts 9) else none := by
      unfold invO; rw [← hts, hg]; simp [invT]
    have HG := Lib.hid hg; have HIO := Lib.hid hio; have HTS := Lib.hid hts; have H4 := Lib.hid h400
    clear hg hio hts h400
    go_enter Try.func58, Try.ntmps58
    go_wp2_with fail
    refine (woGood_any s w hs).mono ?_
    rintro e w1 ⟨rfl, rfl⟩
    rw [HG.out]
    go_wp2_with fail
    refine (taCounts_any s w hl hd).mono ?_
    rintro e w1 ⟨g, rfl, ho, hb⟩
    rw [← HTS.out] at ho
    have HO := Lib.hid ho; have HB := Lib.hid hb
    have hgl : g < w1.heap.size := (ho.lt g rfl).2
    clear ho hb hd
    go_wp2_with fail
    go_loopw [4, 13] (fun o i wr => ∃ k : Nat, k ≤ 9 ∧ i = .int .i64 k ∧ o = .string (bs (invK ts k)) ∧ (bs (invK ts k)).size ≤ 2 * k ∧ Hid (okT (ts.take k) = true ∧ Below w1.heap.size w1 wr)) (fun _ i _ => 9 - (intOf i).toNat)
    case atStart => exact ⟨0, by omega, rfl, rfl, by simp [invK, bs_size], by simp [okT], below_refl _⟩
    case round =>
      obtain ⟨k, hk, rfl, rfl, hsz, HX⟩ := hrel
      by_cases hlt : k < 9
      · obtain ⟨n, hn⟩ : ∃ n, ts[k]? = some n := ⟨_, List.getElem?_eq_getElem (by omega)⟩
        have h4 : n ≤ 400 := H4.out n (List.mem_of_getElem? hn)
        have h1 : wr.cell? ⟨g, k, none⟩ = some (.int .i64 (n : Int)) := by
          rw [HX.out.2.cell (p := ⟨g, k, none⟩) hgl, HO.out.cellAt k (by omega)]
          simp [tvl, hn]
        have hnx := invK_next ts k n hn
        have hok := okT_take_succ ts k n hn
        have HNX := Lib.hid hnx; have HOK := Lib.hid hok
        clear hnx hok hn
        by_cases h9' : n ≤ 9
        · by_cases h0 : n = 0
          · subst h0
            have e0 : invK ts (k + 1) = invK ts k := by rw [HNX.out]; simp
            have E0 := Lib.hid e0; clear e0
            go_wp2_with fail
            go_roundw
            case rel =>
              refine ⟨k + 1, by omega, by go_num, by rw [E0.out], by rw [E0.out]; omega, ?_, HX.out.2⟩
              rw [HOK.out, HX.out.1]; rfl
            case measure => simp [intOf] <;> omega
          · have e0 : invK ts (k + 1) = invK ts k ++ (numL n ++ numL (k + 1)) := by rw [HNX.out, if_neg h0]
            have hs1 : (bs (numL n)).size = 1 := by rw [bs_size, numL_small n h9']; rfl
            have hs2 : (bs (numL (k + 1))).size = 1 := by rw [bs_size, numL_small (k + 1) (by omega)]; rfl
            have hn1 := fun (W : World) => l1Num_any n (n : Int) W (by omega) (by omega) (by omega)
            have hn2 := fun (W : World) => l1Num_any (k + 1) ((k : Int) + 1) W (by omega) (by omega) (by omega)
            rw [show ((n : Int)).toNat = n from by omega] at hn1
            rw [show ((k : Int) + 1).toNat = k + 1 from by omega] at hn2
            have E0 := Lib.hid e0; have H1 := Lib.hid hn1; have H2 := Lib.hid hn2; clear e0 hn1 hn2
            go_wp2_with fail
            refine (H1.out _).mono ?_
            rintro e w2 ⟨rfl, hb2⟩
            have HB2 := Lib.hid hb2; clear hb2
            go_wp2_with fail
            refine (H2.out _).mono ?_
            rintro e w3 ⟨rfl, hb3⟩
            have HB3 := Lib.hid hb3; clear hb3
            go_wp2_with fail
            go_roundw
            case rel =>
              refine ⟨k + 1, by omega, by go_num, ?_, ?_, ?_, below_trans HX.out.2 (below_trans HB2.out HB3.out)⟩
              · rw [E0.out, ← bs_append, ← bs_append]
              · rw [E0.out, ← bs_append, ← bs_append]; simp only [ByteArray.size_append]; omega
              · rw [HOK.out, HX.out.1]; simpa using h9'
            case measure => simp [intOf] <;> omega
        · have hf : okT ts = false := okT_false (k := k + 1) (by rw [HOK.out]; simp; intro _; omega)
          have HF := Lib.hid hf; clear hf
          go_wp2_with fail
          go_ret2
          exact ⟨by rw [HIO.out, HF.out]; rfl, HB.out.trans (HX.out.2.mono HB.out.size)⟩
      · obtain rfl : k = 9 := by omega
        go_wp2_with fail
        go_ret2
        refine ⟨?_, HB.out.trans (HX.out.2.mono HB.out.size)⟩
        have := HX.out.1
        rw [List.take_of_length_le (by omega)] at this
        rw [HIO.out, if_pos this]; rfl

set_option maxHeartbeats 2000000 in
theorem inventory_any (ts : List Nat) (w : World) (h9 : ts.length = 9) (h400 : ∀ n ∈ ts, n ≤ 400) :
    Calls Try.prog 57 #[aggT ts] w fun e w' => e = .returned (strOk (if okT ts = true then some (invK ts 9) else none)) ∧ Below w.heap.size w w' := by
  obtain ⟨i0, hi, hz0, hz1, hz2⟩ := info_parts info_byte
  have hix := fun (W : World) (k n : Nat) => run_indexT ts k n W h9
  obtain ⟨R, hR⟩ : ∃ R, R = (if okT ts = true then some (invK ts 9) else none) := ⟨_, rfl⟩
  rw [← hR]
  have H4 := Lib.hid h400; have HIX := Lib.hid hix; have HR := Lib.hid hR
  clear h400 hix hR
  have hagg : aggT ts = .agg (tvA ts) := rfl
  rw [hagg]
  go_enter Try.func57, Try.ntmps57
  go_wp2_with (first
    | (refine wpList_make_own _ rfl _ _ 22 rfl w.heap.size 5 i0 (.int .u8 0) 1 Try.underlying22 hi hz0 hz1 .i64 .i64 18 18 rfl rfl rfl (by rw [hz2]; omega) (by unfold maxLen; omega) (by simp) ?_; intro w1 hown hgr)
    | (refine wpList_getT rfl _ rfl w.heap.size rfl ts ⟨(hgr.block _ (by simp) (by simp)).trans (heap_alloc_new _ _), h9⟩ ?_))
  have HO := Lib.hid hown; have HB := Lib.hid (((Below.refl w.heap.size w).alloc (Nat.le_refl _) _).grown hgr (by simp) (fun k h => by cases h))
  clear hown hgr
  go_loopw [4, 9] (fun tv i wr => ∃ (k : Nat) (t : List UInt8), k ≤ 9 ∧ i = .int .i64 k ∧ t.length ≤ 2 * k ∧ (∃ a c, tv = .slice a t.length c) ∧ Hid (t = invK ts k ∧ okT (ts.take k) = true ∧ wr.ownsRow w.heap.size 5 1 tv t.length (u8s t) ∧ Below w.heap.size w wr)) (fun _ i _ => 9 - (intOf i).toNat)
  case atStart => exact ⟨0, [], by omega, rfl, by simp, ⟨_, _, rfl⟩, rfl, by simp [okT], by have := HO.out; rw [Go.Deep.nblk_alloc] at this; exact this, HB.out⟩
  case round =>
    obtain ⟨k, t, hk, rfl, ht, ⟨av, cv, rfl⟩, HX⟩ := hrel
    by_cases hlt : k < 9
    · obtain ⟨n, hn⟩ : ∃ n, ts[k]? = some n := ⟨_, List.getElem?_eq_getElem (by omega)⟩
      have h4 : n ≤ 400 := H4.out n (List.mem_of_getElem? hn)
      have hid : ∀ W, (Instr.index 65 (.agg (tvA ts)) (.int .i64 (k : Int))).run Try.prog W = .ok (.int .i64 (n : Int)) W := fun W => HIX.out W k n hn
      have hnx := invK_next ts k n hn
      have hok := okT_take_succ ts k n hn
      have HNX := Lib.hid hnx; have HOK := Lib.hid hok
      clear hnx hok hn
      by_cases h9' : n ≤ 9
      · by_cases h0 : n = 0
        · subst h0
          have e0 : invK ts (k + 1) = invK ts k := by rw [HNX.out]; simp
          have E0 := Lib.hid e0; clear e0
          go_wp2_with fail
          go_roundw
          case rel =>
            refine ⟨k + 1, t, by omega, by go_num, by omega, ⟨_, _, rfl⟩, by rw [E0.out]; exact HX.out.1, ?_, HX.out.2.2⟩
            rw [HOK.out, HX.out.2.1]; rfl
          case measure => simp [intOf] <;> omega
        · have e0 : invK ts (k + 1) = invK ts k ++ [UInt8.ofNat (48 + n), UInt8.ofNat (48 + (k + 1))] := by rw [HNX.out, if_neg h0, numL_small n h9', numL_small (k + 1) (by omega)]; rfl
          have E0 := Lib.hid e0; clear e0
          go_wp2_with fail
          refine (signOf_is _ _ (by omega) (by omega)).mono ?_
          rintro e w2 ⟨rfl, rfl⟩
          go_wp2_with fail
          refine (signOf_is _ _ (by omega) (by omega)).mono ?_
          rintro e w2 ⟨rfl, rfl⟩
          go_wp2_with (at_builtin; refine wpList_app _ rfl _ _ 22 rfl w.heap.size 5 i0 (.int .u8 0) 1 Try.underlying22 hi hz0 hz1 hz2 rfl _ t.length (u8s t) rfl (HX.out.2.2.1.alloc _) ⟨wr.heap.size, 0, none⟩ 2 2 [.int .u8 (48 + (n : Int)), .int .u8 (48 + ((k : Int) + 1))] rfl rfl ?c1 ?c2 ?c3 ?c4 ?c5 ?_)
          case c1 =>
            intro j u hj
            match j, hj with
            | 0, hj => simp at hj; subst hj; simp [Addr.add]
            | 1, hj => simp at hj; subst hj; simp [Addr.add]
          case c2 => intro u hu; simp at hu; rcases hu with rfl | rfl <;> rfl
          case c3 => unfold maxLen; omega
          case c4 => omega
          case c5 => have := HX.out.2.2.2.size; simp; omega
          intro v' w3 hown' hgrow _
          obtain ⟨av', cv', rfl⟩ := own_slice hown'
          have R1 := Lib.hid hown'
          have R2 := Lib.hid ((HX.out.2.2.2.alloc HX.out.2.2.2.size _).grown hgrow (by have := HX.out.2.2.2.size; simp; omega) (fun q hq => (HX.out.2.2.1.lt q hq).1))
          clear hown' hgrow
          go_wp2_with fail
          go_roundw
          case rel =>
            refine ⟨k + 1, t ++ [UInt8.ofNat (48 + n), UInt8.ofNat (48 + (k + 1))], by omega, by go_num, by simp; omega, ⟨av', cv', by simp⟩, by rw [E0.out, ← HX.out.1], ?_, ?_, R2.out⟩
            · rw [HOK.out, HX.out.2.1]; simpa using h9'
            · have := R1.out
              have e5 : u8s (t ++ [UInt8.ofNat (48 + n), UInt8.ofNat (48 + (k + 1))]) = u8s t ++ [.int .u8 (48 + (n : Int)), .int .u8 (48 + ((k : Int) + 1))] := by
                simp only [u8s, List.map_append, List.map_cons, List.map_nil]
                rw [show (UInt8.ofNat (48 + n)).toNat = 48 + n from by simp; omega, show (UInt8.ofNat (48 + (k + 1))).toNat = 48 + (k + 1) from by simp; omega]
                simp
              rw [e5]
              simpa using this
          case measure => simp [intOf] <;> omega
      · have hf : okT ts = false := okT_false (k := k + 1) (by rw [HOK.out]; simp; intro _; omega)
        have HF := Lib.hid hf; clear hf
        go_wp2_with fail
        go_ret2
        exact ⟨by rw [HR.out, HF.out]; rfl, HX.out.2.2.2⟩
    · obtain rfl : k = 9 := by omega
      have hconv := conv_own HX.out.2.2.1
      go_wp2_with fail
      go_ret2
      refine ⟨?_, HX.out.2.2.2⟩
      have := HX.out.2.1
      rw [List.take_of_length_le (by omega)] at this
      rw [HR.out, if_pos this, HX.out.1]; rfl

theorem specInventoryOf_any (s : ByteArray) (w : World) (hs : s.size ≤ maxLen) :
    Calls Try.prog 14 #[.string s] w fun e w' => e = .returned (strOk (invO s.data.toList)) ∧ Below w.heap.size w w' := by
  have hso : ∃ (x : ByteArray) (y : Bool), strOk (invO s.data.toList) = .tuple #[.string x, .bool y] := by cases invO s.data.toList <;> exact ⟨_, _, rfl⟩
  obtain ⟨x, y, hxy⟩ := hso
  have H := fun W => taOf_any s W hs
  rw [hxy] at H ⊢
  clear hxy
  go_enter Try.func14, Try.ntmps14
  go_wp2_with fail
  refine (H w).mono ?_
  rintro e w1 ⟨rfl, hb⟩
  have HB := Lib.hid hb; clear hb
  go_wp2_with fail
  go_ret2
  exact ⟨rfl, HB.out⟩

theorem implInventoryOf_any (s : ByteArray) (w : World) (hs : s.size ≤ maxLen) :
    Calls Try.prog 13 #[.string s] w fun e w' => e = .returned (strOk (invO s.data.toList)) ∧ Below w.heap.size w w' := by
  cases hg : goodL s.data.toList with
  | false =>
    have hi : invO s.data.toList = none := by unfold invO; rw [if_neg (by rw [hg]; simp)]
    have HG := Lib.hid hg; have HI := Lib.hid hi; clear hg hi
    go_enter Try.func13, Try.ntmps13
    go_wp2_with fail
    refine (implIsWord_any s w hs).mono ?_
    rintro e w1 ⟨rfl, rfl⟩
    rw [HG.out]
    go_wp2_with fail
    go_ret2
    exact ⟨by rw [HI.out]; rfl, Below.refl _ _⟩
  | true =>
    obtain ⟨_, hl, hd⟩ := goodL_parts (s := s) hg
    have hio : invO s.data.toList = if okT (tal s.data.toList) = true then some (invK (tal s.data.toList) 9) else none := by
      unfold invO; rw [hg]; simp [invT]
    have hiv := fun W => inventory_any (tal s.data.toList) W (tal_len _) (fun n hn => Nat.le_trans (tal_le _ n hn) (by simpa using hl))
    rw [← hio] at hiv
    have hso : ∃ (x : ByteArray) (y : Bool), strOk (invO s.data.toList) = .tuple #[.string x, .bool y] := by cases invO s.data.toList <;> exact ⟨_, _, rfl⟩
    obtain ⟨x, y, hxy⟩ := hso
    rw [hxy] at hiv ⊢
    have HG := Lib.hid hg; have HIV := Lib.hid hiv; clear hg hio hiv hxy
    go_enter Try.func13, Try.ntmps13
    go_wp2_with fail
    refine (implIsWord_any s w hs).mono ?_
    rintro e w1 ⟨rfl, rfl⟩
    rw [HG.out]
    go_wp2_with fail
    refine (tallyText_any s w hl hd).mono ?_
    rintro e w1 ⟨rfl, hb⟩
    have HB := Lib.hid hb; clear hb
    go_wp2_with fail
    refine (HIV.out w1).mono ?_
    rintro e w2 ⟨rfl, hb⟩
    have HB2 := Lib.hid hb; clear hb
    go_wp2_with fail
    go_ret2
    exact ⟨rfl, below_trans HB.out HB2.out⟩
end Go.Proofs.Ytkdoghopbefjfaa
