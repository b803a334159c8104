/- Chapter 9: signs that texts have in common, on both sides. -/
import Derived.Test.YtplcdofpikdigaaDoorog
namespace Go.Proofs.YtplcdofpikdigaaDoor
open Go.RowKit Go.BigFrame
set_option linter.unusedSimpArgs false
set_option linter.unusedVariables false
set_option maxRecDepth 4000
attribute [local irreducible] wpStill wpAny

/-- The sign at a place that the first m texts have in common. -/
def sgnC (L : List (List UInt8)) (i m : Nat) : UInt8 := if ((L.take m).all fun s => s.getD i 0 == (L.headD []).getD i 0) = true then (L.headD []).getD i 0 else 46
def comL (L : List (List UInt8)) : List UInt8 := (List.range (L.headD []).length).map fun i => sgnC L i L.length
theorem sgnC_zero (L : List (List UInt8)) (i : Nat) : sgnC L i 0 = (L.headD []).getD i 0 := by simp [sgnC]
theorem sgnC_succ (L : List (List UInt8)) (i m : Nat) (h : m < L.length) : sgnC L i (m + 1) = if (L.getD m []).getD i 0 = sgnC L i m then sgnC L i m else 46 := by
  have e : L.getD m [] = L[m] := by simp [List.getD, h]
  unfold sgnC
  rw [List.take_succ_eq_append_getElem h, List.all_append, e]
  simp only [List.all_cons, List.all_nil, Bool.and_true]
  by_cases ha : ((L.take m).all fun s => s.getD i 0 == (L.headD []).getD i 0) = true
  · rw [if_pos ha]
    simp only [ha, Bool.true_and, beq_iff_eq]
  · rw [if_neg ha]
    have : ((L.take m).all fun s => s.getD i 0 == (L.headD []).getD i 0) = false := by simpa using ha
    simp only [this, Bool.false_and, Bool.false_eq_true, if_false]
    split <;> rfl
/-- A text that differs decides. -/
theorem sgnC_bad (L : List (List UInt8)) (i m : Nat) (h : m < L.length) (hb : (L.getD m []).getD i 0 ≠ (L.headD []).getD i 0) : sgnC L i L.length = 46 := by
  have e : L.getD m [] = L[m] := by simp [List.getD, h]
  unfold sgnC
  rw [List.take_length, if_neg]
  intro ha
  have := List.all_eq_true.1 ha _ (List.getElem_mem h)
  rw [e] at hb
  exact hb (by simpa using this)
theorem sgnC_good (L : List (List UInt8)) (i m : Nat) (hg : ∀ j, j < m → (L.getD j []).getD i 0 = (L.headD []).getD i 0) : sgnC L i m = (L.headD []).getD i 0 := by
  unfold sgnC
  rw [if_pos]
  rw [List.all_eq_true]
  intro s hs
  obtain ⟨j, hj, rfl⟩ := List.getElem_of_mem hs
  rw [List.getElem_take]
  have hj2 : j < m ∧ j < L.length := by rw [List.length_take] at hj; omega
  have := hg j hj2.1
  have e : L.getD j [] = L[j] := by simp [List.getD, hj2.2]
  rw [e] at this
  simpa using this
theorem extract_one (l : List UInt8) (i : Nat) (h : i < l.length) : (bs l).extract i (i + 1) = bs [l.getD i 0] := by
  apply bs_eq
  rw [list_extract, bs_list, show i + 1 - i = 1 by omega, List.drop_eq_getElem_cons h, getD_lt h]
  rfl

/-- Texts of one length that may be read. -/
structure TxtsR (w : World) (g N n : Nat) (L : List (List UInt8)) : Prop where
  cell : ∀ j, j < N → w.cell? ⟨g, j, none⟩ = some (.string (bs (L.getD j [])))
  len : ∀ j, j < N → (L.getD j []).length = n
  lt : g < w.heap.size
theorem TxtsR.below {w w' : World} {g N n : Nat} {L : List (List UInt8)} (h : TxtsR w g N n L) (hb : Below w.heap.size w w') : TxtsR w' g N n L := ⟨fun j hj => (hb.cell (p := ⟨g, j, none⟩) h.lt).trans (h.cell j hj), h.len, Nat.lt_of_lt_of_le h.lt hb.size⟩

set_option maxHeartbeats 4000000 in
theorem pzSure_any (L : List (List UInt8)) (g N n c : Nat) (w : World) (hN : N = L.length) (h1 : 1 ≤ N) (hN2 : N ≤ 1000) (hn : n ≤ 1000) (hT : TxtsR w g N n L) :
    Calls Tryd.prog 36 #[.slice (some ⟨g, 0, none⟩) N c] w fun e w' => e = .returned (.string (bs (comL L))) ∧ Below w.heap.size w w' := by
  have h0 := hT.cell 0 (by omega)
  have hl0 := hT.len 0 (by omega)
  obtain ⟨t0, ht0⟩ : ∃ t0, t0 = bs (L.getD 0 []) := ⟨_, rfl⟩
  have htn : t0.size = n := by rw [ht0, bs_size, hl0]
  rw [← ht0] at h0
  obtain ⟨R, hR⟩ : ∃ R, R = bs (comL L) := ⟨_, rfl⟩
  rw [← hR]
  have HT := Lib.hid hT; have HR := Lib.hid hR; have HT0 := Lib.hid ht0; have HN := Lib.hid hN
  clear hT hR ht0 hN hl0
  go_enter Tryd.func36, Tryd.ntmps36
  go_wp2_with fail
  go_loop [3, 4] (fun ov iv => ∃ (i : Nat) (o : ByteArray), i ≤ n ∧ iv = .int .i64 (i : Int) ∧ ov = .string o ∧ o.size = i ∧ Hid (o = bs ((List.range i).map fun k => sgnC L k L.length))) (fun _ iv => n - (intOf iv).toNat)
  case atStart => exact ⟨0, ⟨#[]⟩, Nat.zero_le _, rfl, rfl, rfl, rfl⟩
  case round =>
    obtain ⟨i, o, hi, rfl, rfl, hos, HO⟩ := hrel
    have hNz : (0 : Int) < (N : Int) := by omega
    by_cases hlt : i < n
    · obtain ⟨x, hx⟩ : ∃ x, x = (L.headD []).getD i 0 := ⟨_, rfl⟩
      obtain ⟨tx, htx⟩ : ∃ tx, tx = bs [x] := ⟨_, rfl⟩
      have hhd : L.getD 0 [] = L.headD [] := by cases L <;> rfl
      have hl0 := HT.out.len 0 (by omega)
      have hex0 : t0.extract i (i + 1) = tx := by
        rw [HT0.out, extract_one _ i (by rw [hl0]; exact hlt), htx, hx, hhd]
      have f1 : (i : Int) ≤ (i : Int) + 1 := by omega
      have f2 : (i : Int) + 1 ≤ (n : Int) := by omega
      have f3 : (0 : Int) ≤ (i : Int) := by omega
      have HX := Lib.hid hx; have HTX := Lib.hid htx
      have htxs : tx.size = 1 := by rw [htx, bs_size]; rfl
      clear hx htx hhd hl0
      have hadd : ¬ 9223372036854775807 < i + 1 := by omega
      have hdot : (⟨#[46]⟩ : ByteArray) = bs [46] := rfl
      go_wp2_with fail
      go_loop [5, 25] (fun sv jv => ∃ j : Nat, j ≤ N ∧ jv = .int .i64 (j : Int) ∧ sv = .string tx ∧ Hid (∀ k, k < j → (L.getD k []).getD i 0 = (L.headD []).getD i 0)) (fun _ jv => N - (intOf jv).toNat)
      case atStart => exact ⟨0, Nat.zero_le _, rfl, rfl, fun k hk => by omega⟩
      case round =>
        obtain ⟨j, hj, rfl, rfl, HG⟩ := hrel
        by_cases hjN : j < N
        · have hcj := HT.out.cell j hjN
          have hlj := HT.out.len j hjN
          obtain ⟨y, hy⟩ : ∃ y, y = (L.getD j []).getD i 0 := ⟨_, rfl⟩
          obtain ⟨tj, htj⟩ : ∃ tj, tj = bs (L.getD j []) := ⟨_, rfl⟩
          obtain ⟨ty, hty⟩ : ∃ ty, ty = bs [y] := ⟨_, rfl⟩
          have htjs : tj.size = n := by rw [htj, bs_size, hlj]
          have hexj : tj.extract i (i + 1) = ty := by rw [htj, extract_one _ i (by rw [hlj]; exact hlt), hty, hy]
          rw [← htj] at hcj
          have hcmp : (ty.toList == tx.toList) = decide (y = x) := by
            rw [hty, HTX.out, toList_bs, toList_bs, Bool.eq_iff_iff]; simp
          have HY := Lib.hid hy
          clear hlj htj hty hy
          by_cases hyx : y = x
          · have hcmp2 : (ty.toList == tx.toList) = true := by rw [hcmp]; simpa using hyx
            have HG2 : Hid (∀ k, k < j + 1 → (L.getD k []).getD i 0 = (L.headD []).getD i 0) := Lib.hid (fun k hk => by
              by_cases hkj : k < j
              · exact HG.out k hkj
              · have e : k = j := by omega
                rw [e, ← HY.out, hyx, HX.out])
            clear hcmp hyx
            go_wp2_with fail
            go_round
            case rel => exact ⟨j + 1, by omega, by go_num, rfl, HG2.out⟩
            case measure => simp [intOf] <;> omega
          · have hcmp2 : (ty.toList == tx.toList) = false := by rw [hcmp]; simpa using hyx
            have HNEXT : Hid (o ++ bs [46] = bs ((List.range (i + 1)).map fun k => sgnC L k L.length)) := Lib.hid (by
              rw [HO.out, bs_append, List.range_succ, List.map_append, List.map_singleton, sgnC_bad L i j (by rw [← HN.out]; exact hjN) (by rw [← HY.out, ← HX.out]; exact hyx)])
            have hsgs : (bs [46]).size = 1 := by rw [bs_size]; rfl
            clear hcmp hyx
            go_wp2_with fail
            exact ⟨⟨i + 1, _, by omega, by go_num, rfl, by rw [ByteArray.size_append, hos, hsgs], HNEXT.out⟩, by simp [intOf]; omega⟩
        · have HNEXT : Hid (o ++ tx = bs ((List.range (i + 1)).map fun k => sgnC L k L.length)) := Lib.hid (by
            rw [HO.out, HTX.out, bs_append, List.range_succ, List.map_append, List.map_singleton, sgnC_good L i L.length (fun k hk => HG.out k (by rw [HN.out] at hj hjN; omega)), ← HX.out])
          have hsgs := htxs
          go_wp2_with fail
          exact ⟨⟨i + 1, _, by omega, by go_num, rfl, by rw [ByteArray.size_append, hos, hsgs], HNEXT.out⟩, by simp [intOf]; omega⟩
    · have HF : Hid (o = R) := Lib.hid (by
        rw [HO.out, HR.out]
        unfold comL
        have hl0 := HT.out.len 0 (by omega)
        have hhd : L.getD 0 [] = L.headD [] := by cases L <;> rfl
        rw [← hhd, hl0, show i = n by omega])
      go_wp2_with fail
      go_ret
      exact ⟨ret_str HF.out, Below.refl _ _⟩

def mixC (L : List (List UInt8)) (n m k : Nat) : List UInt8 := (List.range n).map fun i => if i < k then sgnC L i (m + 1) else sgnC L i m
theorem mixC_len (L : List (List UInt8)) (n m k : Nat) : (mixC L n m k).length = n := by simp [mixC]
theorem mixC_at (L : List (List UInt8)) (n m k i : Nat) (h : i < n) : (mixC L n m k)[i]'(by rw [mixC_len]; exact h) = if i < k then sgnC L i (m + 1) else sgnC L i m := by simp [mixC]
theorem mixC_zero (L : List (List UInt8)) (n m : Nat) : mixC L n m 0 = (List.range n).map fun i => sgnC L i m := by simp [mixC]
theorem mixC_all (L : List (List UInt8)) (n m : Nat) : mixC L n m n = mixC L n (m + 1) 0 := by
  unfold mixC
  apply List.map_congr_left
  intro i hi
  rw [List.mem_range] at hi
  rw [if_pos hi, if_neg (Nat.not_lt_zero _)]
theorem mixC_set (L : List (List UInt8)) (n m k : Nat) (h : k < n) (v : UInt8) (hv : sgnC L k (m + 1) = v) : (mixC L n m k).set k v = mixC L n m (k + 1) := by
  apply List.ext_getElem
  · simp [mixC]
  · intro i h1 h2
    rw [mixC_len] at h2
    rw [mixC_at L n m (k + 1) i h2]
    by_cases e : i = k
    · subst e
      rw [List.getElem_set_self, if_pos (Nat.lt_succ_self _), hv]
    · rw [List.getElem_set_ne (fun e' => e e'.symm), mixC_at L n m k i h2]
      by_cases hik : i < k
      · rw [if_pos hik, if_pos (by omega)]
      · rw [if_neg hik, if_neg (by omega)]
theorem mixC_keep (L : List (List UInt8)) (n m k : Nat) (h : k < n) (hv : sgnC L k (m + 1) = sgnC L k m) : mixC L n m (k + 1) = mixC L n m k := by
  unfold mixC
  apply List.map_congr_left
  intro i hi
  by_cases e : i = k
  · subst e; rw [if_pos (Nat.lt_succ_self _), if_neg (Nat.lt_irrefl _), hv]
  · by_cases hik : i < k
    · rw [if_pos hik, if_pos (by omega)]
    · rw [if_neg hik, if_neg (by omega)]

set_option maxHeartbeats 4000000 in
theorem commonSigns_any (L : List (List UInt8)) (g N n c : Nat) (w : World) (hN : N = L.length) (h1 : 1 ≤ N) (hN2 : N ≤ 1000) (hn : n ≤ 1000) (hT : TxtsR w g N n L) :
    Calls Tryd.prog 37 #[.slice (some ⟨g, 0, none⟩) N c] w fun e w' => e = .returned (.tuple #[.string (bs (comL L)), .bool true]) ∧ Below w.heap.size w w' := by
  have h0 := hT.cell 0 (by omega)
  have hl0 := hT.len 0 (by omega)
  obtain ⟨t0, ht0⟩ : ∃ t0, t0 = bs (L.getD 0 []) := ⟨_, rfl⟩
  have htn : t0.size = n := by rw [ht0, bs_size, hl0]
  have htm : t0.size ≤ maxLen := by rw [htn]; unfold maxLen; omega
  rw [← ht0] at h0
  obtain ⟨R, hR⟩ : ∃ R, R = bs (comL L) := ⟨_, rfl⟩
  rw [← hR]
  have hhd : L.getD 0 [] = L.headD [] := by cases L <;> rfl
  have hnz : ((N : Int) == 0) = false := by simp; omega
  have hN0 : (0 : Int) < (N : Int) := by omega
  have HT := Lib.hid hT; have HR := Lib.hid hR; have HT0 := Lib.hid ht0; have HN := Lib.hid hN; have HHD := Lib.hid hhd; have HL0 := Lib.hid hl0
  clear hT hR ht0 hN hl0 hhd
  go_enter Tryd.func37, Tryd.ntmps37
  go_wp2_with (refine wpList_bytes _ rfl 9 52 _ rfl 5 Tryd.underlying9 Tryd.underlying52 Tryd.underlying5 t0 rfl htm ?_; intro w2 cap hb2 hsz2 hcap hcm hcell hfr)
  have HQ : Hid (BytQ w2 w.heap.size (mixC L n 0 0)) := Lib.hid (by
    refine ⟨fun i h => ?_, fun i h => hfr i (by rw [mixC_len] at h; omega)⟩
    have h' : i < n := by rw [mixC_len] at h; exact h
    rw [hcell i (by omega), mixC_at L n 0 0 i h', if_neg (Nat.not_lt_zero _), sgnC_zero, ← HHD.out]
    have e : ∀ (t : ByteArray) (h2 : i < t.size), t = bs (L.getD 0 []) → t[i] = (L.getD 0 []).getD i 0 := fun t h2 e => by subst e; rw [getD_lt (by rw [bs_size] at h2; exact h2)]; rfl
    rw [e t0 (by omega) HT0.out])
  have HB2 := Lib.hid hb2
  have hcap2 : n ≤ cap := by omega
  unfold maxLen at hcm
  clear hcell hfr hb2 h0 htm hcap
  go_wp2_with fail
  go_loopw [17] (fun iv wr => ∃ m : Nat, m ≤ N ∧ iv = .int .i64 (m : Int) ∧ Hid (BytQ wr w.heap.size (mixC L n m 0) ∧ Below w.heap.size w wr ∧ w.heap.size < wr.heap.size)) (fun iv _ => N - (intOf iv).toNat)
  case atStart => exact ⟨0, Nat.zero_le _, rfl, HQ.out, HB2.out, hsz2⟩
  case round =>
    obtain ⟨m, hm, rfl, HX⟩ := hrel
    by_cases hmN : m < N
    · obtain ⟨tm, htm⟩ : ∃ tm, tm = bs (L.getD m []) := ⟨_, rfl⟩
      have hcm2 := (HT.out.below HX.out.2.1).cell m hmN
      have hlm := HT.out.len m hmN
      have htms : tm.size = n := by rw [htm, bs_size, hlm]
      have htmk : ∀ k (h : k < tm.size), tm[k] = (L.getD m []).getD k 0 := fun k h => by
        subst htm; rw [getD_lt (by rw [bs_size] at h; exact h)]; rfl
      rw [← htm] at hcm2
      have HTM := Lib.hid htmk
      clear htm hlm htmk
      go_wp2_with fail
      clear hcm2
      go_loopw [23] (fun jv wr => ∃ k : Nat, k ≤ n ∧ jv = .int .i64 (k : Int) ∧ Hid (BytQ wr w.heap.size (mixC L n m k) ∧ Below w.heap.size w wr ∧ w.heap.size < wr.heap.size)) (fun jv _ => n - (intOf jv).toNat)
      case atStart => exact ⟨0, Nat.zero_le _, rfl, HX.out⟩
      case round =>
        obtain ⟨k, hk, rfl, HY⟩ := hrel
        by_cases hkn : k < n
        · obtain ⟨y, hy⟩ : ∃ y, y = (L.getD m []).getD k 0 := ⟨_, rfl⟩
          obtain ⟨z, hz⟩ : ∃ z, z = sgnC L k m := ⟨_, rfl⟩
          have hkt : k < tm.size := by omega
          have ey : tm[k] = y := by rw [hy]; exact HTM.out k hkt
          have hkl : k < (mixC L n m k).length := by rw [mixC_len]; exact hkn
          have cz := HY.out.1.cell k hkl
          have fz := HY.out.1.free k hkl
          rw [mixC_at L n m k k hkn, if_neg (Nat.lt_irrefl _), ← hz] at cz
          have hsc := sgnC_succ L k m (by rw [← HN.out]; exact hmN)
          rw [← hy, ← hz] at hsc
          have hkc : k < cap := by omega
          have HZ := Lib.hid hz; have HSC := Lib.hid hsc
          clear hy hz hkl hsc
          have hkB : k < cap := hkc
          by_cases hyz : y = z
          · have hcb : ((y.toNat : Int) != (z.toNat : Int)) = false := by rw [hyz]; simp
            have HK : Hid (mixC L n m (k + 1) = mixC L n m k) := Lib.hid (mixC_keep L n m k hkn (by rw [HSC.out, if_pos hyz, HZ.out]))
            clear hyz
            go_wp2_with fail
            refine wp_region_still_lit (by kernel_rfl) (by kernel_rfl) ?_
            repeat still_step
            refine wpStill_nil ?_
            change (Exit.then _ _) Exit.normal _ wr.drew
            have HY2 : Hid (BytQ wr.drew w.heap.size (mixC L n m k) ∧ Below w.heap.size w wr.drew ∧ w.heap.size < wr.drew.heap.size) := Lib.hid ⟨⟨fun i h => HY.out.1.cell i h, fun i h => HY.out.1.free i h⟩, HY.out.2.1.drew, HY.out.2.2⟩
            clear cz fz
            generalize wr.drew = w2 at *
            go_wp2_with fail
            go_roundw
            case rel => exact ⟨k + 1, by omega, by go_num, by rw [HK.out]; exact HY2.out⟩
            case measure => simp [intOf] <;> omega
          · have hcb : ((y.toNat : Int) != (z.toNat : Int)) = true := by
              simp only [bne_iff_ne, ne_eq]
              intro h; exact hyz (UInt8.toNat_inj.1 (by omega))
            have HK : Hid ((mixC L n m k).set k 46 = mixC L n m (k + 1)) := Lib.hid (mixC_set L n m k hkn 46 (by rw [HSC.out, if_neg hyz]))
            clear hyz
            go_wp2_with fail
            refine wp_region_still_lit (by kernel_rfl) (by kernel_rfl) ?_
            repeat still_step
            refine wpStill_nil ?_
            change (Exit.then _ _) Exit.normal _ wr.drew
            have HY2 : Hid (BytQ wr.drew w.heap.size (mixC L n m k) ∧ Below w.heap.size w wr.drew ∧ w.heap.size < wr.drew.heap.size) := Lib.hid ⟨⟨fun i h => HY.out.1.cell i h, fun i h => HY.out.1.free i h⟩, HY.out.2.1.drew, HY.out.2.2⟩
            have cz2 : wr.drew.cell? ⟨w.heap.size, k, none⟩ = some (.int .u8 (z.toNat : Int)) := cz
            have fz2 : wr.drew.frozen? ⟨w.heap.size, k, none⟩ = false := fz
            clear cz fz
            generalize wr.drew = w2 at *
            go_wp2_with fail
            go_roundw
            case rel => exact ⟨k + 1, by omega, by go_num, by
              have h := bytQ_set HY2.out.1 k 46
              rw [HK.out] at h
              exact ⟨h, HY2.out.2.1.setCell (p := ⟨w.heap.size, k, none⟩) (Nat.le_refl _) _, by rw [World.size_setCell]; exact HY2.out.2.2⟩⟩
            case measure => simp [intOf] <;> omega
        · have hkn2 : k = n := by omega
          subst hkn2
          have HNX := Lib.hid (mixC_all L k m)
          go_wp2_with fail
          go_roundw
          case rel => exact ⟨m + 1, by omega, by go_num, by rw [← HNX.out]; exact HY.out⟩
          case measure => simp [intOf] <;> omega
    · have hmN2 : m = N := by omega
      subst hmN2
      have hcv := conv_bytQ (cap := cap) HX.out.1
      have hcl : bs (mixC L n m 0) = R := by
        rw [HR.out, mixC_zero, HN.out]
        unfold comL
        rw [← HHD.out, HL0.out]
      rw [hcl, mixC_len] at hcv
      have HB := Lib.hid HX.out.2.1
      clear HX hcl
      go_wp2_with fail
      go_ret2
      exact ⟨rfl, HB.out⟩
end Go.Proofs.YtplcdofpikdigaaDoor
