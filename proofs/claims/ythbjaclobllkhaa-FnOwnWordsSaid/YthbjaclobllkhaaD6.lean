/- WordOfLengths: pure, the model's. -/
import Derived.Test.YthbjaclobllkhaaI11
import Derived.Test.YthbjaclobllkhaaA3
namespace Go.Proofs.Ythbjaclobllkhaa
open Go.RowKit Go.BigFrame
set_option linter.unusedSimpArgs false
set_option linter.unusedVariables false
set_option maxRecDepth 4000

def dOk (d : Int) : Bool := decide (1 ≤ d ∧ d ≤ 9)
def twoD (a b : Int) : Bool := dOk a && dOk b && decide (a ≠ b)
theorem twoD_iff {a b : Int} : twoD a b = true ↔ (1 ≤ a ∧ a ≤ 9) ∧ (1 ≤ b ∧ b ≤ 9) ∧ a ≠ b := by
  unfold twoD dOk
  simp only [Bool.and_eq_true, decide_eq_true_eq, and_assoc]
def alt (a b : Int) (k : Nat) : Int := if k % 2 = 1 then b else a
theorem alt_mem (a b : Int) (k : Nat) : alt a b k = a ∨ alt a b k = b := by unfold alt; split <;> simp
theorem alt_ne {a b : Int} (h : a ≠ b) (k : Nat) : alt a b (k + 1) ≠ alt a b k := by
  unfold alt
  rcases Nat.mod_two_eq_zero_or_one k with e | e
  · rw [if_pos (by omega), if_neg (by omega)]; exact fun e => h e.symm
  · rw [if_neg (by omega), if_pos e]; exact h
theorem alt_swap (a b : Int) (k : Nat) : alt b a k = alt a b (k + 1) := by
  unfold alt
  rcases Nat.mod_two_eq_zero_or_one k with e | e
  · rw [if_neg (by omega), if_pos (by omega)]
  · rw [if_pos e, if_neg (by omega)]
def lenN (l : List UInt8) (k : Nat) : Nat := (l.getD k 0).toNat - 48
def rowsW (l : List UInt8) (a b : Int) (k : Nat) : List (List Int) := (List.range k).map fun i => [alt a b i, (lenN l i : Int)]
def flatW (l : List UInt8) (a b : Int) : Nat → List UInt8
  | 0 => []
  | k + 1 => flatW l a b k ++ List.replicate (lenN l k) (dgw (alt a b k))
theorem rowsW_succ (l : List UInt8) (a b : Int) (k : Nat) : rowsW l a b (k + 1) = rowsW l a b k ++ [[alt a b k, (lenN l k : Int)]] := by
  simp [rowsW, List.range_succ]
theorem hear_rowsW (l : List UInt8) (a b : Int) (h : twoD a b = true) : ∀ k, hearL (rowsW l a b k) = some (flatW l a b k, if k = 0 then 0 else alt a b (k - 1))
  | 0 => rfl
  | k + 1 => by
    obtain ⟨ha, hb, hab⟩ := twoD_iff.1 h
    unfold hearL
    rw [rowsW_succ, List.foldl_append]
    have ih := hear_rowsW l a b h k
    unfold hearL at ih
    rw [ih]
    simp only [List.foldl_cons, List.foldl_nil]
    unfold hearStep
    have hne : alt a b k ≠ (if k = 0 then 0 else alt a b (k - 1)) := by
      cases k with
      | zero => rcases alt_mem a b 0 with e | e <;> (simp only [if_pos]; omega)
      | succ j => rw [if_neg (by omega), Nat.add_sub_cancel]; exact alt_ne hab j
    simp only [List.getD_cons_zero, List.getD_cons_succ]
    rw [if_pos hne]
    simp [flatW]
theorem dig_len {l : List UInt8} (hd : l.all digB = true) (k : Nat) (hk : k < l.length) : 1 ≤ lenN l k ∧ lenN l k ≤ 9 := by
  unfold lenN
  rw [List.getD_eq_getElem?_getD, List.getElem?_eq_getElem hk, Option.getD_some]
  have := List.all_eq_true.1 hd l[k] (List.getElem_mem hk)
  unfold digB at this
  rw [decide_eq_true_eq] at this
  omega
theorem rowsW_runs {l : List UInt8} (hd : l.all digB = true) {a b : Int} (h : twoD a b = true) : ∀ r ∈ rowsW l a b l.length, isRunB r = true := by
  obtain ⟨ha, hb, hab⟩ := twoD_iff.1 h
  intro r hr
  unfold rowsW at hr
  rw [List.mem_map] at hr
  obtain ⟨i, hi, rfl⟩ := hr
  have h1 := dig_len hd i (List.mem_range.1 hi)
  have hal : 1 ≤ alt a b i ∧ alt a b i ≤ 9 := by rcases alt_mem a b i with e | e <;> omega
  unfold isRunB
  rw [decide_eq_true_eq]
  exact ⟨rfl, hal.1, hal.2, by show (1 : Int) ≤ (lenN l i : Int); omega⟩
def wlO (l : List UInt8) (a b : Int) : Option (List UInt8) := if goodL l = true ∧ twoD a b = true ∧ goodL (flatW l a b l.length) = true then some (flatW l a b l.length) else none
theorem wl_word {l : List UInt8} {a b : Int} (hg : goodL l = true) (h : twoD a b = true) : wordO (rowsW l a b l.length) = wlO l a b := by
  have hd : l.all digB = true := by unfold goodL at hg; simp only [Bool.and_eq_true] at hg; exact hg.2
  rw [wordO_hear _ (rowsW_runs hd h), hear_rowsW l a b h l.length]
  show (if goodL (flatW l a b l.length) = true then some (flatW l a b l.length) else none) = _
  unfold wlO
  by_cases hf : goodL (flatW l a b l.length) = true
  · rw [if_pos hf, if_pos ⟨hg, h, hf⟩]
  · rw [if_neg hf, if_neg (fun e => hf e.2.2)]
theorem flatW_len {l : List UInt8} (hd : l.all digB = true) (a b : Int) : ∀ k, k ≤ l.length → (flatW l a b k).length ≤ 9 * k
  | 0, _ => Nat.le_refl _
  | k + 1, h => by
    have h1 := flatW_len hd a b k (by omega)
    have h2 := dig_len hd k (by omega)
    simp only [flatW, List.length_append, List.length_replicate]
    omega

theorem ruTwoD_is (a b : Int) (w : World) : Calls Try.prog 28 #[.int .i64 a, .int .i64 b] w fun e w' => e = .returned (.bool (twoD a b)) ∧ w = w' := by
  cases h1 : decide (1 ≤ a ∧ a ≤ 9) with
  | false =>
    have E : twoD a b = false := by unfold twoD dOk; rw [h1]; rfl
    rw [E]
    have H1 := Lib.hid h1; clear h1 E
    go_enter Try.func28, Try.ntmps28
    go_wp2_with fail
    refine (l1In_is false _ _ _ _ H1.out).mono ?_
    rintro e w1 ⟨rfl, rfl⟩
    go_wp2_with fail
    go_ret
    exact ⟨rfl, rfl⟩
  | true =>
    cases h2 : decide (1 ≤ b ∧ b ≤ 9) with
    | false =>
      have E : twoD a b = false := by unfold twoD dOk; rw [h1, h2]; rfl
      rw [E]
      have H1 := Lib.hid h1; have H2 := Lib.hid h2; clear h1 h2 E
      go_enter Try.func28, Try.ntmps28
      go_wp2_with fail
      refine (l1In_is true _ _ _ _ H1.out).mono ?_
      rintro e w1 ⟨rfl, rfl⟩
      go_wp2_with fail
      refine (l1In_is false _ _ _ _ H2.out).mono ?_
      rintro e w1 ⟨rfl, rfl⟩
      go_wp2_with fail
      go_ret
      exact ⟨rfl, rfl⟩
    | true =>
      have E : twoD a b = decide (a ≠ b) := by unfold twoD dOk; rw [h1, h2]; rfl
      rw [E]
      have H1 := Lib.hid h1; have H2 := Lib.hid h2; clear h1 h2 E
      go_enter Try.func28, Try.ntmps28
      go_wp2_with fail
      refine (l1In_is true _ _ _ _ H1.out).mono ?_
      rintro e w1 ⟨rfl, rfl⟩
      go_wp2_with fail
      refine (l1In_is true _ _ _ _ H2.out).mono ?_
      rintro e w1 ⟨rfl, rfl⟩
      go_wp2_with fail
      go_ret
      exact ⟨ret_bool (by by_cases h : a = b <;> simp [h]), rfl⟩
theorem areTwoD_is (a b : Int) (w : World) : Calls Try.prog 46 #[.int .i64 a, .int .i64 b] w fun e w' => e = .returned (.bool (twoD a b)) ∧ w = w' := by
  cases h1 : dOk a with
  | false =>
    have E : twoD a b = false := by unfold twoD; rw [h1]; rfl
    rw [E]
    have H1 := Lib.hid h1; clear h1 E
    go_enter Try.func46, Try.ntmps46
    go_wp2_with fail
    refine (isDigit9_is false _ _ H1.out).mono ?_
    rintro e w1 ⟨rfl, rfl⟩
    go_wp2_with fail
    go_ret
    exact ⟨rfl, rfl⟩
  | true =>
    cases h2 : dOk b with
    | false =>
      have E : twoD a b = false := by unfold twoD; rw [h1, h2]; rfl
      rw [E]
      have H1 := Lib.hid h1; have H2 := Lib.hid h2; clear h1 h2 E
      go_enter Try.func46, Try.ntmps46
      go_wp2_with fail
      refine (isDigit9_is true _ _ H1.out).mono ?_
      rintro e w1 ⟨rfl, rfl⟩
      go_wp2_with fail
      refine (isDigit9_is false _ _ H2.out).mono ?_
      rintro e w1 ⟨rfl, rfl⟩
      go_wp2_with fail
      go_ret
      exact ⟨rfl, rfl⟩
    | true =>
      have E : twoD a b = decide (a ≠ b) := by unfold twoD; rw [h1, h2]; rfl
      rw [E]
      have H1 := Lib.hid h1; have H2 := Lib.hid h2; clear h1 h2 E
      go_enter Try.func46, Try.ntmps46
      go_wp2_with fail
      refine (isDigit9_is true _ _ H1.out).mono ?_
      rintro e w1 ⟨rfl, rfl⟩
      go_wp2_with fail
      refine (isDigit9_is true _ _ H2.out).mono ?_
      rintro e w1 ⟨rfl, rfl⟩
      go_wp2_with fail
      go_ret
      exact ⟨ret_bool (by by_cases h : a = b <;> simp [h]), rfl⟩

theorem byte_len (s : ByteArray) (k : Nat) (h : k < s.size) (hd : s.data.toList.all digB = true) : (s[k].toNat : Int) - 48 = (lenN s.data.toList k : Int) ∧ 49 ≤ s[k].toNat ∧ s[k].toNat ≤ 57 := by
  obtain ⟨h1, h2⟩ := dig_at s hd k h
  have h3 : k < s.data.toList.length := by simpa using h
  refine ⟨?_, h1, h2⟩
  unfold lenN
  rw [List.getD_eq_getElem?_getD, List.getElem?_eq_getElem h3, Option.getD_some]
  have : s.data.toList[k] = s[k] := by simp; rfl
  rw [this]; omega
set_option maxHeartbeats 400000 in
theorem specWordOfLengths_any (s : ByteArray) (a b : Int) (w : World) (hs : s.size ≤ maxLen) :
    Calls Try.prog 22 #[.string s, .int .i64 a, .int .i64 b] w fun e w' => e = .returned (strOk (wlO s.data.toList a b)) ∧ Below w.heap.size w w' := by
  cases hg : goodL s.data.toList with
  | false =>
    have E : wlO s.data.toList a b = none := by unfold wlO; rw [if_neg (fun h => by rw [hg] at h; cases h.1)]
    rw [E]
    have HG := Lib.hid hg; clear hg E
    go_enter Try.func22, Try.ntmps22
    go_wp2_with fail
    refine (woGood_any s w hs).mono ?_
    rintro e w1 ⟨rfl, rfl⟩
    rw [HG.out]
    go_wp2_with fail
    go_ret2
    exact ⟨rfl, Below.refl _ _⟩
  | true =>
    obtain ⟨h1, h2, h3⟩ := goodL_parts hg
    cases ht : twoD a b with
    | false =>
      have E : wlO s.data.toList a b = none := by unfold wlO; rw [if_neg (fun h => by rw [ht] at h; cases h.2.1)]
      rw [E]
      have HG := Lib.hid hg; have HT := Lib.hid ht; clear hg ht E
      go_enter Try.func22, Try.ntmps22
      go_wp2_with fail
      refine (woGood_any s w hs).mono ?_
      rintro e w1 ⟨rfl, rfl⟩
      rw [HG.out]
      go_wp2_with fail
      refine (ruTwoD_is _ _ _).mono ?_
      rintro e w1 ⟨rfl, rfl⟩
      rw [HT.out]
      go_wp2_with fail
      go_ret2
      exact ⟨rfl, Below.refl _ _⟩
    | true =>
      obtain ⟨ha, hb, hab⟩ := twoD_iff.1 ht
      have hz : s.data.toList.length = s.size := by simp
      have hwl : wlO s.data.toList a b = if goodL (flatW s.data.toList a b s.size) = true then some (flatW s.data.toList a b s.size) else none := by
        unfold wlO
        rw [hz]
        by_cases hf : goodL (flatW s.data.toList a b s.size) = true
        · rw [if_pos ⟨hg, ht, hf⟩, if_pos hf]
        · rw [if_neg (fun e => hf e.2.2), if_neg hf]
      have hbl := fun k (h : k < s.size) => byte_len s k h h3
      have hfl := fun k (h : k ≤ s.size) => flatW_len h3 a b k (by omega)
      have hfs : ∀ k, flatW s.data.toList a b (k + 1) = flatW s.data.toList a b k ++ List.replicate (lenN s.data.toList k) (dgw (alt a b k)) := fun k => rfl
      have hln := fun k (h : k < s.size) => dig_len h3 k (by omega)
      rw [hwl]
      clear hwl
      obtain ⟨R, hR⟩ : ∃ R, R = (if goodL (flatW s.data.toList a b s.size) = true then some (flatW s.data.toList a b s.size) else none) := ⟨_, rfl⟩
      rw [← hR]
      generalize flatW s.data.toList a b = F at *
      generalize lenN s.data.toList = L at *
      have HG := Lib.hid hg; have HT := Lib.hid ht; have HBL := Lib.hid hbl; have HFL := Lib.hid hfl; have HFS := Lib.hid hfs; have HLN := Lib.hid hln
      have hF0 : F 0 = [] := List.eq_nil_of_length_eq_zero (by have := hfl 0 (Nat.zero_le _); omega)
      have HF0 := Lib.hid hF0
      have HR := Lib.hid hR
      clear hg ht hbl hfl hfs hln hz h3 hF0 hR
      go_enter Try.func22, Try.ntmps22
      go_wp2_with fail
      refine (woGood_any s w hs).mono ?_
      rintro e w1 ⟨rfl, rfl⟩
      rw [HG.out]
      go_wp2_with fail
      refine (ruTwoD_is _ _ _).mono ?_
      rintro e w1 ⟨rfl, rfl⟩
      rw [HT.out]
      go_wp2_with fail
      obtain ⟨N, hN⟩ : ∃ N, N = s.size := ⟨_, rfl⟩
      have HN := Lib.hid hN
      go_loopw [8, 9] (fun o i wr => ∃ (k : Nat) (t : List UInt8), k ≤ s.size ∧ i = .int .i64 (k : Int) ∧ o = .string (bs t) ∧ t.length ≤ 9 * k ∧ Hid (t = F k ∧ Below w.heap.size w wr)) (fun _ i _ => s.size - (intOf i).toNat)
      case atStart => exact ⟨0, [], Nat.zero_le _, rfl, rfl, Nat.le_refl _, HF0.out.symm, Below.refl _ _⟩
      case round =>
        obtain ⟨k, t, hk, rfl, rfl, htl, HX⟩ := hrel
        have hbsz : (bs t).size = t.length := bs_size _
        by_cases hlt : k < s.size
        · obtain ⟨hb1, hb2, hb3⟩ := HBL.out k hlt
          have hl9 := HLN.out k hlt
          obtain ⟨x, hx⟩ : ∃ x, x = L k := ⟨_, rfl⟩
          rw [← hx] at hb1 hl9
          have hxm : ((x : Int) % 256) = (x : Int) := by omega
          have htm : ((k : Int).tmod 2) = ((k % 2 : Nat) : Int) := by rw [Int.tmod_eq_emod_of_nonneg (by omega)]; omega
          have hfk := HFS.out k
          rw [← hx] at hfk
          have HFK := Lib.hid hfk
          clear hx hfk
          by_cases hp : k % 2 = 1
          · have halt : alt a b k = b := by unfold alt; rw [if_pos hp]
            have htim := Lib.hid (fun (W : World) => woTimes_any b x W hb.1 hb.2 (by omega))
            have HAL := Lib.hid halt
            have hsz2 : (bs (List.replicate x (dgw b))).size = x := by rw [bs_size]; simp
            clear halt
            go_wp2_with (go_at_call 48; refine (htim.out _).mono ?_; rintro e w2 ⟨rfl, hbw⟩)
            go_roundw
            case rel => exact ⟨k + 1, t ++ List.replicate x (dgw b), by omega, by go_num, by rw [bs_append], by simp; omega, by rw [HFK.out, HX.out.1, HAL.out], below_trans HX.out.2 hbw⟩
            case measure => simp [intOf] <;> omega
          · have halt : alt a b k = a := by unfold alt; rw [if_neg hp]
            have hp2 : ((k : Int) % 2 == 1) = false := by simp; omega
            have htim := Lib.hid (fun (W : World) => woTimes_any a x W ha.1 ha.2 (by omega))
            have HAL := Lib.hid halt
            have hsz2 : (bs (List.replicate x (dgw a))).size = x := by rw [bs_size]; simp
            clear halt
            go_wp2_with (go_at_call 48; refine (htim.out _).mono ?_; rintro e w2 ⟨rfl, hbw⟩)
            go_roundw
            case rel => exact ⟨k + 1, t ++ List.replicate x (dgw a), by omega, by go_num, by rw [bs_append], by simp; omega, by rw [HFK.out, HX.out.1, HAL.out], below_trans HX.out.2 hbw⟩
            case measure => simp [intOf] <;> omega
        · obtain rfl : k = s.size := by omega
          have hRt : R = if goodL t = true then some t else none := by rw [HX.out.1]; exact HR.out
          have HRT := Lib.hid hRt; clear hRt
          have hwg := woGood_any (bs t) wr (by unfold maxLen; omega)
          rw [bs_list] at hwg
          have HWG := Lib.hid hwg; clear hwg
          go_wp2_with fail
          refine HWG.out.mono ?_
          rintro e w3 ⟨rfl, rfl⟩
          cases hgt : goodL t with
          | false =>
            have HGT := Lib.hid hgt; clear hgt
            go_wp2_with fail
            go_ret2
            exact ⟨by rw [HRT.out, HGT.out]; rfl, HX.out.2⟩
          | true =>
            have HGT := Lib.hid hgt; clear hgt
            go_wp2_with fail
            go_ret2
            exact ⟨by rw [HRT.out, HGT.out]; rfl, HX.out.2⟩
end Go.Proofs.Ythbjaclobllkhaa
