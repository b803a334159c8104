/- Chapter 8: the model's l1Split (as in chapter 7's texts); named numbers; NameOf and WordsOfName on both sides. -/
import Derived.Test.YtlcbdmmmafpchaaDoorMA
import Derived.Test.YtlcbdmmmafpchaaDoormb
import Derived.Test.YtlcbdmmmafpchaaDoorm9
import Derived.Test.YtlcbdmmmafpchaaDoorS
import Derived.Deep.QuietTactic
import Derived.BigQuiet
namespace Go.Proofs.YtlcbdmmmafpchaaDoor
open Go.RowKit Go.BigFrame
set_option linter.unusedSimpArgs false
set_option linter.unusedVariables false
set_option maxRecDepth 4000

theorem add_plainL (b o r : Nat) : (⟨b, o, none⟩ : Addr).add r = ⟨b, o + r, none⟩ := by
  unfold Addr.add
  split
  · subst_vars; rfl
  · rfl
theorem cell_new (w : World) (v : Value) (T : TypeId) : (w.alloc (.cells #[v] T)).cell? ⟨w.heap.size, 0, none⟩ = some v := by
  unfold World.cell?
  rw [heap_alloc_new]; rfl
theorem extract_bs (l : List UInt8) (i j : Nat) : (bs l).extract i j = bs ((l.drop i).take (j - i)) := bs_eq (by rw [list_extract, bs_list])
theorem getB (l : List UInt8) (k : Nat) (h : k < (bs l).size) (h' : k < l.length) : (bs l)[k]'h = l[k]'h' := by simp [bs, ByteArray.getElem_eq_getElem_data]
theorem beqB (x c : UInt8) : (((x.toNat : Nat) : Int) == ((c.toNat : Nat) : Int)) = decide (x = c) := by
  by_cases h : x = c
  · subst h; simp
  · rw [decide_eq_false h]
    exact beq_false_of_ne (fun e => h (UInt8.toNat_inj.1 (by omega)))
def strVN (ls : List (List UInt8)) : List Value := ls.map (fun l => .string (bs l))
theorem strVN_len (ls : List (List UInt8)) : (strVN ls).length = ls.length := by simp [strVN]

set_option maxHeartbeats 2000000 in
theorem l1Split_any (l : List UInt8) (c : UInt8) (w : World) (h9 : l.length ≤ 2000000) :
    Calls Tryd.prog 61 #[.string (bs l), .int .u8 (c.toNat : Int)] w fun e w' => ∃ q d, e = .returned (.slice q (splitL c l).length d) ∧ Strs w' w.heap.size (.slice q (splitL c l).length d) (splitL c l) ∧ Below w.heap.size w w' := by
  obtain ⟨i0, hi, hz0, hz1, hz2⟩ := info_parts info_sN
  obtain ⟨N, hN⟩ : ∃ N, N = l.length := ⟨_, rfl⟩
  have hbs : (bs l).size = N := by rw [bs_size, hN]
  have HN := Lib.hid hN
  obtain ⟨R, hR⟩ : ∃ R, R = splitL c l := ⟨_, rfl⟩
  have HR := Lib.hid hR
  rw [← hR]
  rw [← hN] at h9
  clear hN hR
  go_enter Tryd.func61, Tryd.ntmps61
  go_wp2_with fail
  go_loopw [5, 6, 7] (fun v bv iv wr => ∃ (k b p d : Nat) (q : Option Addr) (P : List (List UInt8)), iv = .int .i64 (k : Int) ∧ bv = .int .i64 (b : Int) ∧ v = .slice q p d ∧ k ≤ N ∧ b ≤ k ∧ p ≤ b ∧ Hid (p = P.length ∧ R = P ++ splitL c (l.drop b) ∧ (∀ j (hj : j < l.length), b ≤ j → j < k → l[j] ≠ c) ∧ wr.ownsRow w.heap.size 9 1 (.slice q p d) p (strVN P) ∧ Below w.heap.size w wr)) (fun _ _ iv _ => N - (intOf iv).toNat)
  case atStart => exact ⟨0, 0, 0, 0, none, [], rfl, rfl, rfl, Nat.zero_le _, Nat.le_refl _, Nat.le_refl _, rfl, HR.out, fun j _ h1 h2 => by omega, World.ownsRow_nil _ _ _ _, below_refl _⟩
  case round =>
    obtain ⟨k, b, p, d, q, P, rfl, rfl, rfl, hk, hbk, hpb, HX⟩ := hrel
    have hstart : ∀ (kk : Nat), kk ≤ N → b ≤ kk → (bs l).extract b kk = bs ((l.drop b).take (kk - b)) := fun kk _ _ => extract_bs l b kk
    by_cases hlt : k < N
    · have hk' : k < l.length := by rw [← HN.out]; exact hlt
      have hkb : k < (bs l).size := by rw [hbs]; exact hlt
      have hq := beqB ((bs l)[k]'hkb) c
      have hge : (bs l)[k]'hkb = l[k]'hk' := getB l k hkb hk'
      by_cases hex0 : (bs l)[k]'hkb = c
      · rw [decide_eq_true hex0] at hq
        have he : l[k]'hk' = c := hge.symm.trans hex0
        have hnew : R = (P ++ [(l.drop b).take (k - b)]) ++ splitL c (l.drop (k + 1)) := by
          have hbl : k - b < (l.drop b).length := by rw [List.length_drop]; omega
          have := splitL_at (c := c) (l := l.drop b) (k - b) hbl (by rw [List.getElem_drop]; exact (getElem_congr_idx (show b + (k - b) = k by omega)).trans he) (fun j hj hjk => by
            rw [List.getElem_drop]
            exact HX.out.2.2.1 (b + j) (by rw [List.length_drop] at hj; omega) (by omega) (by omega))
          rw [HX.out.2.1, this, List.append_assoc, List.drop_drop, show b + (k - b + 1) = k + 1 by omega]
          rfl
        obtain ⟨x, hx⟩ : ∃ x, x = (l.drop b).take (k - b) := ⟨_, rfl⟩
        have hex : (bs l).extract b k = bs x := by rw [hx]; exact extract_bs l b k
        rw [← hx] at hnew
        have HNEW := Lib.hid hnew
        have hcell1 : ∀ (j : Nat) (y : Value), ([.string (bs x)] : List Value)[j]? = some y → (wr.alloc (.cells #[.string (bs x)] 9)).cell? ((⟨wr.heap.size, 0, none⟩ : Addr).add j) = some y := by
          intro j y hj
          match j, hj with
          | 0, hj => simp at hj; subst hj; rw [add_plainL]; exact cell_new _ _ _
          | j + 1, hj => simp at hj
        have hone1 : ∀ y ∈ ([.string (bs x)] : List Value), y.oneCell' = true := fun y hy => by simp at hy; subst hy; rfl
        have HC1 := Lib.hid hcell1; have HO1 := Lib.hid hone1
        clear hnew hx hcell1 hone1 he hstart hge hex0
        go_wp2_with (at_builtin; refine wpList_app _ rfl _ _ 32 rfl w.heap.size 9 i0 (.string ⟨#[]⟩) 16 Tryd.underlying32 hi hz0 hz1 hz2 rfl _ p (strVN P) rfl (own_below HX.out.2.2.2.1 (below_alloc _ _)) ⟨wr.heap.size, 0, none⟩ 1 1 [.string (bs x)] rfl rfl HC1.out HO1.out (by unfold maxLen; omega) (by omega) (by have := HX.out.2.2.2.2.size; simp; omega) ?_; intro v3 w3 hown3 hgr3 _; obtain ⟨q3, d3, ev3⟩ := own_slice hown3; subst ev3; have HO3 := Lib.hid hown3; have HB3 := Lib.hid ((HX.out.2.2.2.2.alloc HX.out.2.2.2.2.size (.cells #[.string (bs x)] 9)).grown hgr3 (by have := HX.out.2.2.2.2.size; simp; omega) (fun r e => (HX.out.2.2.2.1.lt r e).1)); clear hown3 hgr3)
        go_roundw
        case rel => exact ⟨k + 1, k + 1, p + 1, d3, q3, P ++ [x], by go_num, by go_num, rfl, by omega, Nat.le_refl _, by omega, by rw [List.length_append, ← HX.out.1]; rfl, HNEW.out, fun j _ h1 h2 => by omega, by have := HO3.out; simpa [strVN] using this, HB3.out⟩
        case measure => simp [intOf] <;> omega
      · rw [decide_eq_false hex0] at hq
        have he : ¬ l[k]'hk' = c := fun e => hex0 (hge.trans e)
        have hnew : Hid (∀ j (hj : j < l.length), b ≤ j → j < k + 1 → l[j] ≠ c) := fun j hj h1 h2 => by
          by_cases e : j = k
          · subst e; exact he
          · exact HX.out.2.2.1 j hj h1 (by omega)
        clear he hstart hge hex0
        go_wp2_with fail
        go_roundw
        case rel => exact ⟨k + 1, b, p, d, q, P, by go_num, rfl, rfl, by omega, by omega, hpb, HX.out.1, HX.out.2.1, hnew.out, HX.out.2.2.2.1, HX.out.2.2.2.2⟩
        case measure => simp [intOf] <;> omega
    · obtain rfl : k = N := by omega
      have hfin : R = P ++ [l.drop b] := by
        rw [HX.out.2.1, splitL_not (fun e => by
          obtain ⟨j, hj, e2⟩ := List.getElem_of_mem e
          rw [List.getElem_drop] at e2
          rw [List.length_drop] at hj
          exact HX.out.2.2.1 (b + j) (by omega) (by omega) (by have := HN.out; omega) e2)]
      obtain ⟨x, hx⟩ : ∃ x, x = l.drop b := ⟨_, rfl⟩
      have hex : (bs l).extract b k = bs x := by rw [hx, extract_bs, List.take_of_length_le (by rw [List.length_drop, ← HN.out]; exact Nat.le_refl _)]
      rw [← hx] at hfin
      have hRl : R.length = p + 1 := by rw [hfin, List.length_append, ← HX.out.1]; rfl
      have HF := Lib.hid hfin; have HRL := Lib.hid hRl
      have hcell1 : ∀ (j : Nat) (y : Value), ([.string (bs x)] : List Value)[j]? = some y → (wr.alloc (.cells #[.string (bs x)] 9)).cell? ((⟨wr.heap.size, 0, none⟩ : Addr).add j) = some y := by
        intro j y hj
        match j, hj with
        | 0, hj => simp at hj; subst hj; rw [add_plainL]; exact cell_new _ _ _
        | j + 1, hj => simp at hj
      have hone1 : ∀ y ∈ ([.string (bs x)] : List Value), y.oneCell' = true := fun y hy => by simp at hy; subst hy; rfl
      have HC1 := Lib.hid hcell1; have HO1 := Lib.hid hone1
      clear hfin hx hcell1 hone1 hstart hRl
      go_wp2_with (at_builtin; refine wpList_app _ rfl _ _ 32 rfl w.heap.size 9 i0 (.string ⟨#[]⟩) 16 Tryd.underlying32 hi hz0 hz1 hz2 rfl _ p (strVN P) rfl (own_below HX.out.2.2.2.1 (below_alloc _ _)) ⟨wr.heap.size, 0, none⟩ 1 1 [.string (bs x)] rfl rfl HC1.out HO1.out (by unfold maxLen; omega) (by omega) (by have := HX.out.2.2.2.2.size; simp; omega) ?_; intro v3 w3 hown3 hgr3 _; obtain ⟨q3, d3, ev3⟩ := own_slice hown3; subst ev3; have HO3 := Lib.hid hown3; have HB3 := Lib.hid ((HX.out.2.2.2.2.alloc HX.out.2.2.2.2.size (.cells #[.string (bs x)] 9)).grown hgr3 (by have := HX.out.2.2.2.2.size; simp; omega) (fun r e => (HX.out.2.2.2.1.lt r e).1)); clear hown3 hgr3)
      go_ret
      have ho := HO3.out
      refine ⟨q3, d3, by rw [HRL.out]; rfl, ?_, HB3.out⟩
      rw [HRL.out, HF.out]
      unfold Strs
      rw [List.length_append, ← HX.out.1]
      simpa [strVN] using ho

def nmB (n : Int) : Bool := decide (0 ≤ n ∧ n ≤ 999999)
theorem nmB_parts {n : Int} (h : nmB n = true) : ∃ k : Nat, n = (k : Int) ∧ k < 1000000 := by
  have : 0 ≤ n ∧ n ≤ 999999 := of_decide_eq_true h
  exact ⟨n.toNat, by omega, by omega⟩
theorem naGood_is (n : Int) (w : World) : Calls Tryd.prog 52 #[.int .i64 n] w fun e w' => e = .returned (.bool (nmB n)) ∧ w = w' := by
  obtain ⟨b, hb⟩ : ∃ b, b = nmB n := ⟨_, rfl⟩
  rw [← hb]
  have H := Lib.hid (l1In_is b n 0 999999 w hb.symm)
  clear hb
  go_enter Tryd.func52, Tryd.ntmps52
  go_wp2_with fail
  refine H.out.mono ?_
  rintro e w1 ⟨rfl, rfl⟩
  go_wp2_with fail
  go_ret
  exact ⟨rfl, rfl⟩
theorem isNamed_is (n : Int) (w : World) : Calls Tryd.prog 59 #[.int .i64 n] w fun e w' => e = .returned (.bool (nmB n)) ∧ w = w' := by
  obtain ⟨b, hb⟩ : ∃ b, b = nmB n := ⟨_, rfl⟩
  rw [← hb]
  have H := Lib.hid (isWithin_is b n 0 999999 w hb.symm)
  clear hb
  go_enter Tryd.func59, Tryd.ntmps59
  go_wp2_with fail
  refine H.out.mono ?_
  rintro e w1 ⟨rfl, rfl⟩
  go_wp2_with fail
  go_ret
  exact ⟨rfl, rfl⟩
def nameO (n : Int) : List UInt8 := if nmB n = true then nmN n.toNat else []
def wordsO (n : Int) : List (List UInt8) := if nmB n = true then wdsN n.toNat else []
theorem nameO_join (n : Int) : joinS (wordsO n) = nameO n := by
  unfold wordsO nameO
  split
  · exact joinN _
  · rfl

set_option maxHeartbeats 1000000 in
theorem specNameOf_any (n : Int) (w : World) :
    Calls Tryd.prog 10 #[.int .i64 n] w fun e w' => e = .returned (.tuple #[.string (bs (nameO n)), .bool (nmB n)]) ∧ Below w.heap.size w w' := by
  have HG := Lib.hid (fun W => naGood_is n W)
  cases hb : nmB n with
  | false =>
    have e : nameO n = [] := by unfold nameO; rw [hb]; rfl
    rw [e]; rw [hb] at HG
    clear e hb
    go_enter Tryd.func10, Tryd.ntmps10
    go_wp2_with fail
    refine (HG.out _).mono ?_
    rintro e w1 ⟨rfl, rfl⟩
    go_wp2_with fail
    go_ret2
    exact ⟨rfl, below_refl _⟩
  | true =>
    obtain ⟨k, rfl, hk⟩ := nmB_parts hb
    have e : nameO (k : Int) = nmN k := by unfold nameO; rw [hb]; rfl
    rw [e]; rw [hb] at HG
    have HN := Lib.hid (fun W => naName_any k W hk)
    generalize nmN k = R at *
    clear e hb hk
    go_enter Tryd.func10, Tryd.ntmps10
    go_wp2_with fail
    refine (HG.out _).mono ?_
    rintro e w1 ⟨rfl, rfl⟩
    go_wp2_with fail
    refine (HN.out _).mono ?_
    rintro e w1 ⟨rfl, hb⟩
    have HB := Lib.hid hb; clear hb
    go_wp2_with fail
    go_ret2
    exact ⟨rfl, HB.out⟩

/-- Words and whether there are any. -/
def WordsOk2 (B : Nat) (ls : List (List UInt8)) (ok : Bool) (w : World) (e : Ending) (w' : World) : Prop := ∃ v, e = .returned (.tuple #[v, .bool ok]) ∧ Strs w' B v ls ∧ Below B w w'

set_option maxHeartbeats 1000000 in
theorem implWordsOfName_any (n : Int) (w : World) (NA : NamesAt w) :
    Calls Tryd.prog 17 #[.int .i64 n] w (WordsOk2 w.heap.size (wordsO n) (nmB n) w) := by
  have HG := Lib.hid (fun W => isNamed_is n W)
  cases hb : nmB n with
  | false =>
    have e : wordsO n = [] := by unfold wordsO; rw [hb]; rfl
    rw [e]; rw [hb] at HG
    clear e hb
    go_enter Tryd.func17, Tryd.ntmps17
    go_wp2_with fail
    refine (HG.out _).mono ?_
    rintro e w1 ⟨rfl, rfl⟩
    go_wp2_with fail
    go_ret2
    exact ⟨_, rfl, World.ownsRow_nil _ _ _ _, below_refl _⟩
  | true =>
    obtain ⟨k, rfl, hk⟩ := nmB_parts hb
    have e : wordsO (k : Int) = wdsN k := by unfold wordsO; rw [hb]; rfl
    rw [e]; rw [hb] at HG
    have HN := Lib.hid (words_any k w hk NA)
    generalize wdsN k = R at *
    clear e hb hk NA
    go_enter Tryd.func17, Tryd.ntmps17
    go_wp2_with fail
    refine (HG.out _).mono ?_
    rintro e w1 ⟨rfl, rfl⟩
    go_wp2_with fail
    refine HN.out.mono ?_
    rintro e w1 ⟨u, rfl, hs, hb⟩
    have HB := Lib.hid hb; have HS := Lib.hid hs; clear hb hs
    go_wp2_with fail
    go_ret2
    exact ⟨_, rfl, HS.out, HB.out⟩

set_option maxHeartbeats 1000000 in
theorem specWordsOfName_any (n : Int) (w : World) :
    Calls Tryd.prog 18 #[.int .i64 n] w (WordsOk2 w.heap.size (wordsO n) (nmB n) w) := by
  have HG := Lib.hid (fun W => naGood_is n W)
  cases hb : nmB n with
  | false =>
    have e : wordsO n = [] := by unfold wordsO; rw [hb]; rfl
    rw [e]; rw [hb] at HG
    clear e hb
    go_enter Tryd.func18, Tryd.ntmps18
    go_wp2_with fail
    refine (HG.out _).mono ?_
    rintro e w1 ⟨rfl, rfl⟩
    go_wp2_with fail
    go_ret2
    exact ⟨_, rfl, World.ownsRow_nil _ _ _ _, below_refl _⟩
  | true =>
    obtain ⟨k, rfl, hk⟩ := nmB_parts hb
    have e : wordsO (k : Int) = wdsN k := by unfold wordsO; rw [hb]; rfl
    rw [e]; rw [hb] at HG
    have HN := Lib.hid (fun W => naName_any k W hk)
    have hl := nmN_len k hk
    have HS := Lib.hid (fun W => l1Split_any (nmN k) 32 W (by omega))
    rw [split_name k hk] at HS
    generalize wdsN k = R at *
    generalize nmN k = S at *
    clear e hb hk hl
    go_enter Tryd.func18, Tryd.ntmps18
    go_wp2_with fail
    refine (HG.out _).mono ?_
    rintro e w1 ⟨rfl, rfl⟩
    go_wp2_with fail
    refine (HN.out _).mono ?_
    rintro e w1 ⟨rfl, hb⟩
    have HB := Lib.hid hb; clear hb
    go_wp2_with fail
    refine (HS.out _).mono ?_
    rintro e w2 ⟨q, d, rfl, hs, hb⟩
    have HB2 := Lib.hid (below_trans HB.out hb); have HS2 := Lib.hid (own_mono hs HB.out.size); clear hb hs
    go_wp2_with fail
    go_ret2
    exact ⟨_, rfl, HS2.out, HB2.out⟩

theorem join_any (w : World) (B : Nat) (v : Value) (ls : List (List UInt8)) (sep : List UInt8) (h : Strs w B v ls) (hl : ls.length ≤ 10) (hj : (Go.Lib.join ls sep).length ≤ 10000) :
    Calls Tryd.prog 51 #[v, .string (bs sep)] w fun e w' => e = .returned (.string (bs (Go.Lib.join ls sep))) ∧ Below w.heap.size w w' := by
  by_cases hne : ls = []
  · subst hne
    rcases own_open h with ⟨rfl, _, _⟩ | ⟨g, cap, rfl, _⟩
    · refine (Tryd.strings_Join_none none 0 (bs sep) w).mono ?_
      rintro e w' ⟨rfl, rfl⟩
      exact ⟨rfl, below_refl _⟩
    · refine (Tryd.strings_Join_none (some ⟨g, 0, none⟩) cap (bs sep) w).mono ?_
      rintro e w' ⟨rfl, rfl⟩
      exact ⟨rfl, below_refl _⟩
  · obtain ⟨g, c, rfl, _, hg, hc, _, hcell⟩ := strs_parts h hne
    have e0 : ((ls.map bs).map (·.data.toList)) = ls := by rw [List.map_map]; conv => rhs; rw [← List.map_id ls]
                                                           apply List.map_congr_left; intro l _; simp [bs_list]
    have e1 : (bs sep).data.toList = sep := bs_list _
    have hj2 := Tryd.strings_Join g 0 c (ls.map bs) (bs sep) w (fun j x hx => by
      obtain ⟨hj, e⟩ := List.getElem?_eq_some_iff.1 hx
      have hj' : j < ls.length := by simpa using hj
      rw [Nat.zero_add, hcell j hj', ← e]; simp) hg (by simp; omega) (by simpa using hc) (by rw [e0, e1]; omega)
    rw [e0, e1, List.length_map] at hj2
    exact hj2

set_option maxHeartbeats 1000000 in
theorem implNameOf_any (n : Int) (w : World) (NA : NamesAt w) :
    Calls Tryd.prog 9 #[.int .i64 n] w fun e w' => e = .returned (.tuple #[.string (bs (nameO n)), .bool (nmB n)]) ∧ Below w.heap.size w w' := by
  have HW := Lib.hid (implWordsOfName_any n w NA)
  have hl : (wordsO n).length ≤ 10 := by unfold wordsO; split; have := wdsN_len n.toNat; omega; simp
  have hj := lib_joinS (wordsO n)
  rw [nameO_join] at hj
  have hjl : (nameO n).length ≤ 64 := by
    unfold nameO; split
    · rename_i h; obtain ⟨k, rfl, hk⟩ := nmB_parts h; exact nmN_len _ (by simpa using hk)
    · simp
  have HJ := Lib.hid (fun (W : World) (v : Value) (hs : Strs W w.heap.size v (wordsO n)) => join_any W w.heap.size v (wordsO n) [32] hs hl (by rw [hj]; omega))
  rw [hj] at HJ
  generalize nameO n = R at *
  generalize wordsO n = S at *
  generalize nmB n = b at *
  clear hl hj hjl NA
  go_enter Tryd.func9, Tryd.ntmps9
  go_wp2_with fail
  refine HW.out.mono ?_
  rintro e w1 ⟨u, rfl, hs, hb⟩
  have HB := Lib.hid hb; have HJ2 := Lib.hid (HJ.out w1 u hs); clear hb hs
  go_wp2_with fail
  refine HJ2.out.mono ?_
  rintro e w2 ⟨rfl, hb⟩
  have HB2 := Lib.hid (below_trans HB.out hb); clear hb
  go_wp2_with fail
  go_ret2
  exact ⟨rfl, HB2.out⟩
end Go.Proofs.YtlcbdmmmafpchaaDoor
