/- Chapter 9: texts cut at one byte: the model's l1Split (as in chapters 7 and 8). -/
import Derived.Test.Ytplcdofpikdigaaq6
import Derived.Test.YtplcdofpikdigaaE3
import Derived.Deep.QuietTactic
import Derived.BigQuiet
namespace Go.Proofs.Ytplcdofpikdigaa
open Go.RowKit Go.BigFrame
set_option linter.unusedSimpArgs false
set_option linter.unusedVariables false
set_option maxRecDepth 4000

theorem info_sN : (Try.prog.info? 9).map (fun i => (i.zero, i.size, i.bytes)) = some (some (.string ⟨#[]⟩), 1, 16) := by kernel_rfl
/-- A text cut at each c. -/
def splitL (c : UInt8) : List UInt8 → List (List UInt8)
  | [] => [[]]
  | a :: t => if a = c then [] :: splitL c t else match splitL c t with
    | h :: r => (a :: h) :: r
    | [] => [[a]]
theorem splitL_ne (c : UInt8) : ∀ l, splitL c l ≠ []
  | [] => by simp [splitL]
  | a :: t => by
    rw [splitL]
    split
    · simp
    · split <;> simp
theorem splitL_not {c : UInt8} : ∀ {l : List UInt8}, c ∉ l → splitL c l = [l]
  | [], _ => rfl
  | a :: t, h => by
    have h1 : ¬ a = c := fun e => h (by simp [e])
    have h2 : c ∉ t := fun e => h (by simp [e])
    rw [splitL, if_neg h1, splitL_not h2]
theorem splitL_one {c : UInt8} : ∀ {l b : List UInt8}, splitL c l = [b] → c ∉ l ∧ b = l
  | [], b, h => by simp [splitL] at h; exact ⟨by simp, h⟩
  | a :: t, b, h => by
    rw [splitL] at h
    by_cases h1 : a = c
    · rw [if_pos h1] at h
      have := splitL_ne c t
      simp at h
      exact absurd h.2 this
    · rw [if_neg h1] at h
      cases hs : splitL c t with
      | nil => exact absurd hs (splitL_ne c t)
      | cons x r =>
        rw [hs] at h
        simp at h
        obtain ⟨i1, i2⟩ := splitL_one (l := t) (b := x) (by rw [hs, h.2])
        refine ⟨fun e => ?_, by rw [← h.1, i2]⟩
        rcases List.mem_cons.1 e with e | e
        · exact h1 e.symm
        · exact i1 e
/-- The first c. -/
theorem splitL_at {c : UInt8} : ∀ {l : List UInt8} (k : Nat) (hk : k < l.length), l[k] = c → (∀ j (hj : j < l.length), j < k → l[j] ≠ c) → splitL c l = l.take k :: splitL c (l.drop (k + 1))
  | [], k, hk, _, _ => by simp at hk
  | a :: t, 0, _, h, _ => by
    simp at h
    rw [splitL, if_pos h]; simp
  | a :: t, k + 1, hk, h, hn => by
    have h0 : ¬ a = c := hn 0 (by simp) (by omega)
    have ih := splitL_at (c := c) (l := t) k (by simpa using hk) (by simpa using h) (fun j hj hjk => hn (j + 1) (by simpa using hj) (by omega))
    rw [splitL, if_neg h0, ih]
    simp
theorem add_plainL (b o r : Nat) : (⟨b, o, none⟩ : Addr).add r = ⟨b, o + r, none⟩ := by
  unfold Addr.add
  split
  · subst_vars; rfl
  · rfl
theorem cell_new (w : World) (v : Value) (T : TypeId) : (w.alloc (.cells #[v] T)).cell? ⟨w.heap.size, 0, none⟩ = some v := by
  unfold World.cell?
  rw [heap_alloc_new]; rfl
theorem extract_bs (l : List UInt8) (i j : Nat) : (bs l).extract i j = bs ((l.drop i).take (j - i)) := bs_eq (by rw [list_extract, bs_list])
theorem getB (l : List UInt8) (k : Nat) (h : k < (bs l).size) (h' : k < l.length) : (bs l)[k]'h = l[k]'h' := by simp [bs, ByteArray.getElem_eq_getElem_data]
theorem beqB (x c : UInt8) : (((x.toNat : Nat) : Int) == ((c.toNat : Nat) : Int)) = decide (x = c) := by
  by_cases h : x = c
  · subst h; simp
  · rw [decide_eq_false h]
    exact beq_false_of_ne (fun e => h (UInt8.toNat_inj.1 (by omega)))
def strVN (ls : List (List UInt8)) : List Value := ls.map (fun l => .string (bs l))
theorem strVN_len (ls : List (List UInt8)) : (strVN ls).length = ls.length := by simp [strVN]

set_option maxHeartbeats 2000000 in
theorem l1Split_any (l : List UInt8) (c : UInt8) (w : World) (h9 : l.length ≤ 2000000) :
    Calls Try.prog 50 #[.string (bs l), .int .u8 (c.toNat : Int)] w fun e w' => ∃ q d, e = .returned (.slice q (splitL c l).length d) ∧ Strs w' w.heap.size (.slice q (splitL c l).length d) (splitL c l) ∧ Below w.heap.size w w' := by
  obtain ⟨i0, hi, hz0, hz1, hz2⟩ := info_parts info_sN
  obtain ⟨N, hN⟩ : ∃ N, N = l.length := ⟨_, rfl⟩
  have hbs : (bs l).size = N := by rw [bs_size, hN]
  have HN := Lib.hid hN
  obtain ⟨R, hR⟩ : ∃ R, R = splitL c l := ⟨_, rfl⟩
  have HR := Lib.hid hR
  rw [← hR]
  rw [← hN] at h9
  clear hN hR
  go_enter Try.func50, Try.ntmps50
  go_wp2_with fail
  go_loopw [5, 6, 7] (fun v bv iv wr => ∃ (k b p d : Nat) (q : Option Addr) (P : List (List UInt8)), iv = .int .i64 (k : Int) ∧ bv = .int .i64 (b : Int) ∧ v = .slice q p d ∧ k ≤ N ∧ b ≤ k ∧ p ≤ b ∧ Hid (p = P.length ∧ R = P ++ splitL c (l.drop b) ∧ (∀ j (hj : j < l.length), b ≤ j → j < k → l[j] ≠ c) ∧ wr.ownsRow w.heap.size 9 1 (.slice q p d) p (strVN P) ∧ Below w.heap.size w wr)) (fun _ _ iv _ => N - (intOf iv).toNat)
  case atStart => exact ⟨0, 0, 0, 0, none, [], rfl, rfl, rfl, Nat.zero_le _, Nat.le_refl _, Nat.le_refl _, rfl, HR.out, fun j _ h1 h2 => by omega, World.ownsRow_nil _ _ _ _, below_refl _⟩
  case round =>
    obtain ⟨k, b, p, d, q, P, rfl, rfl, rfl, hk, hbk, hpb, HX⟩ := hrel
    have hstart : ∀ (kk : Nat), kk ≤ N → b ≤ kk → (bs l).extract b kk = bs ((l.drop b).take (kk - b)) := fun kk _ _ => extract_bs l b kk
    by_cases hlt : k < N
    · have hk' : k < l.length := by rw [← HN.out]; exact hlt
      have hkb : k < (bs l).size := by rw [hbs]; exact hlt
      have hq := beqB ((bs l)[k]'hkb) c
      have hge : (bs l)[k]'hkb = l[k]'hk' := getB l k hkb hk'
      by_cases hex0 : (bs l)[k]'hkb = c
      · rw [decide_eq_true hex0] at hq
        have he : l[k]'hk' = c := hge.symm.trans hex0
        have hnew : R = (P ++ [(l.drop b).take (k - b)]) ++ splitL c (l.drop (k + 1)) := by
          have hbl : k - b < (l.drop b).length := by rw [List.length_drop]; omega
          have := splitL_at (c := c) (l := l.drop b) (k - b) hbl (by rw [List.getElem_drop]; exact (getElem_congr_idx (show b + (k - b) = k by omega)).trans he) (fun j hj hjk => by
            rw [List.getElem_drop]
            exact HX.out.2.2.1 (b + j) (by rw [List.length_drop] at hj; omega) (by omega) (by omega))
          rw [HX.out.2.1, this, List.append_assoc, List.drop_drop, show b + (k - b + 1) = k + 1 by omega]
          rfl
        obtain ⟨x, hx⟩ : ∃ x, x = (l.drop b).take (k - b) := ⟨_, rfl⟩
        have hex : (bs l).extract b k = bs x := by rw [hx]; exact extract_bs l b k
        rw [← hx] at hnew
        have HNEW := Lib.hid hnew
        have hcell1 : ∀ (j : Nat) (y : Value), ([.string (bs x)] : List Value)[j]? = some y → (wr.alloc (.cells #[.string (bs x)] 9)).cell? ((⟨wr.heap.size, 0, none⟩ : Addr).add j) = some y := by
          intro j y hj
          match j, hj with
          | 0, hj => simp at hj; subst hj; rw [add_plainL]; exact cell_new _ _ _
          | j + 1, hj => simp at hj
        have hone1 : ∀ y ∈ ([.string (bs x)] : List Value), y.oneCell' = true := fun y hy => by simp at hy; subst hy; rfl
        have HC1 := Lib.hid hcell1; have HO1 := Lib.hid hone1
        clear hnew hx hcell1 hone1 he hstart hge hex0
        go_wp2_with (at_builtin; refine wpList_app _ rfl _ _ 59 rfl w.heap.size 9 i0 (.string ⟨#[]⟩) 16 Try.underlying59 hi hz0 hz1 hz2 rfl _ p (strVN P) rfl (own_below HX.out.2.2.2.1 (below_alloc _ _)) ⟨wr.heap.size, 0, none⟩ 1 1 [.string (bs x)] rfl rfl HC1.out HO1.out (by unfold maxLen; omega) (by omega) (by have := HX.out.2.2.2.2.size; simp; omega) ?_; intro v3 w3 hown3 hgr3 _; obtain ⟨q3, d3, ev3⟩ := own_slice hown3; subst ev3; have HO3 := Lib.hid hown3; have HB3 := Lib.hid ((HX.out.2.2.2.2.alloc HX.out.2.2.2.2.size (.cells #[.string (bs x)] 9)).grown hgr3 (by have := HX.out.2.2.2.2.size; simp; omega) (fun r e => (HX.out.2.2.2.1.lt r e).1)); clear hown3 hgr3)
        go_roundw
        case rel => exact ⟨k + 1, k + 1, p + 1, d3, q3, P ++ [x], by go_num, by go_num, rfl, by omega, Nat.le_refl _, by omega, by rw [List.length_append, ← HX.out.1]; rfl, HNEW.out, fun j _ h1 h2 => by omega, by have := HO3.out; simpa [strVN] using this, HB3.out⟩
        case measure => simp [intOf] <;> omega
      · rw [decide_eq_false hex0] at hq
        have he : ¬ l[k]'hk' = c := fun e => hex0 (hge.trans e)
        have hnew : Hid (∀ j (hj : j < l.length), b ≤ j → j < k + 1 → l[j] ≠ c) := fun j hj h1 h2 => by
          by_cases e : j = k
          · subst e; exact he
          · exact HX.out.2.2.1 j hj h1 (by omega)
        clear he hstart hge hex0
        go_wp2_with fail
        go_roundw
        case rel => exact ⟨k + 1, b, p, d, q, P, by go_num, rfl, rfl, by omega, by omega, hpb, HX.out.1, HX.out.2.1, hnew.out, HX.out.2.2.2.1, HX.out.2.2.2.2⟩
        case measure => simp [intOf] <;> omega
    · obtain rfl : k = N := by omega
      have hfin : R = P ++ [l.drop b] := by
        rw [HX.out.2.1, splitL_not (fun e => by
          obtain ⟨j, hj, e2⟩ := List.getElem_of_mem e
          rw [List.getElem_drop] at e2
          rw [List.length_drop] at hj
          exact HX.out.2.2.1 (b + j) (by omega) (by omega) (by have := HN.out; omega) e2)]
      obtain ⟨x, hx⟩ : ∃ x, x = l.drop b := ⟨_, rfl⟩
      have hex : (bs l).extract b k = bs x := by rw [hx, extract_bs, List.take_of_length_le (by rw [List.length_drop, ← HN.out]; exact Nat.le_refl _)]
      rw [← hx] at hfin
      have hRl : R.length = p + 1 := by rw [hfin, List.length_append, ← HX.out.1]; rfl
      have HF := Lib.hid hfin; have HRL := Lib.hid hRl
      have hcell1 : ∀ (j : Nat) (y : Value), ([.string (bs x)] : List Value)[j]? = some y → (wr.alloc (.cells #[.string (bs x)] 9)).cell? ((⟨wr.heap.size, 0, none⟩ : Addr).add j) = some y := by
        intro j y hj
        match j, hj with
        | 0, hj => simp at hj; subst hj; rw [add_plainL]; exact cell_new _ _ _
        | j + 1, hj => simp at hj
      have hone1 : ∀ y ∈ ([.string (bs x)] : List Value), y.oneCell' = true := fun y hy => by simp at hy; subst hy; rfl
      have HC1 := Lib.hid hcell1; have HO1 := Lib.hid hone1
      clear hfin hx hcell1 hone1 hstart hRl
      go_wp2_with (at_builtin; refine wpList_app _ rfl _ _ 59 rfl w.heap.size 9 i0 (.string ⟨#[]⟩) 16 Try.underlying59 hi hz0 hz1 hz2 rfl _ p (strVN P) rfl (own_below HX.out.2.2.2.1 (below_alloc _ _)) ⟨wr.heap.size, 0, none⟩ 1 1 [.string (bs x)] rfl rfl HC1.out HO1.out (by unfold maxLen; omega) (by omega) (by have := HX.out.2.2.2.2.size; simp; omega) ?_; intro v3 w3 hown3 hgr3 _; obtain ⟨q3, d3, ev3⟩ := own_slice hown3; subst ev3; have HO3 := Lib.hid hown3; have HB3 := Lib.hid ((HX.out.2.2.2.2.alloc HX.out.2.2.2.2.size (.cells #[.string (bs x)] 9)).grown hgr3 (by have := HX.out.2.2.2.2.size; simp; omega) (fun r e => (HX.out.2.2.2.1.lt r e).1)); clear hown3 hgr3)
      go_ret
      have ho := HO3.out
      refine ⟨q3, d3, by rw [HRL.out]; rfl, ?_, HB3.out⟩
      rw [HRL.out, HF.out]
      unfold Strs
      rw [List.length_append, ← HX.out.1]
      simpa [strVN] using ho

end Go.Proofs.Ytplcdofpikdigaa
