/- CountWords: the model's and the program's, and the law. -/
import Derived.Test.YtdlhahigiooddaaJ3
import Derived.Test.YtdlhahigiooddaaP0
import Derived.BigQuiet
import Derived.Deep.QuietTactic
import Derived.IntWalk
import Derived.RegionTactic
import Derived.ChangeAlike
import Derived.Outline
namespace Go.Proofs.Ytdlhahigiooddaa
open Go.RowKit Go.BigFrame
set_option linter.unusedSimpArgs false
set_option linter.unusedVariables false
set_option maxRecDepth 4000

theorem info_int3 : (Try.prog.info? 3).map (fun i => (i.zero, i.size, i.bytes)) = some (some (.int .i64 0), 1, 8) := by kernel_rfl
/-- A table of numbers of the call's own. -/
def tblV (e : List Nat) : List Value := e.map (fun (n : Nat) => .int .i64 (n : Int))
def Tab (w : World) (B g cap : Nat) (e : List Nat) : Prop := w.ownsRow B 3 1 (.slice (some ⟨g, 0, none⟩) e.length cap) e.length (tblV e)
theorem tab_get {w : World} {B g cap : Nat} {e : List Nat} (h : Tab w B g cap e) (i : Nat) (hi : i < e.length) : w.cell? ⟨g, i, none⟩ = some (.int .i64 ((e.getD i 0 : Nat) : Int)) ∧ w.frozen? ⟨g, i, none⟩ = false := by
  refine ⟨?_, h.frozenAt i⟩
  rw [h.cellAt i (by simpa using hi)]
  simp [tblV, List.getD, hi]
theorem tab_set {w : World} {B g cap : Nat} {e : List Nat} (h : Tab w B g cap e) (i x : Nat) : Tab (w.setCell ⟨g, i, none⟩ (.int .i64 (x : Int))) B g cap (e.set i x) := by
  have := (h.stored i (.int .i64 (x : Int))).1
  unfold Tab tblV at *
  rw [List.length_set, List.map_set]
  exact this
theorem tab_other {w : World} {B g cap q : Nat} {e : List Nat} (h : Tab w B g cap e) (hq : q ≠ g) (i : Nat) (x : Value) : Tab (w.setCell ⟨q, i, none⟩ x) B g cap e :=
  own_block h (fun k hk => Below.heap_setCell _ _ _ _ (fun e' => by cases hk; exact hq e'.symm))
theorem tab_drewN {w : World} {B g cap : Nat} {e : List Nat} (h : Tab w B g cap e) (n : Nat) : Tab (w.drewN n) B g cap e := own_below h (belowN _ _ _)
theorem tab_facts {w : World} {B g cap : Nat} {e : List Nat} (h : Tab w B g cap e) : B ≤ g ∧ g < w.heap.size ∧ e.length ≤ cap ∧ cap ≤ 9223372036854775807 := by
  rcases own_open h with ⟨hx, _⟩ | ⟨g', cap', hx, h1, h2, h3, h4, _⟩
  · cases hx
  · cases hx
    unfold maxLen at h4
    exact ⟨h1, h2, h3, by omega⟩
theorem le_sum_getD : ∀ (l : List Nat) (i : Nat), l.getD i 0 ≤ l.sum
  | [], i => by simp [List.getD]
  | a :: r, 0 => by simp [List.getD]
  | a :: r, i + 1 => by
    have := le_sum_getD r i
    simp only [List.getD_cons_succ, List.sum_cons]; omega
theorem outer_len (d L : Nat) : ∀ k, (outer d L k).length = L + 1
  | 0 => by simp [outer]
  | k + 1 => by simp [outer, inner_len]
/-- What the model's inner loop writes stays small. -/
theorem inner_step_small (d L k r : Nat) (hd : 1 ≤ d) (hd9 : d ≤ 9) (hL : 1 ≤ L) (hr : r + 1 ≤ L) (hk : k ≤ 17) :
    (inner d L (outer d L k) r).getD 1 0 + (outer d L k).getD (r + 1) 0 * (d - 1) ≤ 9 ^ 19 ∧ (outer d L k).getD (r + 1) 0 ≤ 9 ^ 19 := by
  have h1 := inner_small d L k (r + 1) hd hd9 hL hr hk
  have h2 := (inner_facts d L (outer d L k) hd hL (r + 1) hr).2.2
  have h3 := (inner_facts d L (outer d L k) hd hL r (by omega)).2.2
  have h4 := le_sum_getD (inner d L (outer d L k) (r + 1)) 1
  have hp : part (outer d L k) (r + 1) = part (outer d L k) r + (outer d L k).getD (r + 1) 0 := rfl
  have h5 := le_sum_getD (outer d L k) (r + 1)
  have h6 := outer_sum d L hd hL k
  have h7 : d ^ (k + 1) ≤ 9 ^ 18 := Nat.le_trans (Nat.pow_le_pow_left hd9 _) (Nat.pow_le_pow_right (by omega) (by omega))
  have h8 : (9 : Nat) ^ 18 ≤ 9 ^ 19 := by decide
  have hc : (outer d L k).getD (r + 1) 0 * (d - 1) = (d - 1) * (outer d L k).getD (r + 1) 0 := Nat.mul_comm _ _
  refine ⟨?_, by omega⟩
  rw [h3, hc, ← Nat.mul_add, ← hp, ← h2]
  exact Nat.le_trans h4 h1

theorem tab_made {w : World} {B g cap L : Nat} (h : w.ownsRow B 3 1 (.slice (some ⟨g, 0, none⟩) (L + 1) cap) (L + 1) (madeCells (Value.int .i64 0).cells ((L + 1) * 1)).toList) : Tab w B g cap (List.replicate (L + 1) 0) := by
  unfold Tab tblV
  rw [List.length_replicate, List.map_replicate]
  have e : (madeCells (Value.int .i64 0).cells ((L + 1) * 1)).toList = List.replicate (L + 1) (.int .i64 0) := by
    rw [Nat.mul_one]; exact toList_madeCells_one _ _
  rw [e] at h
  exact h
theorem tab_grown {w w1 : World} {B g cap : Nat} {e : List Nat} (h : Tab w B g cap e) (hg : w.grownBy w1 none) : Tab w1 B g cap e := h.kept hg (.inr (by simp [Value.ownBlock]))

set_option maxRecDepth 100000 in
set_option maxHeartbeats 4000000 in
theorem specCW_good (n c L : Nat) (w : World) (n1 : 1 ≤ n) (n2 : n ≤ 18) (d2 : c + 1 ≤ 9) (l1 : 1 ≤ L) (l2 : L ≤ 18) :
    Calls Try.prog 49 #[.int .i64 n, .int .i64 (c + 1 : Nat), .int .i64 L] w fun e w' => e = .returned (.tuple #[.int .i64 (specCW n (c + 1) L : Nat), .bool true]) ∧ Below w.heap.size w w' := by
  obtain ⟨i0, hi, hz0, hz1, hz2⟩ := info_parts info_int3
  have a1 : decide ((1 : Int) ≤ n ∧ (n : Int) ≤ 18) = true := by simp; omega
  have a2 : decide ((1 : Int) ≤ (c + 1 : Nat) ∧ ((c + 1 : Nat) : Int) ≤ 9) = true := by simp; omega
  have a3 : decide ((1 : Int) ≤ L ∧ (L : Int) ≤ 18) = true := by simp; omega
  have A1 := Lib.hid a1; have A2 := Lib.hid a2; have A3 := Lib.hid a3; clear a1 a2 a3
  have HLL := Lib.hid (show (L : Int) + 1 = ((L + 1 : Nat) : Int) by omega)
  obtain ⟨d, hd⟩ : ∃ d, d = c + 1 := ⟨_, rfl⟩
  have HD := Lib.hid hd
  rw [← hd] at A2 d2 ⊢
  have d1 : 1 ≤ d := by omega
  clear hd
  go_enter Try.func49, Try.ntmps49
  go_wp2_with fail
  refine (l1In_is true _ _ _ _ A1.out).mono ?_
  rintro e w1 ⟨rfl, rfl⟩
  go_wp2_with fail
  refine (l1In_is true _ _ _ _ A2.out).mono ?_
  rintro e w1 ⟨rfl, rfl⟩
  go_wp2_with fail
  refine (l1In_is true _ _ _ _ A3.out).mono ?_
  rintro e w1 ⟨rfl, rfl⟩
  go_wp2_with (refine wpList_make_full _ rfl _ _ 37 rfl w.heap.size 3 i0 (.int .i64 0) 1 Try.underlying37 hi hz0 hz1 .i64 .i64 ((L : Int) + 1) ((L : Int) + 1) (L + 1) rfl rfl HLL.out HLL.out (by rw [hz2]; omega) (by unfold maxLen; omega) (Nat.le_refl _) ?_; intro w1 hown hgr; have ht := tab_made hown; have hc1 := (tab_get ht 1 (by simp; omega)).1; have hf1 := (tab_get ht 1 (by simp; omega)).2; have HT := Lib.hid ht; have HB := Lib.hid ((Below.refl w.heap.size w).grown hgr (Nat.le_refl _) (fun k h => by cases h)); clear hown hgr ht)
  go_loopw [8, 9] (fun e kv wr => ∃ (k g : Nat), kv = .int .i64 (k + 1 : Nat) ∧ k + 1 ≤ n ∧ e = .slice (some ⟨g, 0, none⟩) (L + 1) (L + 1) ∧ Hid (Tab wr w.heap.size g (L + 1) (outer d L k) ∧ Below w.heap.size w wr)) (fun _ kv _ => n - (intOf kv).toNat)
  case atStart => exact ⟨0, w.heap.size, rfl, n1, rfl, tab_set HT.out 1 d, HB.out.setCell (p := ⟨w.heap.size, 1, none⟩) (Nat.le_refl _) _⟩
  case round =>
    obtain ⟨k, g, rfl, hk, rfl, HX⟩ := hrel
    by_cases hlt : k + 1 < n
    · have hszw := HX.out.2.size
      go_wp2_with (refine wpList_make_full _ rfl _ _ 37 rfl w.heap.size 3 i0 (.int .i64 0) 1 Try.underlying37 hi hz0 hz1 .i64 .i64 ((L : Int) + 1) ((L : Int) + 1) (L + 1) rfl rfl HLL.out HLL.out (by rw [hz2]; omega) (by unfold maxLen; omega) hszw ?_; intro w2 hown hgr; have HT2 := Lib.hid (tab_made hown); have HE2 := Lib.hid (tab_grown HX.out.1 hgr); have HB2 := Lib.hid (HX.out.2.grown hgr hszw (fun k h => by cases h)); have hgg := (tab_facts HX.out.1).2.1; clear hown hgr)
      have hhw : w.heap.size ≤ wr.heap.size := hszw
      have hne : g ≠ wr.heap.size := by omega
      clear hgg hszw HX HB HT hc1 hf1
      generalize wr.heap.size = h at *
      obtain ⟨e, he⟩ : ∃ e, e = outer d L k := ⟨_, rfl⟩
      rw [← he] at HE2
      have HEE := Lib.hid he; clear he
      have HEL : Hid (e.length = L + 1) := by rw [HEE.out]; exact outer_len d L k
      have hkk : k ≤ 17 := by omega
      go_loopw [11] (fun rv wr => ∃ r : Nat, rv = .int .i64 (r + 1 : Nat) ∧ r ≤ L ∧ Hid (Tab wr w.heap.size h (L + 1) (inner d L e r) ∧ Tab wr w.heap.size g (L + 1) e ∧ Below w.heap.size w wr)) (fun rv _ => L + 1 - (intOf rv).toNat)
      case atStart => exact ⟨0, rfl, Nat.zero_le _, HT2.out, HE2.out, HB2.out⟩
      case round =>
        obtain ⟨r, rfl, hr, HY⟩ := hrel
        by_cases hrl : r < L
        · have hsm := inner_step_small d L k r d1 d2 l1 hrl hkk
          rw [← HEE.out] at hsm
          have hi1 := tab_get HY.out.1 1 (by rw [inner_len]; omega)
          have he1 := (tab_get HY.out.2.1 (r + 1) (by rw [HEL.out]; omega)).1
          obtain ⟨a, ha⟩ : ∃ a, a = (inner d L e r).getD 1 0 := ⟨_, rfl⟩
          obtain ⟨b, hb⟩ : ∃ b, b = e.getD (r + 1) 0 := ⟨_, rfl⟩
          rw [← ha, ← hb] at hsm
          rw [← ha] at hi1
          rw [← hb] at he1
          have hcc : d - 1 = c := by rw [HD.out]; omega
          rw [hcc] at hsm
          obtain ⟨x, hx⟩ : ∃ x, x = b * c := ⟨_, rfl⟩
          rw [← hx] at hsm
          have h19 : (9 : Nat) ^ 19 = 1350851717672992089 := by decide
          rw [h19] at hsm
          obtain ⟨hs1, hs2⟩ := hsm
          obtain ⟨hi1, hif⟩ := hi1
          have hw1 : IntKind.i64.wrap ((d : Int) - 1) = (c : Int) := by rw [IntWalk.i64_in _ (by omega)]; have := HD.out; omega
          have hw2 : IntKind.i64.wrap ((b : Int) * (c : Int)) = (x : Int) := by rw [IntWalk.i64_in _ (by rw [← Int.natCast_mul, ← hx]; omega), ← Int.natCast_mul, ← hx]
          have hw3 : IntKind.i64.wrap ((a : Int) + (x : Int)) = ((a + x : Nat) : Int) := by rw [IntWalk.i64_in _ (by omega)]; omega
          have HA := Lib.hid ha; have HBB := Lib.hid hb; have HXX := Lib.hid hx
          have HI1 := Lib.hid hi1
          clear ha hb hx hcc h19
          by_cases hrl2 : r + 1 < L
          · have hf2 := (tab_get HY.out.1 (r + 1 + 1) (by rw [inner_len]; omega)).2
            have hi2 := (tab_get HY.out.1 (r + 1 + 1) (by rw [inner_len]; omega)).1
            obtain ⟨z, hz⟩ : ∃ z, z = (inner d L e r).getD (r + 1 + 1) 0 := ⟨_, rfl⟩
            rw [← hz] at hi2
            clear hz
            go_wp2_with fail
            go_region
            have hT1 : Tab (wr.setCell ⟨h, 1, none⟩ (.int .i64 ((a : Int) + (x : Int)))).drew w.heap.size h (L + 1) ((inner d L e r).set 1 (a + x)) := by
              have := tab_set HY.out.1 1 (a + x)
              rw [Int.natCast_add] at this
              exact own_below this (below_drew _)
            have hE1 : Tab (wr.setCell ⟨h, 1, none⟩ (.int .i64 ((a : Int) + (x : Int)))).drew w.heap.size g (L + 1) e := own_below (tab_other HY.out.2.1 (fun e => hne e.symm) 1 _) (below_drew _)
            have hB1 : Below w.heap.size w (wr.setCell ⟨h, 1, none⟩ (.int .i64 ((a : Int) + (x : Int)))).drew := (HY.out.2.2.setCell (p := ⟨h, 1, none⟩) hhw _).trans (belowN _ _ 1)
            clear hi1 hif he1 hf2 hi2 hw1 hw2 hw3
            generalize (wr.setCell ⟨h, 1, none⟩ (.int .i64 ((a : Int) + (x : Int)))).drew = W1 at *
            have he2 := (tab_get hE1 (r + 1) (by rw [HEL.out]; omega)).1
            rw [← HBB.out] at he2
            have hg2 := tab_get hT1 (r + 1 + 1) (by rw [List.length_set, inner_len]; omega)
            obtain ⟨z2, hz2⟩ : ∃ z2, z2 = ((inner d L e r).set 1 (a + x)).getD (r + 1 + 1) 0 := ⟨_, rfl⟩
            rw [← hz2] at hg2
            obtain ⟨hg3, hg4⟩ := hg2
            have HT1 := Lib.hid hT1; have HE1 := Lib.hid hE1; have HB1 := Lib.hid hB1
            clear hz2 hT1 hE1 hB1
            have hin : Hid (inner d L e (r + 1) = ((inner d L e r).set 1 (a + x)).set (r + 1 + 1) b) := by
              show (if r + 1 < L then _ else _) = _
              rw [if_pos hrl2, HXX.out, HA.out, HBB.out, HD.out]; rfl
            go_wp2_with fail
            go_roundw
            case rel => exact ⟨r + 1, by go_num, by omega, by rw [hin.out]; exact tab_set HT1.out (r + 1 + 1) b, tab_other HE1.out (fun e => hne e.symm) _ _, HB1.out.setCell (p := ⟨h, r + 1 + 1, none⟩) hhw _⟩
            case measure => simp [intOf] <;> omega
          · have hin : Hid (inner d L e (r + 1) = (inner d L e r).set 1 (a + x)) := by
              show (if r + 1 < L then _ else _) = _
              rw [if_neg hrl2, HXX.out, HA.out, HBB.out, HD.out]; rfl
            go_wp2_with fail
            go_region
            go_wp2_with fail
            go_roundw
            case rel => exact ⟨r + 1, by go_num, by omega, by rw [hin.out]; have := tab_set HY.out.1 1 (a + x); rw [Int.natCast_add] at this; exact own_below this (below_drew _), own_below (tab_other HY.out.2.1 (fun e => hne e.symm) 1 _) (below_drew _), (HY.out.2.2.setCell (p := ⟨h, 1, none⟩) hhw _).trans (belowN _ _ 1)⟩
            case measure => simp [intOf] <;> omega
        · obtain rfl : r = L := by omega
          go_wp2_with fail
          go_roundw
          case rel => exact ⟨k + 1, h, by go_num, by omega, rfl, by rw [show outer d r (k + 1) = inner d r (outer d r k) r from rfl, ← HEE.out]; exact HY.out.1, HY.out.2.2⟩
          case measure => simp [intOf] <;> omega
    · obtain rfl : n = k + 1 := by omega
      obtain ⟨e, he⟩ : ∃ e, e = outer d L k := ⟨_, rfl⟩
      have hel : e.length = L + 1 := by rw [he]; exact outer_len d L k
      have hsum : e.sum ≤ 9 ^ 18 := by
        rw [he]
        exact Nat.le_trans (outer_sum d L d1 l1 k) (Nat.le_trans (Nat.pow_le_pow_left d2 _) (Nat.pow_le_pow_right (by omega) (by omega)))
      have h18 : (9 : Nat) ^ 18 = 150094635296999121 := by decide
      rw [h18] at hsum
      have HT3 : Hid (Tab wr w.heap.size g (L + 1) e) := by rw [he]; exact HX.out.1
      have HB3 := Lib.hid HX.out.2
      have HEQ := Lib.hid he; have HEL := Lib.hid hel; have HSUM := Lib.hid hsum
      clear he hel h18 hsum HX HB HT hc1 hf1
      go_wp2_with fail
      go_loop [12, 73] (fun sv iv => ∃ j : Nat, j ≤ L + 1 ∧ iv = .int .i64 j ∧ sv = .int .i64 ((e.take j).sum : Nat)) (fun _ iv => L + 1 - (intOf iv).toNat)
      case atStart => exact ⟨0, Nat.zero_le _, rfl, rfl⟩
      case round =>
        obtain ⟨j, hj, rfl, rfl⟩ := hrel
        by_cases hjl : j < L + 1
        · have hje : j < e.length := by rw [HEL.out]; exact hjl
          have hcj := (tab_get HT3.out j hje).1
          have hst : (e.take (j + 1)).sum = (e.take j).sum + e.getD j 0 := by
            rw [List.take_succ_eq_append_getElem hje, List.sum_append]; simp [List.getD, hje]
          have hle : (e.take (j + 1)).sum ≤ e.sum := by
            conv => rhs; rw [← List.take_append_drop (j + 1) e, List.sum_append]
            omega
          have hbd : (e.take j).sum + e.getD j 0 ≤ 150094635296999121 := by have := HSUM.out; omega
          have HST := Lib.hid hst
          clear hst hle
          obtain ⟨x, hx⟩ : ∃ x, x = e.getD j 0 := ⟨_, rfl⟩
          obtain ⟨y, hy⟩ : ∃ y, y = (e.take j).sum := ⟨_, rfl⟩
          rw [← hx] at hcj
          rw [← hx, ← hy] at hbd
          rw [← hy]
          have HX := Lib.hid hx; have HY := Lib.hid hy
          clear hx hy
          go_wp2_with fail
          go_round
          case rel => exact ⟨j + 1, by omega, by go_num, by rw [HST.out, ← HX.out, ← HY.out]; go_num⟩
          case measure => simp [intOf] <;> omega
        · obtain rfl : j = L + 1 := by omega
          have hall : Hid ((e.take (L + 1)).sum = specCW (k + 1) (c + 1) L) := by
            rw [List.take_of_length_le (by rw [HEL.out]; exact Nat.le_refl _), HEQ.out, HD.out]; rfl
          go_wp2_with fail
          go_ret2
          exact ⟨by rw [hall.out, ← HD.out]; rfl, HB3.out⟩
end Go.Proofs.Ytdlhahigiooddaa
