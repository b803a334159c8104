/- Where a text splits: the program's splitPlaces, the model's elSplits. -/
import Derived.Test.YtgmknehioadjhaaK7
import Derived.Test.YtgmknehioadjhaaE1
import Derived.Test.YtgmknehioadjhaaR2
namespace Go.Proofs.Ytgmknehioadjhaa
open Go.RowKit Go.BigFrame Go.Shelf
set_option linter.unusedSimpArgs false
set_option linter.unusedVariables false
set_option maxRecDepth 4000
attribute [local go_sem] Oper.semAt_some

/-- Does a text split at a place? -/
def splitB (l : List UInt8) (p : Nat) : Bool := apartB (l.take p) (l.drop p)
/-- The places before q at which a text splits. -/
def splitsTo (l : List UInt8) (q : Nat) : List Nat := (List.range q).filter (fun p => decide (1 ≤ p) && splitB l p)
def splitsL (l : List UInt8) : List Nat := splitsTo l l.length
theorem splitsTo_succ (l : List UInt8) (q : Nat) (h1 : 1 ≤ q) : splitsTo l (q + 1) = splitsTo l q ++ if splitB l q = true then [q] else [] := by
  unfold splitsTo
  rw [List.range_succ, List.filter_append]
  congr 1
  simp only [List.filter_cons, List.filter_nil]
  by_cases h : splitB l q = true <;> simp [h, h1]
theorem splitsTo_one (l : List UInt8) : splitsTo l 1 = [] := by simp [splitsTo, List.range_succ]
theorem splitsTo_zero (l : List UInt8) : splitsTo l 0 = [] := rfl
theorem splitsTo_len (l : List UInt8) (q : Nat) : (splitsTo l q).length ≤ q := by
  unfold splitsTo
  exact Nat.le_trans (List.length_filter_le _ _) (by simp)
def natsI (l : List Nat) : List Int := l.map (fun (n : Nat) => (n : Int))
theorem natsI_len (l : List Nat) : (natsI l).length = l.length := by simp [natsI]
/-- What is behind a place can be said. -/
theorem sayB_drop {l : List UInt8} (h : sayB l = true) {p : Nat} (hp : p < l.length) : sayB (l.drop p) = true := by
  obtain ⟨h1, h2, h3⟩ := sayB_iff.1 h
  refine sayB_iff.2 ⟨?_, ?_, ?_⟩
  · intro e; have := congrArg List.length e; simp at this; omega
  · rw [List.all_eq_true] at h2 ⊢
    exact fun x hx => h2 x (List.drop_subset _ _ hx)
  · exact Nat.le_trans (longL_drop l p) h3
theorem list_to (s : ByteArray) (k : Nat) : (s.extract 0 k).data.toList = s.data.toList.take k := by rw [list_extract]; simp
theorem list_from (s : ByteArray) (k : Nat) : (s.extract k s.size).data.toList = s.data.toList.drop k := by
  rw [list_extract, List.take_of_length_le (by rw [List.length_drop, size_list]; exact Nat.le_refl _)]
theorem all_take {l : List UInt8} (h : l.all digB = true) (k : Nat) : (l.take k).all digB = true := by
  rw [List.all_eq_true] at h ⊢
  exact fun x hx => h x (List.mem_of_mem_take hx)
theorem elApart_at (s : ByteArray) (k : Nat) (W : World) (hsp : sayB s.data.toList = true) (hs : s.size ≤ 120) (h1 : 1 ≤ k) (hk : k < s.size) :
    Calls Try.prog 94 #[.string (s.extract 0 k), .string (s.extract k s.size)] W fun e w' => e = .returned (.bool (splitB s.data.toList k)) ∧ Below W.heap.size W w' := by
  have h := elApart_any (s.extract 0 k) (s.extract k s.size) W (by rw [list_from]; exact sayB_drop hsp (by rw [size_list]; exact hk)) (by rw [← size_list, list_from, List.length_drop, size_list]; omega)
    (by rw [← size_list, list_to, List.length_take, size_list]; omega) (by rw [← size_list, list_to, List.length_take, size_list]; omega) (by rw [list_to]; exact all_take (sayB_iff.1 hsp).2.1 k)
  rw [list_to, list_from] at h
  exact h

set_option maxHeartbeats 1000000 in
theorem elSplits_any (s : ByteArray) (w : World) (hsp : sayB s.data.toList = true) (hs : s.size ≤ 120) :
    Calls Try.prog 84 #[.string s] w fun e w' => ∃ v, e = .returned v ∧ Ints w' w.heap.size v (natsI (splitsL s.data.toList)) ∧ Below w.heap.size w w' := by
  obtain ⟨i0, hi, hz0, hz1, hz2⟩ := info_parts info_int5
  have hn1 : 1 ≤ s.size := by
    have := (sayB_iff.1 hsp).1
    rw [← size_list]; exact Nat.pos_of_ne_zero (fun e => this (List.eq_nil_of_length_eq_zero e))
  have HA := Lib.hid (fun (k : Nat) (W : World) (h1 : 1 ≤ k) (hk : k < s.size) => elApart_at s k W hsp hs h1 hk)
  have HSP := Lib.hid hsp; clear hsp
  go_enter Try.func84, Try.ntmps84
  go_wp2_with fail
  go_loopw [3, 4] (fun v p wr => ∃ (k : Nat) (xs : List Int), 1 ≤ k ∧ k ≤ s.size ∧ p = .int .i64 k ∧ xs.length ≤ 120 ∧ Hid (xs = natsI (splitsTo s.data.toList k)) ∧ Hid (Ints wr w.heap.size v xs ∧ Below w.heap.size w wr)) (fun _ p _ => s.size - (intOf p).toNat)
  case atStart => exact ⟨1, [], by omega, hn1, rfl, by simp, by rw [splitsTo_one]; exact rfl, World.ownsRow_nil _ _ _ _, Below.refl _ _⟩
  case round =>
    obtain ⟨k, xs, hk1, hkn, rfl, hxl, HX, HR⟩ := hrel
    by_cases hlt : k < s.size
    · have hap := HA.out k wr.drew hk1 hlt
      have hst := splitsTo_succ s.data.toList k hk1
      cases hb : splitB s.data.toList k with
      | true =>
        rw [hb] at hap hst
        have HAP := Lib.hid hap; have HST := Lib.hid hst; clear hap hst hb
        have hlen2 : (xs ++ [(k : Int)]).length ≤ 120 := by
          have h1 := splitsTo_len s.data.toList k
          rw [HX.out]; simp [natsI_len]; omega
        go_wp2_with fail
        go_region_with (go_at_call 94; ((with_reducible refine HAP.out.mono ?_); rintro e w1 ⟨rfl, hb1⟩; have HB1 := Lib.hid hb1; clear hb1))
        all_goals
          have HR1 := Lib.hid (own_below HR.out.1 ((below_drew wr).trans (HB1.out.mono (Nat.le_refl _))))
          have HB2 := Lib.hid (HR.out.2.trans (((below_drew wr).trans (HB1.out.mono (Nat.le_refl _))).mono HR.out.2.size))
          go_wp2_with (at_builtin; refine wpList_append_own _ rfl _ _ 30 rfl w.heap.size 3 i0 (.int .i64 0) 1 8 Try.underlying30 hi hz0 hz1 hz2 rfl (by decide) _ _ _ rfl (HR1.out.alloc _) ⟨w1.heap.size, 0, none⟩ 1 1 [.int .i64 (k : Int)] rfl rfl (cell_one_new _ _ _) (by simp [Value.oneCell']) (by unfold maxLen; omega) (by omega) (by have := HB2.out.size; simp; omega) ?_; intro v' w3 hown' hgrow _)
          have hb3 := (HB2.out.alloc HB2.out.size _).grown hgrow (by have := HB2.out.size; simp; omega) (fun g hg => (HR1.out.lt g hg).1)
          have HO := Lib.hid hown'; have HB3 := Lib.hid hb3; clear hown' hgrow hb3
          go_wp2_with fail
          go_roundw
          case rel => exact ⟨k + 1, xs ++ [(k : Int)], by omega, by omega, by go_num, hlen2, Lib.hid (by rw [HST.out, HX.out]; simp [natsI]), by unfold Ints; simpa using HO.out, HB3.out⟩
          case measure => simp [intOf] <;> omega
      | false =>
        rw [hb] at hap hst
        have HAP := Lib.hid hap; have HST := Lib.hid hst; clear hap hst hb
        go_wp2_with fail
        go_region_with (go_at_call 94; ((with_reducible refine HAP.out.mono ?_); rintro e w1 ⟨rfl, hb1⟩; have HB1 := Lib.hid hb1; clear hb1))
        all_goals
          have HR1 := Lib.hid (own_below HR.out.1 ((below_drew wr).trans (HB1.out.mono (Nat.le_refl _))))
          have HB2 := Lib.hid (HR.out.2.trans (((below_drew wr).trans (HB1.out.mono (Nat.le_refl _))).mono HR.out.2.size))
          go_wp2_with fail
          go_roundw
          case rel => exact ⟨k + 1, xs, by omega, by omega, by go_num, hxl, Lib.hid (by rw [HST.out, HX.out]; simp), HR1.out, HB2.out⟩
          case measure => simp [intOf] <;> omega
    · obtain rfl : k = s.size := by omega
      go_wp2_with fail
      go_ret
      refine ⟨_, rfl, ?_, HR.out.2⟩
      have := HR.out.1
      rw [HX.out] at this
      unfold splitsL
      rw [size_list]
      exact this
end Go.Proofs.Ytgmknehioadjhaa
