/- How often digits are in a word: the model's and the program's CountsOf. -/
import Derived.Test.YtkdoghopbefjfaaT2
import Derived.Test.YtkdoghopbefjfaaE4
namespace Go.Proofs.Ytkdoghopbefjfaa
open Go.RowKit Go.BigFrame
set_option linter.unusedSimpArgs false
set_option linter.unusedVariables false
set_option maxRecDepth 4000

def ti (ts : List Nat) : List Int := ts.map fun (n : Nat) => (n : Int)
theorem tvl_ti (ts : List Nat) : tvl ts = ivs (ti ts) := by simp [tvl, ti, ivs]
theorem ti_len (ts : List Nat) : (ti ts).length = ts.length := by simp [ti]
theorem info_intT : (Try.prog.info? 3).map (fun i => (i.zero, i.size, i.bytes)) = some (some (.int .i64 0), 1, 8) := by kernel_rfl
/-- A slice of numbers and true, or nil and false. -/
def IntsAOk (o : Option (List Int)) (w w' : World) (e : Ending) : Prop :=
  ∃ v, e = .returned (.tuple #[v, .bool o.isSome]) ∧ IntsA w' w.heap.size v (o.getD []) ∧ Below w.heap.size w w' ∧ (o = none → v = .slice none 0 0)

set_option maxHeartbeats 1000000 in
theorem taCounts_any (s : ByteArray) (w : World) (hs : s.size ≤ 400) (hd : s.data.toList.all digB = true) :
    Calls Try.prog 61 #[.string s] w fun e w' => ∃ g, e = .returned (.slice (some ⟨g, 0, none⟩) 9 9) ∧ w'.ownsRow w.heap.size 3 1 (.slice (some ⟨g, 0, none⟩) 9 9) 9 (tvl (tal s.data.toList)) ∧ Below w.heap.size w w' := by
  obtain ⟨i0, hi, hz0, hz1, hz2⟩ := info_parts info_intT
  have HD := Lib.hid hd; clear hd
  go_enter Try.func61, Try.ntmps61
  go_wp2_with (refine wpList_make_full _ rfl _ _ 32 rfl w.heap.size 3 i0 (.int .i64 0) 1 Try.underlying32 hi hz0 hz1 .i64 .i64 9 9 9 rfl rfl rfl rfl (by rw [hz2]; omega) (by unfold maxLen; omega) (Nat.le_refl _) ?_; intro w1 hown hgr; have HO := Lib.hid hown; have HB := Lib.hid ((Below.refl w.heap.size w).grown hgr (Nat.le_refl _) (fun k h => by cases h)); clear hown hgr)
  go_loopw [4] (fun i wr => ∃ (k : Nat), k ≤ s.size ∧ i = .int .i64 k ∧ Hid (wr.ownsRow w.heap.size 3 1 (.slice (some ⟨w.heap.size, 0, none⟩) 9 9) 9 (tvl (tal (s.data.toList.take k))) ∧ Below w.heap.size w wr)) (fun i _ => s.size - (intOf i).toNat)
  case atStart =>
    refine ⟨0, Nat.zero_le _, rfl, ?_, HB.out⟩
    rw [List.take_zero, tvl_zeros]
    have e : (madeCells (Value.int .i64 0).cells (9 * 1)).toList = [.int .i64 0, .int .i64 0, .int .i64 0, .int .i64 0, .int .i64 0, .int .i64 0, .int .i64 0, .int .i64 0, .int .i64 0] := by rw [Nat.mul_one]; exact toList_madeCells_one _ _
    exact e ▸ HO.out
  case round =>
    obtain ⟨k, hk, rfl, HX⟩ := hrel
    by_cases hlt : k < s.size
    · obtain ⟨hd1, hd2⟩ := digs_at HD.out k hlt
      have hat := tal_at (s.data.toList.take k) s[k] hd1 hd2
      have hst := tal_snoc (s.data.toList.take k) s[k] hd1 hd2
      have hcnt : (s.data.toList.take k).count s[k] ≤ 400 := Nat.le_trans List.count_le_length (by simp; omega)
      rw [← take_snoc s k hlt] at hst
      obtain ⟨n, hn⟩ : ∃ n, n = (s.data.toList.take k).count s[k] := ⟨_, rfl⟩
      obtain ⟨d, hdd⟩ : ∃ d, d = s[k].toNat - 49 := ⟨_, rfl⟩
      rw [← hn, ← hdd] at hat hst
      rw [← hn] at hcnt
      have hd9 : d < 9 := by omega
      have h1 : wr.cell? ⟨w.heap.size, d, none⟩ = some (.int .i64 (n : Int)) := by
        rw [HX.out.1.cellAt d (by omega)]
        simp [tvl, hat]
      have h2 : wr.frozen? ⟨w.heap.size, d, none⟩ = false := HX.out.1.frozenAt d
      have hsd : (s[k].toNat : Int) = (d : Int) + 49 := by omega
      have e1 : IntKind.u8.wrap ((d : Int) + 49 - 49) = (d : Int) := by rw [show (d : Int) + 49 - 49 = d from by omega]; exact IntWalk.u8_in _ (by omega)
      have HST := Lib.hid hst
      clear hat hst hn hdd hd1 hd2
      go_wp2_with fail
      go_roundw
      case rel =>
        refine ⟨k + 1, by omega, by go_num, ?_, HX.out.2.setCell (p := ⟨w.heap.size, d, none⟩) (Nat.le_refl _) _⟩
        have := (HX.out.1.stored d (.int .i64 ((n + 1 : Nat) : Int))).1
        rw [HST.out, tvl, List.map_set]
        exact this
      case measure => simp [intOf] <;> omega
    · obtain rfl : k = s.size := by omega
      have htk : s.data.toList.take s.size = s.data.toList := List.take_of_length_le (by simp)
      go_wp2_with fail
      go_ret
      refine ⟨_, rfl, ?_, HX.out.2⟩
      have := HX.out.1
      rw [htk] at this
      exact this

theorem specCountsOf_any (s : ByteArray) (w : World) (hs : s.size ≤ maxLen) :
    Calls Try.prog 16 #[.string s] w fun e w' => IntsAOk (if goodL s.data.toList = true then some (ti (tal s.data.toList)) else none) w w' e := by
  cases hg : goodL s.data.toList with
  | false =>
    have HG := Lib.hid hg; clear hg
    go_enter Try.func16, Try.ntmps16
    go_wp2_with fail
    refine (woGood_any s w hs).mono ?_
    rintro e w1 ⟨rfl, rfl⟩
    rw [HG.out]
    go_wp2_with fail
    go_ret2
    exact ⟨_, rfl, intsA_nil _ _, Below.refl _ _, fun _ => rfl⟩
  | true =>
    obtain ⟨_, hl, hd⟩ := goodL_parts (s := s) hg
    have HG := Lib.hid hg; clear hg
    go_enter Try.func16, Try.ntmps16
    go_wp2_with fail
    refine (woGood_any s w hs).mono ?_
    rintro e w1 ⟨rfl, rfl⟩
    rw [HG.out]
    go_wp2_with fail
    refine (taCounts_any s w hl hd).mono ?_
    rintro e w1 ⟨g, rfl, ho, hb⟩
    have HO := Lib.hid ho; have HB := Lib.hid hb; clear ho hb
    go_wp2_with fail
    go_ret2
    refine ⟨_, rfl, intsA_of ?_, HB.out, fun h => by cases h⟩
    have := HO.out
    rw [tvl_ti] at this
    unfold Ints
    simpa [ti_len, tal_len] using this

theorem size_intT (w : World) : (sizeOf 3).run Try.prog w = .ok 1 w := by
  obtain ⟨i0, hi, hz0, hz1, hz2⟩ := info_parts info_intT
  simp [sizeOf, typeInfo, hi, hz1]
theorem addr_zero (b : Nat) : (⟨b, 0, none⟩ : Addr).add 0 = ⟨b, 0, none⟩ := by simp [Addr.add]
theorem run_sliceT (w : World) (b n : Nat) (hn : n ≤ 9) : (Instr.sliceAt 65 (.pointer (some ⟨b, 0, none⟩)) none (some (.int .i64 (n : Int))) (some (.int .i64 (n : Int)))).run Try.prog w = .ok (.slice (some ⟨b, 0, none⟩) n n) w := by
  simp [Instr.sliceAt, Instr.sureAddr, run_underlying under_tally, Instr.sliceBounds, run_sliceBound, size_intT, addr_zero, (by omega : n ≤ 9), (by omega : (n : Int) ≤ 9), (by omega : (0 : Int) ≤ n)]

set_option maxHeartbeats 1000000 in
theorem list_any (ts : List Nat) (n : Nat) (w : World) (h9 : ts.length = 9) (hn : n ≤ 9) :
    Calls Try.prog 59 #[aggT ts, .int .i64 n] w fun e w' => ∃ v, e = .returned v ∧ IntsA w' w.heap.size v ((ti ts).take n) ∧ Below w.heap.size w w' ∧ v.ownBlock = some w.heap.size := by
  have hsl := fun (W : World) (b : Nat) => run_sliceT W b n hn
  unfold aggT
  go_enter Try.func59, Try.ntmps59
  go_wp2_with fail
  go_ret
  refine ⟨_, rfl, .inr ⟨w.heap.size, n, 65, tvl (ts.drop n), by simp [ti, h9]; omega, Nat.le_refl _, ?_, by simp [ti]; omega, by omega⟩, below_alloc _ _, rfl⟩
  rw [heap_alloc_new]
  congr 2
  apply Array.ext'
  have e3 : ts = ts.take n ++ ts.drop n := (List.take_append_drop n ts).symm
  simp only [tvA, tvl, ivs, ti, ← List.map_take, List.map_map]
  conv => lhs; rw [e3, List.map_append]
  rfl

theorem implCountsOf_any (s : ByteArray) (w : World) (hs : s.size ≤ maxLen) :
    Calls Try.prog 15 #[.string s] w fun e w' => IntsAOk (if goodL s.data.toList = true then some (ti (tal s.data.toList)) else none) w w' e := by
  cases hg : goodL s.data.toList with
  | false =>
    have HG := Lib.hid hg; clear hg
    go_enter Try.func15, Try.ntmps15
    go_wp2_with fail
    refine (implIsWord_any s w hs).mono ?_
    rintro e w1 ⟨rfl, rfl⟩
    rw [HG.out]
    go_wp2_with fail
    go_ret2
    exact ⟨_, rfl, intsA_nil _ _, Below.refl _ _, fun _ => rfl⟩
  | true =>
    obtain ⟨_, hl, hd⟩ := goodL_parts (s := s) hg
    have HG := Lib.hid hg; clear hg
    go_enter Try.func15, Try.ntmps15
    go_wp2_with fail
    refine (implIsWord_any s w hs).mono ?_
    rintro e w1 ⟨rfl, rfl⟩
    rw [HG.out]
    go_wp2_with fail
    refine (tallyText_any s w hl hd).mono ?_
    rintro e w1 ⟨rfl, hb⟩
    have HB := Lib.hid hb; clear hb
    go_wp2_with fail
    refine (list_any (tal s.data.toList) 9 w1 (tal_len _) (Nat.le_refl _)).mono ?_
    rintro e w2 ⟨v, rfl, ho, hb, _⟩
    have HO := Lib.hid ho; have HB2 := Lib.hid hb; clear ho hb
    go_wp2_with fail
    go_ret2
    refine ⟨_, rfl, ?_, below_trans HB.out HB2.out, fun h => by cases h⟩
    have := HO.out
    rw [List.take_of_length_le (by rw [ti_len, tal_len]; omega)] at this
    exact intsA_mono this HB.out.size
end Go.Proofs.Ytkdoghopbefjfaa
