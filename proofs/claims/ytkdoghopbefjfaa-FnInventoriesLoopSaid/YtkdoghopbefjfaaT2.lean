/- How often digits are in a word: the program's counts, an array. -/
import Derived.Test.YtkdoghopbefjfaaT1
import Derived.Test.YtkdoghopbefjfaaI1
import Derived.Laws.Rows
import Derived.Laws.Tables
import Derived.Deep.MidRow
import Derived.Deep.WholeRow
namespace Go.Proofs.Ytkdoghopbefjfaa
open Go.RowKit Go.BigFrame
set_option linter.unusedSimpArgs false
set_option linter.unusedVariables false
set_option maxRecDepth 4000

def tvl (ts : List Nat) : List Value := ts.map fun (n : Nat) => Value.int .i64 (n : Int)
def tvA (ts : List Nat) : Array Value := (tvl ts).toArray
def aggT (ts : List Nat) : Value := .agg (tvA ts)
theorem tvl_len (ts : List Nat) : (tvl ts).length = ts.length := by simp [tvl]
theorem tvA_size (ts : List Nat) : (tvA ts).size = ts.length := by simp [tvA, tvl]
theorem tvA_one (ts : List Nat) : (tvA ts).all (·.oneCell') = true := by
  refine all_oneCell_toArray (fun v hv => ?_)
  simp only [tvl, List.mem_map] at hv
  obtain ⟨n, _, rfl⟩ := hv
  rfl
/-- A block of nine counts. -/
def BlkT (w : World) (g : Nat) (ts : List Nat) : Prop := w.heap[g]? = some (.cells (tvA ts) 65 (0, 0)) ∧ ts.length = 9
theorem blkT_lt {w : World} {g : Nat} {ts : List Nat} (h : BlkT w g ts) : g < w.heap.size := (Array.getElem?_eq_some_iff.1 h.1).1
theorem blkT_cell {w : World} {g : Nat} {ts : List Nat} (h : BlkT w g ts) {i n : Nat} (hi : ts[i]? = some n) : w.cell? ⟨g, i, none⟩ = some (.int .i64 (n : Int)) := by
  rw [cell_of_row w g i _ _ _ h.1]
  simp [tvA, tvl, hi]
theorem blkT_frozen {w : World} {g : Nat} {ts : List Nat} (h : BlkT w g ts) (i : Nat) : w.frozen? ⟨g, i, none⟩ = false := frozen_of_row w g i _ _ h.1
theorem blkT_set {w : World} {g : Nat} {ts : List Nat} (h : BlkT w g ts) (i n : Nat) : BlkT (w.setCell ⟨g, i, none⟩ (.int .i64 (n : Int))) g (ts.set i n) := by
  refine ⟨?_, by simpa using h.2⟩
  rw [heap_setCell_same w g i _ _ _ h.1]
  congr 2
  apply Array.ext'
  simp [tvA, tvl, List.map_set]
theorem blkT_below {w w' : World} {g : Nat} {ts : List Nat} (h : BlkT w g ts) (hb : Below w.heap.size w w') : BlkT w' g ts :=
  ⟨(hb.block g (blkT_lt h)).trans h.1, h.2⟩
theorem under_tally : Try.prog.underlying 65 = some (.array 9 3) := by kernel_rfl
theorem info_tally : (Try.prog.info? 65).map (·.size) = some 9 := by kernel_rfl

/-- A whole array out of its block, and into one. -/
theorem wpList_getT {w : World} {ops : Array Oper} {rest : List Oper} {o : Oper} {a : Act} {Q : Exit → Act → World → Prop} (hgd : o.guard = none) (x : Operand) (ho : o.op = .load 65 x)
    (g : Nat) (hx : a.eval x = .pointer (some ⟨g, 0, none⟩)) (ts : List Nat) (h : BlkT w g ts) (hK : wpList Try.prog ops Q rest (a.put o.dst (aggT ts)) w) : wpList Try.prog ops Q (o :: rest) a w :=
  wpList_load_row hgd 65 x ho g hx _ _ _ _ h.1 under_tally rfl (by rw [tvA_size, h.2]; exact info_tally) hK
theorem run_putT {w : World} {g : Nat} {us ts : List Nat} (h : BlkT w g us) (hl : ts.length = 9) :
    (storeVar 65 ⟨g, 0, none⟩ (aggT ts)).run Try.prog w = .ok () (w.setRow g (tvA ts)) :=
  run_storeVar_row w g 65 65 (tvA us) (tvA ts) h.1 (by rw [tvA_size, hl]; exact info_tally) (by rw [tvA_size, tvA_size, h.2, hl]) (tvA_one ts)
theorem wpList_putT {w : World} {ops : Array Oper} {rest : List Oper} {o : Oper} {a : Act} {Q : Exit → Act → World → Prop} (hgd : o.guard = none) (x y : Operand) (ho : o.op = .store 65 x y)
    (g : Nat) (hx : a.eval x = .pointer (some ⟨g, 0, none⟩)) (us ts : List Nat) (hy : a.eval y = aggT ts) (h : BlkT w g us) (hl : ts.length = 9)
    (hK : ∀ w', BlkT w' g ts → (∀ k, k ≠ g → w'.heap[k]? = w.heap[k]?) → (∀ B, B ≤ g → Below B w w') → w'.heap.size = w.heap.size → wpList Try.prog ops Q rest (a.put o.dst undef) w') : wpList Try.prog ops Q (o :: rest) a w :=
  wpList_plain hgd fun K hK' => by
    unfold Oper.wp execOp
    simp only [ho, hx, hy, Instr.storeAt, Instr.sureAddr, Sem.run_bind, Sem.run_pure, Result.andThen_ok, run_putT h hl]
    refine hK' _ _ (hK _ ⟨setRow_heap w g _ _ _ _ h.1, hl⟩ (fun k hk => setRow_other w g k _ hk) (fun B hB => ⟨rfl, rfl, rfl, by simp [World.setRow], fun k hk => setRow_other w g k _ (by omega)⟩) (by simp [World.setRow]))
theorem results_tallyT {fn : Func} {p : Tmp} (h : fn.results = #[.cell p 65]) (tmps : Array Value) (w : World) (g : Nat) (ts : List Nat)
    (hp : tmps.getD p undef = .pointer (some ⟨g, 0, none⟩)) (hg : BlkT w g ts) : (results fn tmps).run Try.prog w = .ok (aggT ts) w :=
  results_cell_row h tmps w g _ _ _ _ hp hg.1 under_tally rfl (by rw [tvA_size, hg.2]; exact info_tally)
theorem tvl_zeros : tvl (tal []) = [.int .i64 0, .int .i64 0, .int .i64 0, .int .i64 0, .int .i64 0, .int .i64 0, .int .i64 0, .int .i64 0, .int .i64 0] := by
  simp [tvl, tal, List.range_succ]
theorem digs_at {s : ByteArray} (hd : s.data.toList.all digB = true) (k : Nat) (h : k < s.size) : 49 ≤ s[k].toNat ∧ s[k].toNat ≤ 57 := by
  have := List.all_eq_true.1 hd s[k] (by have : s[k] = s.data.toList[k]'(by simpa using h) := by simp; rfl
                                         rw [this]; exact List.getElem_mem _)
  simpa [digB] using this

set_option maxHeartbeats 1000000 in
theorem tallyText_any (s : ByteArray) (w : World) (hs : s.size ≤ 400) (hd : s.data.toList.all digB = true) :
    Calls Try.prog 56 #[.string s] w fun e w' => e = .returned (aggT (tal s.data.toList)) ∧ Below w.heap.size w w' := by
  obtain ⟨N, hN⟩ : ∃ N, N = s.size := ⟨_, rfl⟩
  have HD := Lib.hid hd; clear hd
  go_enter Try.func56, Try.ntmps56
  go_wp2_with fail
  go_loopw [8] (fun i wr => ∃ (k : Nat), k ≤ s.size ∧ i = .int .i64 k ∧ Hid (BlkT wr (w.heap.size + 1) (tal (s.data.toList.take k)) ∧ BlkT wr w.heap.size (tal []) ∧ Below w.heap.size w wr)) (fun i _ => s.size - (intOf i).toNat)
  case atStart =>
    refine ⟨0, Nat.zero_le _, rfl, ⟨?_, rfl⟩, ⟨?_, rfl⟩, below_trans (below_alloc _ _) (below_alloc _ _)⟩
    · rw [List.take_zero, tvA, tvl_zeros]; exact heap_alloc2_new _ _ _
    · rw [tvA, tvl_zeros]; exact heap_alloc2_old _ _ _
  case round =>
    obtain ⟨k, hk, rfl, HX⟩ := hrel
    by_cases hlt : k < s.size
    · obtain ⟨hd1, hd2⟩ := digs_at HD.out k hlt
      have hat := tal_at (s.data.toList.take k) s[k] hd1 hd2
      have hst := tal_snoc (s.data.toList.take k) s[k] hd1 hd2
      have hcnt : (s.data.toList.take k).count s[k] ≤ 400 := Nat.le_trans List.count_le_length (by simp; omega)
      rw [← take_snoc s k hlt] at hst
      obtain ⟨n, hn⟩ : ∃ n, n = (s.data.toList.take k).count s[k] := ⟨_, rfl⟩
      obtain ⟨d, hdd⟩ : ∃ d, d = s[k].toNat - 49 := ⟨_, rfl⟩
      rw [← hn, ← hdd] at hat hst
      rw [← hn] at hcnt
      have hd9 : d < 9 := by omega
      have h1 : wr.cell? ⟨w.heap.size + 1, d, none⟩ = some (.int .i64 (n : Int)) := blkT_cell HX.out.1 hat
      have h2 : wr.frozen? ⟨w.heap.size + 1, d, none⟩ = false := blkT_frozen HX.out.1 d
      have hdig : ∀ W, Calls Try.prog 94 #[.int .u8 (s[k].toNat : Int)] W fun e w' => e = .returned (.int .i64 ((d : Int) + 1)) ∧ W = w' := fun W => by
        refine (digitOf_is _ W (by omega) (by omega)).mono ?_
        rintro e w2 ⟨rfl, rfl⟩
        exact ⟨ret_int (by omega), rfl⟩
      have HST := Lib.hid hst; have HDG := Lib.hid hdig
      clear hat hst hn hdd hd1 hd2 hdig
      go_wp2_with fail
      refine (HDG.out wr).mono ?_
      rintro e w2 ⟨rfl, rfl⟩
      go_wp2_with fail
      go_roundw
      case rel =>
        refine ⟨k + 1, by omega, by go_num, ?_, ?_, HX.out.2.2.setCell (by simp) _⟩
        · rw [HST.out]; exact blkT_set HX.out.1 d (n + 1)
        · exact ⟨(Below.heap_setCell _ _ _ _ (by simp)).trans HX.out.2.1.1, rfl⟩
      case measure => simp [intOf] <;> omega
    · obtain rfl : k = s.size := by omega
      have htk : s.data.toList.take s.size = s.data.toList := List.take_of_length_le (by simp)
      have h1 := HX.out.1
      rw [htk] at h1
      have hne : w.heap.size ≠ w.heap.size + 1 := by omega
      go_wp2_with (first
        | refine wpList_getT rfl _ rfl (w.heap.size + 1) rfl _ h1 ?_
        | (refine wpList_putT rfl _ _ rfl w.heap.size rfl _ _ rfl HX.out.2.1 (tal_len _) ?_; intro w2 hB2 _ hbb _; have hbel := HX.out.2.2.trans (hbb _ (Nat.le_refl _))))
      refine bodyPost_ret (results_tallyT rfl _ _ _ _ rfl hB2) rfl ?_
      exact ⟨rfl, hbel⟩
end Go.Proofs.Ytkdoghopbefjfaa
