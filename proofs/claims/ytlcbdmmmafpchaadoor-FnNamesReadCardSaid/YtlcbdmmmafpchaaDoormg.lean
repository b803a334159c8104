/- Chapter 8: letters of a name counted by the program: an array of twenty-six. -/
import Derived.Test.YtlcbdmmmafpchaaDoormf
import Derived.Laws.Rows
import Derived.Laws.Tables
import Derived.Deep.MidRow
import Derived.Deep.WholeRow
namespace Go.Proofs.YtlcbdmmmafpchaaDoor
open Go.RowKit Go.BigFrame
set_option linter.unusedSimpArgs false
set_option linter.unusedVariables false
set_option maxRecDepth 4000

def tvl (ts : List Nat) : List Value := ts.map fun (n : Nat) => Value.int .i64 (n : Int)
def tvA (ts : List Nat) : Array Value := (tvl ts).toArray
def aggT (ts : List Nat) : Value := .agg (tvA ts)
theorem tvl_len (ts : List Nat) : (tvl ts).length = ts.length := by simp [tvl]
theorem tvA_size (ts : List Nat) : (tvA ts).size = ts.length := by simp [tvA, tvl]
theorem tvA_one (ts : List Nat) : (tvA ts).all (·.oneCell') = true := by
  refine all_oneCell_toArray (fun v hv => ?_)
  simp only [tvl, List.mem_map] at hv
  obtain ⟨n, _, rfl⟩ := hv
  rfl
/-- A block of twenty-six counts. -/
def BlkT (w : World) (g : Nat) (ts : List Nat) : Prop := w.heap[g]? = some (.cells (tvA ts) 63 (0, 0)) ∧ ts.length = 26
theorem blkT_lt {w : World} {g : Nat} {ts : List Nat} (h : BlkT w g ts) : g < w.heap.size := (Array.getElem?_eq_some_iff.1 h.1).1
theorem blkT_cell {w : World} {g : Nat} {ts : List Nat} (h : BlkT w g ts) {i n : Nat} (hi : ts[i]? = some n) : w.cell? ⟨g, i, none⟩ = some (.int .i64 (n : Int)) := by
  rw [cell_of_row w g i _ _ _ h.1]
  simp [tvA, tvl, hi]
theorem blkT_frozen {w : World} {g : Nat} {ts : List Nat} (h : BlkT w g ts) (i : Nat) : w.frozen? ⟨g, i, none⟩ = false := frozen_of_row w g i _ _ h.1
theorem blkT_set {w : World} {g : Nat} {ts : List Nat} (h : BlkT w g ts) (i n : Nat) : BlkT (w.setCell ⟨g, i, none⟩ (.int .i64 (n : Int))) g (ts.set i n) := by
  refine ⟨?_, by simpa using h.2⟩
  rw [heap_setCell_same w g i _ _ _ h.1]
  congr 2
  apply Array.ext'
  simp [tvA, tvl, List.map_set]
theorem blkT_below {w w' : World} {g : Nat} {ts : List Nat} (h : BlkT w g ts) (hb : Below w.heap.size w w') : BlkT w' g ts :=
  ⟨(hb.block g (blkT_lt h)).trans h.1, h.2⟩
theorem under_spell : Tryd.prog.underlying 63 = some (.array 26 3) := by kernel_rfl
theorem info_spell : (Tryd.prog.info? 63).map (·.size) = some 26 := by kernel_rfl
theorem wpList_getT {w : World} {ops : Array Oper} {rest : List Oper} {o : Oper} {a : Act} {Q : Exit → Act → World → Prop} (hgd : o.guard = none) (x : Operand) (ho : o.op = .load 63 x)
    (g : Nat) (hx : a.eval x = .pointer (some ⟨g, 0, none⟩)) (ts : List Nat) (h : BlkT w g ts) (hK : wpList Tryd.prog ops Q rest (a.put o.dst (aggT ts)) w) : wpList Tryd.prog ops Q (o :: rest) a w :=
  wpList_load_row hgd 63 x ho g hx _ _ _ _ h.1 under_spell rfl (by rw [tvA_size, h.2]; exact info_spell) hK
theorem run_putT {w : World} {g : Nat} {us ts : List Nat} (h : BlkT w g us) (hl : ts.length = 26) :
    (storeVar 63 ⟨g, 0, none⟩ (aggT ts)).run Tryd.prog w = .ok () (w.setRow g (tvA ts)) :=
  run_storeVar_row w g 63 63 (tvA us) (tvA ts) h.1 (by rw [tvA_size, hl]; exact info_spell) (by rw [tvA_size, tvA_size, h.2, hl]) (tvA_one ts)
theorem wpList_putT {w : World} {ops : Array Oper} {rest : List Oper} {o : Oper} {a : Act} {Q : Exit → Act → World → Prop} (hgd : o.guard = none) (x y : Operand) (ho : o.op = .store 63 x y)
    (g : Nat) (hx : a.eval x = .pointer (some ⟨g, 0, none⟩)) (us ts : List Nat) (hy : a.eval y = aggT ts) (h : BlkT w g us) (hl : ts.length = 26)
    (hK : ∀ w', BlkT w' g ts → (∀ k, k ≠ g → w'.heap[k]? = w.heap[k]?) → (∀ B, B ≤ g → Below B w w') → w'.heap.size = w.heap.size → wpList Tryd.prog ops Q rest (a.put o.dst undef) w') : wpList Tryd.prog ops Q (o :: rest) a w :=
  wpList_plain hgd fun K hK' => by
    unfold Oper.wp execOp
    simp only [ho, hx, hy, Instr.storeAt, Instr.sureAddr, Sem.run_bind, Sem.run_pure, Result.andThen_ok, run_putT h hl]
    refine hK' _ _ (hK _ ⟨setRow_heap w g _ _ _ _ h.1, hl⟩ (fun k hk => setRow_other w g k _ hk) (fun B hB => ⟨rfl, rfl, rfl, by simp [World.setRow], fun k hk => setRow_other w g k _ (by omega)⟩) (by simp [World.setRow]))
theorem results_spellT {fn : Func} {p : Tmp} (h : fn.results = #[.cell p 63]) (tmps : Array Value) (w : World) (g : Nat) (ts : List Nat)
    (hp : tmps.getD p undef = .pointer (some ⟨g, 0, none⟩)) (hg : BlkT w g ts) : (results fn tmps).run Tryd.prog w = .ok (aggT ts) w :=
  results_cell_row h tmps w g _ _ _ _ hp hg.1 under_spell rfl (by rw [tvA_size, hg.2]; exact info_spell)
/-- The counts of the letters of a text. -/
def cntA (l : List UInt8) : List Nat := (List.range 26).map fun i => l.count (az i)
theorem cntA_len (l : List UInt8) : (cntA l).length = 26 := by simp [cntA]
theorem cntA_at (l : List UInt8) (d : Nat) (h : d < 26) : (cntA l)[d]? = some (l.count (az d)) := by simp [cntA, h]
theorem cntA_snoc (l : List UInt8) (c : UInt8) (d : Nat) (h : d < 26) (hc : c = az d) : cntA (l ++ [c]) = (cntA l).set d (l.count (az d) + 1) := by
  apply List.ext_getElem (by simp [cntA])
  intro i h1 h2
  have hi : i < 26 := by rw [cntA_len] at h1; exact h1
  rw [List.getElem_set]
  simp only [cntA, List.getElem_map, List.getElem_range]
  rw [List.count_append]
  by_cases e : d = i
  · subst e; rw [if_pos rfl, hc]; simp
  · rw [if_neg e]
    have : az d ≠ az i := fun q => by
      have := congrArg UInt8.toNat q
      unfold az at this
      rw [UInt8.toNat_ofNat', UInt8.toNat_ofNat'] at this
      omega
    rw [hc]
    simp [List.count_singleton, this]
def zT : List Nat := List.replicate 26 0
theorem cntA_nil : cntA [] = zT := by decide +kernel
theorem info_spellZ : (Tryd.prog.info? 63).map (fun i => (i.zero, i.size)) = some (some (.agg (Array.replicate 26 (.int .i64 0))), 26) := by kernel_rfl
theorem built_spell : Tryd.prog.built 63 [] = some (Array.replicate 26 (.int .i64 0)) := by kernel_rfl
theorem tvA_zero : tvA zT = Array.replicate 26 (.int .i64 0) := by
  unfold tvA tvl zT
  rw [List.map_replicate]
  exact List.toArray_replicate _ _
theorem zero_spell (W : World) : (zeroValue 63).run Tryd.prog W = .ok (.agg (tvA zT)) W := by
  obtain ⟨i4, hi4, hb4⟩ := Option.map_eq_some_iff.1 info_spellZ
  simp only [Prod.mk.injEq] at hb4
  obtain ⟨hz4, hs4⟩ := hb4
  rw [← tvA_zero] at hz4
  simp [zeroValue, typeInfo, hi4, hz4]

set_option maxHeartbeats 1000000 in
theorem spelledOut_any (n : Nat) (w : World) (h : n < 1000000) (NA : NamesAt w) :
    Calls Tryd.prog 80 #[.int .i64 (n : Int)] w fun e w' => e = .returned (.string (bs (ltN n))) ∧ Below w.heap.size w w' := by
  have HW := Lib.hid (words_any n w h NA)
  have hl := wdsN_len n
  have hfl := wdsN_flat n h
  obtain ⟨F, hF⟩ : ∃ F, F = (wdsN n).flatten := ⟨_, rfl⟩
  have hj := lib_join0 (wdsN n)
  have hlet := letters_of n h
  rw [← hF] at hj hlet hfl
  have HJ := Lib.hid (fun (W : World) (v : Value) (hs : Strs W w.heap.size v (wdsN n)) => join_any W w.heap.size v (wdsN n) [] hs (by omega) (by rw [hj]; omega))
  rw [hj] at HJ
  obtain ⟨R, hR⟩ : ∃ R, R = ltN n := ⟨_, rfl⟩
  rw [← hR] at hlet ⊢
  have HR := Lib.hid (fun (W : World) (hW : Below w.heap.size w W) => by
    obtain ⟨m, hm⟩ := NA.maxl
    have hm2 := (hW.cell (p := ⟨2, 0, none⟩) (World.block_lt_of_cell? w _ hm)).trans hm
    have := Tryd.strings_ReplaceAll (bs F) (bs [45]) (bs []) m W (by rw [bs_size]; omega) hm2 (by rw [bs_size]; simp) (by rw [bs_size, bs_size]; simp; omega)
    rw [bs_list, bs_list, bs_list, lib_strike, hlet] at this
    exact this)
  generalize wdsN n = S at *
  clear hl hfl hj hlet hR NA h hF
  go_enter Tryd.func80, Tryd.ntmps80
  go_wp2_with fail
  refine HW.out.mono ?_
  rintro e w1 ⟨u, rfl, hs, hb⟩
  have HB := Lib.hid hb; have HJ2 := Lib.hid (HJ.out w1 u hs); clear hb hs
  go_wp2_with fail
  refine HJ2.out.mono ?_
  rintro e w2 ⟨rfl, hb⟩
  have HB2 := Lib.hid (below_trans HB.out hb); clear hb
  go_wp2_with fail
  refine (HR.out _ HB2.out).mono ?_
  rintro e w3 ⟨rfl, hb⟩
  have HB3 := Lib.hid (below_trans HB2.out hb); clear hb
  go_wp2_with fail
  go_ret
  exact ⟨rfl, HB3.out⟩

set_option maxHeartbeats 2000000 in
theorem spellingOf_any (n : Nat) (w : World) (h : n < 1000000) (NA : NamesAt w) :
    Calls Tryd.prog 65 #[.int .i64 (n : Int)] w fun e w' => e = .returned (aggT (cntA (ltN n))) ∧ Below w.heap.size w w' := by
  have HW := Lib.hid (fun (W : World) (hW : Below w.heap.size w W) => spelledOut_any n W h (NA.below hW))
  obtain ⟨s, hs⟩ : ∃ s, s = bs (ltN n) := ⟨_, rfl⟩
  have hsz : s.size ≤ 64 := by rw [hs, bs_size]; exact ltN_len n h
  have hd : s.data.toList = ltN n := by rw [hs]; exact bs_list _
  have hall : ∀ k (hk : k < s.size), 97 ≤ s[k].toNat ∧ s[k].toNat ≤ 122 := fun k hk => by
    have e : s[k] = s.data.toList[k]'(by simpa using hk) := by simp; rfl
    refine ltN_all n _ ?_
    rw [← hd, e]
    exact List.getElem_mem _
  rw [← hs] at HW
  rw [← hd]
  have HALL := Lib.hid hall
  have hzf := zero_spell
  obtain ⟨Z, hZ⟩ : ∃ Z, Z = tvA zT := ⟨_, rfl⟩
  have hbu : Tryd.prog.built 63 [] = some Z := by rw [hZ, tvA_zero]; exact built_spell
  have hst : (Tryd.prog.info? 63).map (·.size) = some Z.size := by rw [hZ, tvA_size]; exact info_spell
  have hZ1 : Z.all (·.oneCell') = true := by rw [hZ]; exact tvA_one _
  rw [← hZ] at hzf
  have HZ := Lib.hid (show Z = tvA (cntA []) by rw [hZ, cntA_nil])
  clear hs hd h NA hall hZ
  go_enter Tryd.func65, Tryd.ntmps65
  go_wp2_with (first
    | (refine wpList_build rfl 63 _ rfl (by simp [hbu]) ?_; simp only [List.map_toArray, List.map_nil, hbu, Option.getD_some]))
  refine (HW.out _ (below_alloc _ _)).mono ?_
  rintro e w1 ⟨rfl, hb⟩
  have hz0 : Hid (w1.heap[w.heap.size]? = some (.cells Z 63 (0, 0))) := by
    refine (hb.block w.heap.size (by simp)).trans ?_
    exact heap_alloc_new _ _
  have hlt1 : w.heap.size < w1.heap.size := by have := hb.size; simp at this; omega
  have HB := Lib.hid (below_trans (below_alloc _ _) hb); clear hb
  go_wp2_with (first
    | (refine wpList_store_row rfl 63 _ _ rfl w1.heap.size Z rfl rfl 63 Z (heap_alloc_new _ _) hst rfl hZ1 ?_; rw [setRow_self _ _ _ _ _ (heap_alloc_new _ _)]))
  go_loopw [11] (fun i wr => ∃ (k : Nat), k ≤ s.size ∧ i = .int .i64 (k : Int) ∧ Hid (BlkT wr w1.heap.size (cntA (s.data.toList.take k)) ∧ BlkT wr w.heap.size (cntA []) ∧ Below w.heap.size w wr)) (fun i _ => s.size - (intOf i).toNat)
  case atStart =>
    refine ⟨0, Nat.zero_le _, rfl, ⟨?_, cntA_len _⟩, ⟨?_, cntA_len _⟩, ?_⟩
    · rw [List.take_zero, ← HZ.out]; exact heap_alloc_new _ _
    · rw [← HZ.out]; exact (heap_alloc_old _ _ hlt1).trans hz0.out
    · exact HB.out.alloc HB.out.size _
  case round =>
    obtain ⟨k, hk, rfl, HX⟩ := hrel
    by_cases hlt : k < s.size
    · obtain ⟨hd1, hd2⟩ := HALL.out k hlt
      obtain ⟨d, hdd⟩ : ∃ d, d = s[k].toNat - 97 := ⟨_, rfl⟩
      have hd9 : d < 26 := by omega
      have hc : s[k] = az d := by unfold az; apply UInt8.toNat_inj.1; rw [UInt8.toNat_ofNat']; omega
      have hat := cntA_at (s.data.toList.take k) d hd9
      have hst := cntA_snoc (s.data.toList.take k) s[k] d hd9 hc
      have hcnt : (s.data.toList.take k).count (az d) ≤ 64 := Nat.le_trans List.count_le_length (by simp; omega)
      rw [← take_at s k hlt] at hst
      obtain ⟨m, hm⟩ : ∃ m, m = (s.data.toList.take k).count (az d) := ⟨_, rfl⟩
      rw [← hm] at hat hst hcnt
      have h1 : wr.cell? ⟨w1.heap.size, d, none⟩ = some (.int .i64 (m : Int)) := blkT_cell HX.out.1 hat
      have h2 : wr.frozen? ⟨w1.heap.size, d, none⟩ = false := blkT_frozen HX.out.1 d
      have hsub : IntKind.u8.wrap ((s[k].toNat : Int) - 97) = (d : Int) := by rw [IntKind.wrap_u8]; omega
      have hsub2 : (s[k].toNat : Int) - 97 = (d : Int) := by omega
      have hmod : (d : Int) % 256 = (d : Int) := by omega
      have HST := Lib.hid hst
      have HLT := Lib.hid hlt1
      clear hat hst hm hdd hd1 hd2 hc
      go_wp2_with fail
      go_roundw
      case rel =>
        refine ⟨k + 1, by omega, by go_num, ?_, ?_, HX.out.2.2.setCell (by simp; have := HLT.out; omega) _⟩
        · rw [HST.out]; exact blkT_set HX.out.1 d (m + 1)
        · exact ⟨(Below.heap_setCell _ _ _ _ (by simp; have := HLT.out; omega)).trans HX.out.2.1.1, HX.out.2.1.2⟩
      case measure => simp [intOf] <;> omega
    · obtain rfl : k = s.size := by omega
      have htk : s.data.toList.take s.size = s.data.toList := List.take_of_length_le (by simp)
      have h1 := HX.out.1
      rw [htk] at h1
      have hne : w.heap.size ≠ w1.heap.size := by omega
      go_wp2_with (first
        | refine wpList_getT rfl _ rfl w1.heap.size rfl _ h1 ?_
        | (refine wpList_putT rfl _ _ rfl w.heap.size rfl _ _ rfl HX.out.2.1 (cntA_len _) ?_; intro w2 hB2 _ hbb _; have hbel := HX.out.2.2.trans (hbb _ (Nat.le_refl _))))
      refine bodyPost_ret (results_spellT rfl _ _ _ _ rfl hB2) rfl ?_
      exact ⟨rfl, hbel⟩
end Go.Proofs.YtlcbdmmmafpchaaDoor
