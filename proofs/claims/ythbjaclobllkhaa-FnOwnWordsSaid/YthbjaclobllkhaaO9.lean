/- OwnRun: the program's, the law. -/
import Derived.Test.YthbjaclobllkhaaO8
import Derived.Test.YthbjaclobllkhaaK13
namespace Go.Proofs.Ythbjaclobllkhaa
open Go.RowKit Go.BigFrame Go.Shelf
set_option linter.unusedSimpArgs false
set_option linter.unusedVariables false
set_option maxRecDepth 4000
attribute [local go_sem] Oper.semAt_some

set_option maxRecDepth 100000 in
set_option maxHeartbeats 1000000 in
theorem implOwnRun_any (a b n : Int) (w : World) :
    Calls Try.prog 13 #[.int .i64 a, .int .i64 b, .int .i64 n] w fun e w' => e = .returned (intOk (askB a b n 100000) (ownRn a b n)) ∧ Below w.heap.size w w' := by
  have HO := Lib.hid (fun (W : World) => ownBeginning_any a b n 100000 W (by omega))
  obtain ⟨l, y, hly, hct, hll⟩ : ∃ (l : List UInt8) (y : Bool), strOk (ownO' a b n 100000) = .tuple #[.string (bs l), .bool y] ∧ intOk (askB a b n 100000) (ownRn a b n) = .tuple #[.int .i64 (((runsL l).length : Nat) : Int), .bool y] ∧ l.length ≤ 100000 := by
    unfold ownO' ownRn
    cases h1 : askB a b n 100000 with
    | false => exact ⟨[], false, rfl, rfl, by simp⟩
    | true =>
      refine ⟨sgL (ownW a b n), true, rfl, rfl, ?_⟩
      have := ownW_len h1
      have h2 := askB_iff.1 h1
      simp [sgL]; omega
  obtain ⟨rs, hrs⟩ : ∃ rs, rs = runsL l := ⟨_, rfl⟩
  rw [← hrs] at hct
  rw [hly] at HO
  rw [hct]
  have HRS := Lib.hid hrs
  have hsz0 : (bs l).size = l.length := bs_size l
  have hbl : (bs l).data.toList = l := bs_list l
  generalize bs l = s at *
  clear hly hct hrs
  refine calls_marks Try.func13 rfl fun Q hQ => ?_
  simp only [Try.ntmps13, List.size_toArray, List.length_cons, List.length_nil, Nat.reduceAdd, Nat.reduceSub, Array.replicate_succ, Array.replicate_zero, List.push_toArray, List.append_toArray, List.nil_append, List.cons_append]
  have HBL := Lib.hid hbl; have HSZ := Lib.hid hsz0; have HLL := Lib.hid hll
  clear hbl hsz0 hll
  go_wp2_with fail
  refine (HO.out _).mono ?_
  rintro e w0 ⟨rfl, hb0⟩
  have HB0 := Lib.hid hb0; clear hb0
  go_wp2_with (refine wpList_bytes _ rfl 9 22 _ rfl 5 Try.underlying9 Try.underlying22 Try.underlying5 s rfl (by have := HSZ.out; have := HLL.out; unfold maxLen; omega) ?_; intro w1 cap hb hsz hcap hcm hcell hfr)
  have HC := Lib.hid hcell; have HB := Lib.hid hb
  clear hcell hfr hb
  go_wp2_with fail
  refine (runParts_is _ _ _ _).mono ?_
  rintro e w2 ⟨rfl, hw2⟩
  have HW2 := Lib.hid hw2; clear hw2
  have hsz' : w0.heap.size + 1 < w1.heap.size := by simpa using hsz
  have hlen : rs.length ≤ 100000 := by rw [HRS.out]; exact Nat.le_trans (runsL_len _) HLL.out
  have hvc : w1.heap[w0.heap.size]? = some (.cells #[.int .i64 ((([] : List (UInt8 × Nat)).length : Nat) : Int)] 3 (0, 0)) :=
    (HB.out.block w0.heap.size (by simp)).trans (Go.Deep.blk_alloc_new _ _)
  have hB1 : Below w.heap.size w w1 := (below_trans HB0.out (below_alloc w0 _)).trans (HB.out.mono (by have := HB0.out.size; simp; omega))
  have hcell : ∀ i (h : i < l.length), w2.cell? ⟨w0.heap.size + 1, i, none⟩ = some (.int .u8 (l[i].toNat : Int)) := by
    intro i h
    have h2 : i < s.size := by have := HSZ.out; omega
    have := HC.out i h2
    rw [Go.Deep.nblk_alloc] at this
    rw [HW2.out]
    refine ((below_alloc w1 _).cell (p := ⟨w0.heap.size + 1, i, none⟩) (by exact hsz')).trans ?_
    rw [this]
    have e1 : s[i] = l[i] := by
      have : s.data.toList[i]'(by rw [HBL.out]; exact h) = l[i] := by simp only [HBL.out]
      exact this
    rw [e1]
  have hvc2 : w2.heap[w0.heap.size]? = some (.cells #[.int .i64 ((([] : List (UInt8 × Nat)).length : Nat) : Int)] 3 (0, 0)) := by rw [HW2.out]; exact ((below_alloc w1 _).block _ (by omega)).trans hvc
  have hbox2 : w2.cell? ⟨w1.heap.size, 0, none⟩ = some (.slice (some ⟨w0.heap.size + 1, 0, none⟩) l.length cap) := by rw [HW2.out, ← HSZ.out]; simp [go_sem]
  have hB2 : Below w.heap.size w w2 := by rw [HW2.out]; exact hB1.trans ((below_alloc w1 _).mono hB1.size)
  have hs2 : w2.heap.size = w1.heap.size + 1 := by rw [HW2.out]; simp
  have hw0 : w.heap.size ≤ w0.heap.size := HB0.out.size
  have HVC := Lib.hid hvc2; have HX := Lib.hid hbox2; have HB2 := Lib.hid hB2; have HCE := Lib.hid hcell; have HS2 := Lib.hid hs2; have HRL := Lib.hid hlen
  have HCAP : Hid (l.length ≤ cap) := by have := HSZ.out; show _ ≤ _; omega
  clear hvc hvc2 hbox2 hB2 hB1 hcell hs2 HW2 HB HC hlen
  go_wp2_with fail
  refine wp_parts0 l rs HRS.out w1.heap.size (w0.heap.size + 1) cap (by have := HLL.out; omega) HCAP.out hcm (by rw [HS2.out]; omega) (by rw [HS2.out]; omega) HX.out HCE.out rfl
    (fun got W => W.heap[w0.heap.size]? = some (.cells #[.int .i64 (got.length : Int)] 3 (0, 0)) ∧ Below w.heap.size w W ∧ got.length ≤ rs.length)
    (OwnFrom.and (ownFrom_block _ (by rw [HS2.out]; omega)) (OwnFrom.and (ownFrom_below (Nat.le_refl _) (by rw [HS2.out]; omega)) (fun _ _ _ _ h _ _ => h)))
    ⟨HVC.out, HB2.out, Nat.zero_le _⟩
    (fun x => { tmps := #[.int .i64 a, .int .i64 b, .int .i64 n, undef, undef, undef, .int .i64 0, .bool false, .string s, .bool y, .pointer (some ⟨w0.heap.size, 0, none⟩), .tuple #[.string s, .bool y], .int .i64 a, .int .i64 b, .int .i64 n, .tuple #[.string s, .bool y], .string s, .bool y, .string s, .slice (some ⟨w0.heap.size + 1, 0, none⟩) s.size cap, .func (.func 56) #[] #[.pointer (some ⟨w1.heap.size, 0, none⟩)], .slice (some ⟨w0.heap.size + 1, cntR (rs.take x), none⟩) rs[x].2 rs[x].2, undef, undef, undef, undef], defers := [] }) ?assign ?body ?done
  case assign =>
    intro lp x W K hK
    simp only [List.setIfInBounds_toArray, List.set_cons_succ, List.set_cons_zero]
    gi_wp2
    exact hK
  case body =>
    rintro lp pre x W Q2 hno hQ2 ⟨hvc, hbw, hgl⟩ hlt
    obtain ⟨k, hk⟩ : ∃ k, k = (gotR rs pre).length := ⟨_, rfl⟩
    have hgl2 : k < rs.length := by rw [hk]; simpa [gotR] using hlt
    have hk1 : (gotR rs pre ++ [rs[x]]).length = k + 1 := by simp [hk]
    have hlenb : (gotR rs pre ++ [rs[x]]).length ≤ rs.length := by rw [hk1]; exact hgl2
    rw [← hk] at hvc
    have hkb : k ≤ 100000 := by have := HRL.out; omega
    have HVC := Lib.hid hvc; have HBW := Lib.hid hbw; have HK1 := Lib.hid hk1; have HLB := Lib.hid hlenb
    have hc0 : W.cell? ⟨w0.heap.size, 0, none⟩ = some (.int .i64 (k : Int)) := by simp [World.cell?, hvc]
    have hf0 : W.frozen? ⟨w0.heap.size, 0, none⟩ = false := by simp [World.frozen?, hvc]
    clear hvc hbw hgl hk hk1 hlenb
    gi_wp2_with fail
    (try simp only [Exit.inBlock, Exit.then])
    have hne1 : w1.heap.size ≠ w0.heap.size := by omega
    refine hQ2 _ _ ((KeepsOthers.setCell _ _ _).from _) ⟨Below.heap_setCell _ _ _ _ hne1, Below.heap_setCell _ _ _ _ (by simp)⟩ ⟨?_, HBW.out.setCell (p := ⟨w0.heap.size, 0, none⟩) hw0 _, HLB.out⟩
    have h := Boxed.set (.int .i64 ((k : Int) + 1)) HVC.out
    unfold Boxed at h
    rw [HK1.out]
    simpa using h
  case done =>
    rintro D W hD ⟨hvc, hbw, _⟩ hK
    have HBW := Lib.hid hbw; have HL2 := Lib.hid hK
    have hc0 : W.cell? ⟨w0.heap.size, 0, none⟩ = some (.int .i64 (rs.length : Int)) := by simp [World.cell?, hvc]
    clear hvc hbw hK
    go_wp2_with fail
    (try simp only [Exit.inBlock, Exit.then])
    have hD2 : w.heap.size ≤ D := by have := HS2.out; omega
    exact hQ.marked _ _ D _ rfl HL2.out (results_tmp2 rfl _ _ _) ⟨rfl, below_mark HBW.out hD2 HL2.out⟩
end Go.Proofs.Ythbjaclobllkhaa
