/- LengthSaid, IsStill, SumOfWord, LongestRun: the model's and the program's. -/
import Derived.Test.YtmlghonidheidaaI3
namespace Go.Proofs.Ytmlghonidheidaa
open Go.RowKit Go.BigFrame Go.Shelf
set_option linter.unusedSimpArgs false
set_option linter.unusedVariables false
set_option maxRecDepth 4000
attribute [local go_sem] Oper.semAt_some

/-- A number and a bool, or 0 and false. -/
def intOk (b : Bool) (n : Int) : Value := .tuple #[.int .i64 (if b = true then n else 0), .bool b]
def lenSaid (l : List UInt8) : Int := 2 * ((runsL l).length : Int)
theorem specLengthSaid_any (s : ByteArray) (w : World) (hs : s.size ≤ maxLen) :
    Calls Try.prog 14 #[.string s] w fun e w' => e = .returned (intOk (speakL s.data.toList) (lenSaid s.data.toList)) ∧ Below w.heap.size w w' := by
  cases hk : speakL s.data.toList with
  | false =>
    have HK := Lib.hid hk; clear hk
    go_enter Try.func14, Try.ntmps14
    go_wp2_with fail
    refine (woSpeakable_any s w hs).mono ?_
    rintro e w1 ⟨rfl, hb⟩
    rw [HK.out]
    have HB := Lib.hid hb; clear hb
    go_wp2_with fail
    go_ret2
    exact ⟨rfl, HB.out⟩
  | true =>
    obtain ⟨h1, h2, h3⟩ := goodL_parts (speak_good hk)
    have HK := Lib.hid hk; clear hk
    go_enter Try.func14, Try.ntmps14
    go_wp2_with fail
    refine (woSpeakable_any s w hs).mono ?_
    rintro e w1 ⟨rfl, hb⟩
    rw [HK.out]
    have HB := Lib.hid hb; clear hb
    go_wp2_with fail
    refine (woRuns_any s w1 h2 h3).mono ?_
    rintro e w2 ⟨v, vs, rfl, hrr, hb2⟩
    have hlen : (rowsL s.data.toList).length = (runsL s.data.toList).length := by simp [rowsL]
    have hN4 : (runsL s.data.toList).length ≤ 400 := Nat.le_trans (runsL_len _) (by simpa using h2)
    have HB2 := Lib.hid hb2
    obtain ⟨n, hn⟩ : ∃ n, n = (runsL s.data.toList).length := ⟨_, rfl⟩
    rw [← hn] at hlen hN4
    rcases ownsRR_open hrr with ⟨rfl, _, hx⟩ | ⟨g, cap, rfl, hc1, hc2, _⟩
    · exact absurd hx (by simp [rowsL]; exact runsL_ne (by simpa using h1))
    · rw [hlen] at *
      have HN := Lib.hid hn
      clear hrr hb2 hn hlen
      go_wp2_with fail
      go_ret2
      exact ⟨by unfold intOk lenSaid; rw [if_pos rfl, ← HN.out]; rfl, below_trans HB.out HB2.out⟩

set_option maxRecDepth 100000 in
set_option maxHeartbeats 1000000 in
theorem implLengthSaid_any (s : ByteArray) (w : World) (hs : s.size ≤ maxLen) :
    Calls Try.prog 13 #[.string s] w fun e w' => e = .returned (intOk (speakL s.data.toList) (lenSaid s.data.toList)) ∧ Below w.heap.size w w' := by
  obtain ⟨y, hy⟩ : ∃ y, y = goodL s.data.toList := ⟨_, rfl⟩
  have HY := Lib.hid hy; clear hy
  cases hk : speakL s.data.toList with
  | false =>
    have HK := Lib.hid hk; clear hk
    go_enter Try.func13, Try.ntmps13
    go_wp2_with fail
    refine (implIsSpeakable_any s w hs).mono ?_
    rintro e w1 ⟨rfl, hb⟩
    rw [HK.out, ← HY.out]
    have HB := Lib.hid hb; clear hb
    go_wp2_with fail
    go_ret2
    exact ⟨rfl, HB.out⟩
  | true =>
    obtain ⟨h1, h2, h3⟩ := goodL_parts (speak_good hk)
    have HK := Lib.hid hk; clear hk
    have HY : Hid (goodL s.data.toList = true) := speak_good HK.out
    refine calls_marks Try.func13 rfl fun Q hQ => ?_
    simp only [Try.ntmps13, List.size_toArray, List.length_cons, List.length_nil, Nat.reduceAdd, Nat.reduceSub, Array.replicate_succ, Array.replicate_zero, List.push_toArray, List.append_toArray, List.nil_append, List.cons_append]
    go_wp2_with fail
    refine (implIsSpeakable_any s w hs).mono ?_
    rintro e w0 ⟨rfl, hb0⟩
    rw [HK.out, HY.out]
    have HB0 := Lib.hid hb0; clear hb0
    go_wp2_with (refine wpList_bytes _ rfl 9 22 _ rfl 5 Try.underlying9 Try.underlying22 Try.underlying5 s rfl hs ?_; intro w1 cap hb hsz hcap hcm hcell hfr)
    have HC := Lib.hid hcell; have HB := Lib.hid hb
    clear hcell hfr hb
    go_wp2_with fail
    refine (runParts_is _ _ _ _).mono ?_
    rintro e w2 ⟨rfl, hw2⟩
    have HW2 := Lib.hid hw2; clear hw2
    have hz : s.size = s.data.toList.length := by simp
    obtain ⟨rs, hrs⟩ : ∃ rs, rs = runsL s.data.toList := ⟨_, rfl⟩
    have hlong : lenSaid s.data.toList = 2 * (rs.length : Int) := by rw [hrs]; rfl
    have hrl : rs.length ≤ 400 := by rw [hrs]; exact Nat.le_trans (runsL_len _) (by simpa using h2)
    have hbd : ∀ p ∈ rs, p.2 ≤ 400 := by
      subst hrs; intro p hp
      obtain ⟨k, hk, rfl⟩ := List.getElem_of_mem hp
      exact Nat.le_trans (runs_cnt hk) (by simpa using h2)
    have hvar : w1.heap[w0.heap.size]? = some (.cells #[.int .i64 0] 3 (0, 0)) := (HB.out.block w0.heap.size (by simp)).trans (Go.Deep.blk_alloc_new _ _)
    have hsz' : w0.heap.size + 1 < w1.heap.size := by simpa using hsz
    have hB1 : Below w0.heap.size w0 w1 := (below_alloc w0 _).trans (HB.out.mono (by simp))
    have hcell : ∀ i (h : i < s.data.toList.length), w2.cell? ⟨w0.heap.size + 1, i, none⟩ = some (.int .u8 (s.data.toList[i].toNat : Int)) := by
      intro i h
      have := HC.out i (by rw [hz]; exact h)
      rw [Go.Deep.nblk_alloc] at this
      rw [HW2.out]
      exact ((below_alloc w1 _).cell (p := ⟨w0.heap.size + 1, i, none⟩) (by exact hsz')).trans this
    have hvar2 : w2.heap[w0.heap.size]? = some (.cells #[.int .i64 0] 3 (0, 0)) := by rw [HW2.out]; exact ((below_alloc w1 _).block w0.heap.size (by omega)).trans hvar
    have hbox2 : w2.cell? ⟨w1.heap.size, 0, none⟩ = some (.slice (some ⟨w0.heap.size + 1, 0, none⟩) s.size cap) := by rw [HW2.out]; simp [go_sem]
    have hB2 : Below w0.heap.size w0 w2 := by rw [HW2.out]; exact hB1.trans ((below_alloc w1 _).mono hB1.size)
    have hs2 : w2.heap.size = w1.heap.size + 1 := by rw [HW2.out]; simp
    have HL := Lib.hid hlong; have HRL := Lib.hid hrl; have HBD := Lib.hid hbd; have HV := Lib.hid hvar2; have HX := Lib.hid hbox2; have HB2 := Lib.hid hB2; have HCE := Lib.hid hcell; have HS2 := Lib.hid hs2
    have HZ := Lib.hid hz; have HRS := Lib.hid hrs
    clear hlong hbd hvar hvar2 hbox2 hB2 hB1 hcell hs2 HW2 HB HC hz hrs
    go_wp2_with fail
    have hz := HZ.out
    refine wp_parts s.data.toList rs HRS.out w1.heap.size (w0.heap.size + 1) cap (by rw [← hz]; exact h1) (by rw [← hz]; omega) (by rw [← hz]; exact hcap) hcm (by rw [HS2.out]; omega) (by rw [HS2.out]; omega) (by rw [← hz]; exact HX.out) HCE.out rfl
      (fun got W => W.heap[w0.heap.size]? = some (.cells #[.int .i64 (2 * (got.length : Int))] 3 (0, 0)) ∧ Below w0.heap.size w0 W ∧ (∀ p ∈ got, p ∈ rs))
      (OwnFrom.and (ownFrom_block _ (by rw [HS2.out]; omega)) (OwnFrom.and (ownFrom_below (Nat.le_refl _) (by rw [HS2.out]; omega)) (fun _ _ _ _ h _ _ => h)))
      ⟨HV.out, HB2.out, fun p h => by simp at h⟩
      (fun x => { tmps := #[.string s, undef, .int .i64 0, .bool false, .bool true, .bool true, .pointer (some ⟨w0.heap.size, 0, none⟩), .tuple #[.bool true, .bool true], .string s, .tuple #[.bool true, .bool true], .bool true, .bool true, .bool true, .bool false, .string s, .slice (some ⟨w0.heap.size + 1, 0, none⟩) s.size cap, .func (.func 63) #[] #[.pointer (some ⟨w1.heap.size, 0, none⟩)], .slice (some ⟨w0.heap.size + 1, cntR (rs.take x), none⟩) rs[x].2 rs[x].2, undef, undef, undef], defers := [] }) ?assign ?body ?done
    case assign =>
      intro lp x W K hK
      simp only [List.setIfInBounds_toArray, List.set_cons_succ, List.set_cons_zero]
      gi_wp2
      exact hK
    case body =>
      rintro lp pre x W Q2 hno hQ2 ⟨hv, hbw, hmem⟩ hlt
      have hgl : (gotR rs pre).length = pre.length := by simp [gotR]
      have HV := Lib.hid hv; have HBW := Lib.hid hbw
      have HIN := Lib.hid (show ∀ p ∈ gotR rs pre ++ [rs[x]], p ∈ rs from fun p hp => by
        rw [List.mem_append] at hp
        rcases hp with hp | hp
        · exact hmem p hp
        · simp at hp; subst hp; exact List.getElem_mem _)
      have hc0 : W.cell? ⟨w0.heap.size, 0, none⟩ = some (.int .i64 (2 * ((gotR rs pre).length : Int))) := by simp [World.cell?, hv]
      have hf0 : W.frozen? ⟨w0.heap.size, 0, none⟩ = false := by simp [World.frozen?, hv]
      have HL2 : Hid ((gotR rs pre ++ [rs[x]]).length = (gotR rs pre).length + 1) := by simp; exact trivial
      have hn4 : (gotR rs pre).length ≤ 400 := by omega
      clear hmem hbw hv hgl
      generalize gotR rs pre ++ [rs[x]] = got2 at *
      generalize gotR rs pre = got at *
      have hne1 : w1.heap.size ≠ w0.heap.size := by omega
      gi_wp2_with fail
      (try simp only [Exit.inBlock, Exit.then])
      refine hQ2 _ _ ((KeepsOthers.setCell _ _ _).from _) ⟨Below.heap_setCell _ _ _ _ hne1, Below.heap_setCell _ _ _ _ (by simp)⟩ ⟨?_, HBW.out.setCell (p := ⟨w0.heap.size, 0, none⟩) (Nat.le_refl _) _, HIN.out⟩
      have := Boxed.set (.int .i64 (2 * (got2.length : Int))) HV.out
      unfold Boxed at this
      rw [show 2 * (got2.length : Int) = 2 * (got.length : Int) + 2 by rw [HL2.out]; omega] at this ⊢
      exact this
    case done =>
      rintro D W hD ⟨hv, hbw, _⟩ hK
      have HBW := Lib.hid hbw; have HL2 := Lib.hid hK
      have hc0 : W.cell? ⟨w0.heap.size, 0, none⟩ = some (.int .i64 (2 * (rs.length : Int))) := by simp [World.cell?, hv]
      clear hv hbw hK
      go_wp2_with fail
      (try simp only [Exit.inBlock, Exit.then])
      have hD2 : w0.heap.size ≤ D := by have := HS2.out; omega
      refine hQ.marked _ _ D _ rfl HL2.out (results_tmp2 rfl _ _ _) ⟨?_, below_trans HB0.out (below_mark HBW.out hD2 HL2.out)⟩
      unfold intOk
      rw [HL.out]; rfl

end Go.Proofs.Ytmlghonidheidaa
