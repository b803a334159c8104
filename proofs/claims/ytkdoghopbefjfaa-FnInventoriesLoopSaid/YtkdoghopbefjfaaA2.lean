/- Runs of a word: plain lists, and the model's woRuns. -/
import Derived.Test.YtkdoghopbefjfaaA1
import Derived.BigQuiet
import Derived.Deep.QuietTactic
namespace Go.Proofs.Ytkdoghopbefjfaa
open Go.RowKit Go.BigFrame
set_option linter.unusedSimpArgs false
set_option linter.unusedVariables false
set_option maxRecDepth 4000

/-- One digit more behind the runs that were told. -/
def stepRun (acc : List (UInt8 × Nat)) (c : UInt8) : List (UInt8 × Nat) :=
  match acc.getLast? with
  | some (d, n) => if d = c then acc.dropLast ++ [(d, n + 1)] else acc ++ [(c, 1)]
  | none => [(c, 1)]
def runsL (l : List UInt8) : List (UInt8 × Nat) := l.foldl stepRun []
theorem runsL_snoc (l : List UInt8) (c : UInt8) : runsL (l ++ [c]) = stepRun (runsL l) c := by simp [runsL]
theorem stepRun_ne (acc : List (UInt8 × Nat)) (c : UInt8) : stepRun acc c ≠ [] := by
  unfold stepRun
  split
  · split <;> simp
  · simp
theorem stepRun_last (acc : List (UInt8 × Nat)) (c : UInt8) : ∃ pre n, stepRun acc c = pre ++ [(c, n)] := by
  unfold stepRun
  split
  · split
    · rename_i d n _ h; subst h; exact ⟨_, _, rfl⟩
    · exact ⟨_, _, rfl⟩
  · exact ⟨[], 1, rfl⟩
theorem stepRun_same (pre : List (UInt8 × Nat)) (c : UInt8) (n : Nat) : stepRun (pre ++ [(c, n)]) c = pre ++ [(c, n + 1)] := by
  simp [stepRun]
theorem stepRun_other (pre : List (UInt8 × Nat)) (c d : UInt8) (n : Nat) (h : d ≠ c) : stepRun (pre ++ [(d, n)]) c = pre ++ [(d, n)] ++ [(c, 1)] := by
  simp [stepRun, h]
theorem stepRun_sum (acc : List (UInt8 × Nat)) (c : UInt8) : ((stepRun acc c).map (·.2)).sum = (acc.map (·.2)).sum + 1 := by
  unfold stepRun
  split
  · rename_i d n h
    split
    · have hne : acc ≠ [] := by intro e; simp [e] at h
      have h2 : acc.getLast hne = (d, n) := by
        have := List.getLast?_eq_some_getLast hne
        rw [h] at this; exact (Option.some.inj this).symm
      conv => rhs; rw [← List.dropLast_concat_getLast hne, h2]
      simp; omega
    · simp
  · rename_i h
    have : acc = [] := by simpa using h
    subst this; simp
theorem runsL_sum (l : List UInt8) : ((runsL l).map (·.2)).sum = l.length := by
  induction h : l.length generalizing l with
  | zero => have : l = [] := List.eq_nil_of_length_eq_zero h; subst this; rfl
  | succ n ih =>
    have hne : l ≠ [] := by intro e; simp [e] at h
    have hd := List.dropLast_concat_getLast hne
    rw [← hd, runsL_snoc, stepRun_sum, ih _ (by simp [h])]
theorem runs_last_le {l : List UInt8} {pre : List (UInt8 × Nat)} {d : UInt8} {n : Nat} (h : runsL l = pre ++ [(d, n)]) : n ≤ l.length := by
  have := runsL_sum l
  rw [h] at this
  simp at this; omega
theorem stepRun_len (acc : List (UInt8 × Nat)) (c : UInt8) : (stepRun acc c).length ≤ acc.length + 1 := by
  unfold stepRun
  split
  · split <;> (simp; try omega)
  · simp
theorem runsL_len (l : List UInt8) : (runsL l).length ≤ l.length := by
  induction h : l.length generalizing l with
  | zero => have : l = [] := List.eq_nil_of_length_eq_zero h; subst this; simp [runsL]
  | succ n ih =>
    have hne : l ≠ [] := by intro e; simp [e] at h
    have hd := List.dropLast_concat_getLast hne
    rw [← hd, runsL_snoc]
    exact Nat.le_trans (stepRun_len _ _) (by have := ih l.dropLast (by simp [h]); omega)
theorem dig_at (s : ByteArray) (h : s.data.toList.all digB = true) (k : Nat) (hk : k < s.size) : 49 ≤ s[k].toNat ∧ s[k].toNat ≤ 57 := by
  have h2 := List.all_eq_true.1 h (s.data.toList[k]'(by simpa using hk)) (List.getElem_mem _)
  have e : s.data.toList[k]'(by simpa using hk) = s[k] := by simp; rfl
  rw [e] at h2
  simpa [digB] using h2
/-- The runs told as rows of two numbers. -/
def rowOf (p : UInt8 × Nat) : List Value := [.int .i64 ((p.1.toNat : Int) - 48), .int .i64 (p.2 : Int)]
def rowsL (l : List UInt8) : List (List Value) := (runsL l).map rowOf

theorem take_snoc (s : ByteArray) (k : Nat) (h : k < s.size) : s.data.toList.take (k + 1) = s.data.toList.take k ++ [s[k]] := by
  rw [List.take_succ_eq_append_getElem (by simpa using h)]; rfl
theorem info_ints : (Try.prog.info? 32).map (fun i => (i.zero, i.size, i.bytes)) = some (some (.slice none 0 0), 1, 24) := by kernel_rfl
theorem info_int : (Try.prog.info? 3).map (fun i => (i.zero, i.size, i.bytes)) = some (some (.int .i64 0), 1, 8) := by kernel_rfl

set_option maxHeartbeats 1000000 in
theorem woRuns_any (s : ByteArray) (w : World) (hs : s.size ≤ 400) (hd : s.data.toList.all digB = true) :
    Calls Try.prog 121 #[.string s] w fun e w' => ∃ v vs, e = .returned v ∧ OwnsRR w' w.heap.size 32 3 v vs (rowsL s.data.toList) ∧ Below w.heap.size w w' := by
  obtain ⟨i0, hi, hz0, hz1, hz2⟩ := info_parts info_ints
  go_enter Try.func121, Try.ntmps121
  go_wp2
  go_loopw [3, 4] (fun v i wr => ∃ k : Nat, k ≤ s.size ∧ i = .int .i64 k ∧ (∃ vs, OwnsRR wr w.heap.size 32 3 v vs (rowsL (s.data.toList.take k))) ∧ Below w.heap.size w wr) (fun _ i _ => s.size - (intOf i).toNat)
  case atStart => exact ⟨0, Nat.zero_le _, rfl, ⟨[], ownsRR_nil _ _ _ _⟩, Below.refl _ _⟩
  case round =>
    obtain ⟨k, hk, rfl, ⟨vs, hrr⟩, hb⟩ := hrel
    have HX := Lib.hid hrr
    clear hrr
    by_cases hlt : k < s.size
    · obtain ⟨hd1, hd2⟩ := dig_at s hd k hlt
      have hvl : vs.length ≤ k := by rw [← HX.out.len]; simp [rowsL]; exact Nat.le_trans (runsL_len _) (by simp; omega)
      by_cases hsame : 0 < k ∧ s[k]? = s[k - 1]?
      · obtain ⟨m, rfl⟩ : ∃ m, k = m + 1 := ⟨k - 1, by omega⟩
        have hm : m < s.size := by omega
        have hm0 : (0 : Int) ≤ (m : Int) + 1 := by omega
        have hs2 : s[m + 1] = s[m] := by have := hsame.2; simp [hlt, hm] at this; exact this
        have hsame : ((s[m + 1].toNat : Int) == (s[m].toNat : Int)) = true := by rw [hs2]; simp
        obtain ⟨pre, n, hpre⟩ : ∃ pre n, runsL (s.data.toList.take (m + 1)) = pre ++ [(s[m], n)] := by
          rw [take_snoc s m hm, runsL_snoc]; exact stepRun_last _ _
        have hrr' : OwnsRR wr w.heap.size 32 3 u3 vs (pre.map rowOf ++ [rowOf (s[m], n)]) := by
          have := HX.out; unfold rowsL at this; rw [hpre] at this; simpa using this
        obtain ⟨p, g, cap, ws, b, c, hp, rfl, rfl, hws, hlen, hcg, hBb, hbs, hcb0, hcb1, hfb0, hfb1⟩ := ownsRR_last2 hrr'
        have hn : n ≤ m + 1 := by have := runs_last_le hpre; simp at this; omega
        have HR := Lib.hid hrr'; have HP := Lib.hid hpre; have HW := Lib.hid hws; have HQ := Lib.hid hp; have HS := Lib.hid hs2
        clear hrr' hpre hws hp hs2 hvl
        go_wp2
        go_quiet (fail)
        go_wp2
        go_roundw
        case rel =>
          refine ⟨m + 2, by omega, by go_num, ⟨ws ++ [.slice (some ⟨b, 0, none⟩) 2 c], ?_⟩, ?_⟩
          · have e : rowsL (s.data.toList.take (m + 2)) = pre.map rowOf ++ [rowOf (s[m], n + 1)] := by
              unfold rowsL
              rw [take_snoc s (m + 1) hlt, runsL_snoc, HP.out, HS.out, stepRun_same]; simp
            rw [e]
            exact ownsRR_set_last2 (ownsRR_below HR.out (belowN _ _ _)) HW.out
          · exact (hb.trans (belowN _ _ _)).setCell (p := ⟨b, 1, none⟩) hBb _
        case measure => simp [intOf]; omega
      · have he : rowsL (s.data.toList.take (k + 1)) = rowsL (s.data.toList.take k) ++ [rowOf (s[k], 1)] := by
          unfold rowsL
          rw [take_snoc s k hlt, runsL_snoc]
          cases k with
          | zero => simp [runsL, stepRun]
          | succ m =>
            have hm : m < s.size := by omega
            obtain ⟨pre, n, hpre⟩ : ∃ pre n, runsL (s.data.toList.take (m + 1)) = pre ++ [(s[m], n)] := by
              rw [take_snoc s m hm, runsL_snoc]; exact stepRun_last _ _
            have hne : s[m] ≠ s[m + 1] := by
              intro e; exact hsame ⟨by omega, by simp [hlt, hm, e]⟩
            rw [hpre, stepRun_other _ _ _ _ hne]; simp
        have HE := Lib.hid he; clear he
        by_cases h0 : 0 < k
        · obtain ⟨m, rfl⟩ : ∃ m, k = m + 1 := ⟨k - 1, by omega⟩
          have hm : m < s.size := by omega
          have hm0 : (0 : Int) ≤ (m : Int) + 1 := by omega
          have hdiff : ((s[m + 1].toNat : Int) == (s[m].toNat : Int)) = false := by
            have : s[m + 1] ≠ s[m] := fun e => hsame ⟨by omega, by simp [hlt, hm, e]⟩
            simp; intro e; exact this (UInt8.toNat_inj.1 (by omega))
          clear hsame
          go_wp2
          go_quiet (fail)
          have HR2 := Lib.hid (ownsRR_below HX.out (belowN _ wr nq)); have hb2 := hb.trans (belowN _ wr nq)
          generalize wr.drewN nq = wq at *
          have hsz := hb2.size
          have HB := Lib.hid hb2; clear hb2
          go_wp2_with (at_builtin; refine wpList_append_own _ rfl _ _ 51 rfl w.heap.size 32 i0 (.slice none 0 0) 1 24 Try.underlying51 hi hz0 hz1 hz2 rfl (by decide) _ _ _ rfl ((HR2.out.outer.alloc _).alloc _) ⟨wq.heap.size + 1, 0, none⟩ 1 1 [.slice (some ⟨wq.heap.size, 0, none⟩) 2 2] rfl rfl ?c1 ?c2 ?c3 ?c4 ?c5 ?_)
          case c1 =>
            intro j u hj
            match j, hj with
            | 0, hj => simp at hj; subst hj; simp [Addr.add]
          case c2 => intro u hu; simp at hu; subst hu; rfl
          case c3 => unfold maxLen; omega
          case c4 => omega
          case c5 => simp; omega
          intro v' w1 hown' hgrow _
          have R1 := Lib.hid (ownsRR_push HR2.out (rowOf (s[m + 1], 1)) (by simp [rowOf, maxLen]) hsz hown' hgrow (by decide))
          have R2 := Lib.hid (((HB.out.alloc hsz _).alloc (by simp; omega) _).grown hgrow (by simp; omega) (fun g hg => (HR2.out.outer.lt g hg).1))
          clear hown' hgrow
          go_wp2
          go_roundw
          case rel => exact ⟨m + 1 + 1, by omega, by go_num, ⟨_, by rw [HE.out]; exact R1.out⟩, R2.out⟩
          case measure => simp [intOf]; omega
        · obtain rfl : k = 0 := by omega
          clear hsame
          go_wp2
          go_quiet (fail)
          have HR2 := Lib.hid (ownsRR_below HX.out (belowN _ wr nq)); have hb2 := hb.trans (belowN _ wr nq)
          generalize wr.drewN nq = wq at *
          have hsz := hb2.size
          have HB := Lib.hid hb2; clear hb2
          go_wp2_with (at_builtin; refine wpList_append_own _ rfl _ _ 51 rfl w.heap.size 32 i0 (.slice none 0 0) 1 24 Try.underlying51 hi hz0 hz1 hz2 rfl (by decide) _ _ _ rfl ((HR2.out.outer.alloc _).alloc _) ⟨wq.heap.size + 1, 0, none⟩ 1 1 [.slice (some ⟨wq.heap.size, 0, none⟩) 2 2] rfl rfl ?c1 ?c2 ?c3 ?c4 ?c5 ?_)
          case c1 =>
            intro j u hj
            match j, hj with
            | 0, hj => simp at hj; subst hj; simp [Addr.add]
          case c2 => intro u hu; simp at hu; subst hu; rfl
          case c3 => unfold maxLen; omega
          case c4 => omega
          case c5 => simp; omega
          intro v' w1 hown' hgrow _
          have R1 := Lib.hid (ownsRR_push HR2.out (rowOf (s[0], 1)) (by simp [rowOf, maxLen]) hsz hown' hgrow (by decide))
          have R2 := Lib.hid (((HB.out.alloc hsz _).alloc (by simp; omega) _).grown hgrow (by simp; omega) (fun g hg => (HR2.out.outer.lt g hg).1))
          clear hown' hgrow
          go_wp2
          go_roundw
          case rel => exact ⟨0 + 1, by omega, by go_num, ⟨_, by rw [HE.out]; exact R1.out⟩, R2.out⟩
          case measure => simp [intOf]; omega
    · obtain rfl : k = s.size := by omega
      go_wp2
      go_ret
      have hx := HX.out
      rw [List.take_of_length_le (by simp)] at hx
      exact ⟨_, _, rfl, hx, hb⟩
end Go.Proofs.Ytkdoghopbefjfaa
