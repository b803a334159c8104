/- Texts that belong together: A1, A2, A3, A4, A5, R1, K1, K2, I1, I2, I3, I4, E1, D1, D2, E2, E3. -/
import Derived.Test.YtkjmocdhhndlgaaGreatDoorB
import Derived.BigQuiet
import Derived.Deep.QuietTactic
import Derived.Deep.RegionWith
import Derived.RangeFuncNested
import Derived.RangeFuncBound
import Derived.RangeFuncCalls
import Derived.RangeFuncLeaves
import Derived.RangeFuncBox
import Derived.Shelf.Abstract
import Derived.Shelf.RegionOpen
import Derived.WalkKit
import Derived.OwnWalkIn
import Derived.TacticsInMore
import Derived.LoopNIn
import Derived.LoopIn
import Derived.Maps.AppendAt
import Derived.Deep.DeepCutAuto
import Derived.RegionTactic
import Derived.Laws.EntriesVeiled
namespace Go.Proofs.YtkjmocdhhndlgaaGreatDoor
open Go.RowKit
set_option linter.unusedSimpArgs false
set_option linter.unusedVariables false
set_option maxRecDepth 4000

def digB (c : UInt8) : Bool := decide (49 ≤ c.toNat ∧ c.toNat ≤ 57)
def goodL (l : List UInt8) : Bool := decide (1 ≤ l.length) && decide (l.length ≤ 400) && l.all digB

theorem l1In_is (b : Bool) (n lo hi : Int) (w : World) (h : decide (lo ≤ n ∧ n ≤ hi) = b) :
    Calls Tryz.prog 42 #[.int .i64 n, .int .i64 lo, .int .i64 hi] w fun e w' => e = .returned (.bool b) ∧ w = w' := by
  subst h
  by_cases h1 : lo ≤ n <;> by_cases h2 : n ≤ hi
  all_goals
    go_enter Tryz.func42, Tryz.ntmps42
    go_wp2
    go_ret
    exact ⟨by simp; omega, rfl⟩

theorem all_take_succ (p : UInt8 → Bool) (s : ByteArray) (k : Nat) (h : k < s.size) :
    (s.data.toList.take (k + 1)).all p = ((s.data.toList.take k).all p && p s[k]) := by
  rw [List.take_succ_eq_append_getElem (by simpa using h), List.all_append]; simp; rfl

theorem goodL_of (s : ByteArray) (h : s.size = s.data.toList.length) : goodL s.data.toList = (decide (1 ≤ s.size ∧ s.size ≤ 400) && s.data.toList.all digB) := by
  unfold goodL; rw [← h]; simp

theorem all_false_of_take {l : List UInt8} {p : UInt8 → Bool} (k : Nat) (h : (l.take k).all p = false) : l.all p = false := by
  rw [← List.take_append_drop k l, List.all_append, h]; rfl

set_option maxHeartbeats 400000 in
theorem woGood_any (s : ByteArray) (w : World) (hs : s.size ≤ maxLen) :
    Calls Tryz.prog 78 #[.string s] w fun e w' => e = .returned (.bool (goodL s.data.toList)) ∧ w = w' := by
  unfold maxLen at hs
  have hlen : s.size = s.data.toList.length := by simp
  have hg := goodL_of s hlen
  have HG := Lib.hid hg; clear hg hlen
  by_cases hl : 1 ≤ s.size ∧ s.size ≤ 400
  · go_enter Tryz.func78, Tryz.ntmps78
    go_wp2_with (go_at_call 42; refine (l1In_is true _ _ _ _ (by simp; omega)).mono ?_; rintro e w' ⟨rfl, rfl⟩)
    go_loop [3] (fun i => ∃ k : Nat, k ≤ s.size ∧ i = .int .i64 k ∧ (s.data.toList.take k).all digB = true) (fun i => s.size - (intOf i).toNat)
    case atStart => exact ⟨0, Nat.zero_le _, rfl, rfl⟩
    case round =>
      obtain ⟨k, hk, rfl, hall⟩ := hrel
      have HA := Lib.hid hall; clear hall
      by_cases hlt : k < s.size
      · have hsn := all_take_succ digB s k hlt
        have HS := Lib.hid hsn; clear hsn
        by_cases hd : 49 ≤ s[k].toNat ∧ s[k].toNat ≤ 57
        · obtain ⟨hd1, hd2⟩ := hd
          go_wp2
          go_round
          case rel => exact ⟨k + 1, by omega, by go_num, by rw [HS.out, HA.out]; simp [digB, hd1, hd2]⟩
          case measure => simp [intOf]; omega
        · have hf : s.data.toList.all digB = false := all_false_of_take (k + 1) (by rw [HS.out, HA.out]; simp [digB]; omega)
          have HF := Lib.hid hf; clear hf
          by_cases hd1 : 49 ≤ s[k].toNat
          all_goals
            go_wp2
            go_ret
            exact ⟨ret_bool (by rw [HG.out, HF.out]; simp), rfl⟩
      · go_wp2
        go_ret
        exact ⟨ret_bool (by rw [HG.out]; have h := HA.out; rw [List.take_of_length_le (by simp; omega)] at h; rw [h]; simp [hl]), rfl⟩
  · go_enter Tryz.func78, Tryz.ntmps78
    go_wp2_with (go_at_call 42; refine (l1In_is false _ _ _ _ (by simp; omega)).mono ?_; rintro e w' ⟨rfl, rfl⟩)
    go_ret
    exact ⟨ret_bool (by rw [HG.out]; simp [hl]), rfl⟩

theorem isWithin_is (b : Bool) (n lo hi : Int) (w : World) (h : decide (lo ≤ n ∧ n ≤ hi) = b) :
    Calls Tryz.prog 39 #[.int .i64 n, .int .i64 lo, .int .i64 hi] w fun e w' => e = .returned (.bool b) ∧ w = w' := by
  subst h
  by_cases h1 : lo ≤ n <;> by_cases h2 : n ≤ hi
  all_goals
    go_enter Tryz.func39, Tryz.ntmps39
    go_wp2
    go_ret
    exact ⟨by simp; omega, rfl⟩

def dtB (l : List UInt8) : Bool := decide (1 ≤ l.length) && l.all digB
theorem nonempty_toList (s : ByteArray) (h : ¬ s.size = 0) : s.toList.isEmpty = false := by
  have e : s.toList = s.data.toList := ByteArray.toList_eq s
  rw [e]
  cases h' : s.data.toList with
  | nil => exact absurd (by simpa using congrArg List.length h') h
  | cons a l => rfl
theorem dtB_of (s : ByteArray) (h : s.size = s.data.toList.length) : dtB s.data.toList = (decide (1 ≤ s.size) && s.data.toList.all digB) := by
  unfold dtB; rw [← h]
theorem goodL_dt (s : ByteArray) (h : s.size = s.data.toList.length) : goodL s.data.toList = (decide (s.size ≤ 400) && dtB s.data.toList) := by
  unfold dtB goodL; rw [← h]; cases decide (s.size ≤ 400) <;> cases decide (1 ≤ s.size) <;> rfl
set_option maxHeartbeats 400000 in
theorem isDigitText_any (s : ByteArray) (w : World) (hs : s.size ≤ maxLen) :
    Calls Tryz.prog 81 #[.string s] w fun e w' => e = .returned (.bool (dtB s.data.toList)) ∧ w = w' := by
  unfold maxLen at hs
  have hg := dtB_of s (by simp)
  have HG := Lib.hid hg; clear hg
  go_enter Tryz.func81, Tryz.ntmps81
  go_wp2_with fail
  go_loop [6] (fun i => ∃ k : Nat, k ≤ s.size ∧ i = .int .i64 k ∧ (s.data.toList.take k).all digB = true) (fun i => s.size - (intOf i).toNat)
  case atStart => exact ⟨0, Nat.zero_le _, rfl, rfl⟩
  case round =>
    obtain ⟨k, hk, rfl, hall⟩ := hrel
    have HA := Lib.hid hall; clear hall
    by_cases hlt : k < s.size
    · have hsn := all_take_succ digB s k hlt
      have HS := Lib.hid hsn; clear hsn
      by_cases hd : 49 ≤ s[k].toNat ∧ s[k].toNat ≤ 57
      · obtain ⟨hd1, hd2⟩ := hd
        go_wp2
        go_round
        case rel => exact ⟨k + 1, by omega, by go_num, by rw [HS.out, HA.out]; simp [digB, hd1, hd2]⟩
        case measure => simp [intOf]; omega
      · have hf : s.data.toList.all digB = false := all_false_of_take (k + 1) (by rw [HS.out, HA.out]; simp [digB]; omega)
        have HF := Lib.hid hf; clear hf
        by_cases hd1 : 49 ≤ s[k].toNat
        all_goals
          go_wp2
          go_ret
          exact ⟨ret_bool (by rw [HG.out, HF.out]; simp), rfl⟩
    · by_cases h0 : s.size = 0
      · have he : s = ⟨#[]⟩ := by
          apply ByteArray.ext; exact Array.eq_empty_of_size_eq_zero h0
        subst he
        go_wp2
        go_ret
        exact ⟨ret_bool (by rw [HG.out]; rfl), rfl⟩
      · have hne : s.data.toList.isEmpty = false := by
          cases h : s.data.toList with
          | nil => exact absurd (by simpa using congrArg List.length h) h0
          | cons a l => rfl
        go_wp2
        go_ret
        exact ⟨ret_bool (by rw [HG.out]; have h := HA.out; rw [List.take_of_length_le (by simp; omega)] at h; rw [h, decide_eq_true (by omega)]; simp [nonempty_toList s h0]), rfl⟩

theorem implIsWord_any (s : ByteArray) (w : World) (hs : s.size ≤ maxLen) :
    Calls Tryz.prog 46 #[.string s] w fun e w' => e = .returned (.bool (goodL s.data.toList)) ∧ w = w' := by
  have hg := goodL_dt s (by simp)
  have HG := Lib.hid hg; clear hg
  by_cases h : s.size ≤ 400
  · go_enter Tryz.func46, Tryz.ntmps46
    go_wp2_with (go_at_call 81; refine (isDigitText_any _ _ hs).mono ?_; rintro e w' ⟨rfl, rfl⟩)
    go_ret
    exact ⟨ret_bool (by rw [HG.out]; simp [h]), rfl⟩
  · go_enter Tryz.func46, Tryz.ntmps46
    go_wp2_with (go_at_call 81; refine (isDigitText_any _ _ hs).mono ?_; rintro e w' ⟨rfl, rfl⟩)
    go_ret
    exact ⟨ret_bool (by rw [HG.out]; simp [h]), rfl⟩

end Go.Proofs.YtkjmocdhhndlgaaGreatDoor

/- Runs of a word: plain lists, and the model's woRuns. -/
namespace Go.Proofs.YtkjmocdhhndlgaaGreatDoor
open Go.RowKit Go.BigFrame
set_option linter.unusedSimpArgs false
set_option linter.unusedVariables false
set_option maxRecDepth 4000

/-- One digit more behind the runs that were told. -/
def stepRun (acc : List (UInt8 × Nat)) (c : UInt8) : List (UInt8 × Nat) :=
  match acc.getLast? with
  | some (d, n) => if d = c then acc.dropLast ++ [(d, n + 1)] else acc ++ [(c, 1)]
  | none => [(c, 1)]
def runsL (l : List UInt8) : List (UInt8 × Nat) := l.foldl stepRun []
theorem runsL_snoc (l : List UInt8) (c : UInt8) : runsL (l ++ [c]) = stepRun (runsL l) c := by simp [runsL]
theorem stepRun_ne (acc : List (UInt8 × Nat)) (c : UInt8) : stepRun acc c ≠ [] := by
  unfold stepRun
  split
  · split <;> simp
  · simp
theorem stepRun_last (acc : List (UInt8 × Nat)) (c : UInt8) : ∃ pre n, stepRun acc c = pre ++ [(c, n)] := by
  unfold stepRun
  split
  · split
    · rename_i d n _ h; subst h; exact ⟨_, _, rfl⟩
    · exact ⟨_, _, rfl⟩
  · exact ⟨[], 1, rfl⟩
theorem stepRun_same (pre : List (UInt8 × Nat)) (c : UInt8) (n : Nat) : stepRun (pre ++ [(c, n)]) c = pre ++ [(c, n + 1)] := by
  simp [stepRun]
theorem stepRun_other (pre : List (UInt8 × Nat)) (c d : UInt8) (n : Nat) (h : d ≠ c) : stepRun (pre ++ [(d, n)]) c = pre ++ [(d, n)] ++ [(c, 1)] := by
  simp [stepRun, h]
theorem stepRun_sum (acc : List (UInt8 × Nat)) (c : UInt8) : ((stepRun acc c).map (·.2)).sum = (acc.map (·.2)).sum + 1 := by
  unfold stepRun
  split
  · rename_i d n h
    split
    · have hne : acc ≠ [] := by intro e; simp [e] at h
      have h2 : acc.getLast hne = (d, n) := by
        have := List.getLast?_eq_some_getLast hne
        rw [h] at this; exact (Option.some.inj this).symm
      conv => rhs; rw [← List.dropLast_concat_getLast hne, h2]
      simp; omega
    · simp
  · rename_i h
    have : acc = [] := by simpa using h
    subst this; simp
theorem runsL_sum (l : List UInt8) : ((runsL l).map (·.2)).sum = l.length := by
  induction h : l.length generalizing l with
  | zero => have : l = [] := List.eq_nil_of_length_eq_zero h; subst this; rfl
  | succ n ih =>
    have hne : l ≠ [] := by intro e; simp [e] at h
    have hd := List.dropLast_concat_getLast hne
    rw [← hd, runsL_snoc, stepRun_sum, ih _ (by simp [h])]
theorem runs_last_le {l : List UInt8} {pre : List (UInt8 × Nat)} {d : UInt8} {n : Nat} (h : runsL l = pre ++ [(d, n)]) : n ≤ l.length := by
  have := runsL_sum l
  rw [h] at this
  simp at this; omega
theorem stepRun_len (acc : List (UInt8 × Nat)) (c : UInt8) : (stepRun acc c).length ≤ acc.length + 1 := by
  unfold stepRun
  split
  · split <;> (simp; try omega)
  · simp
theorem runsL_len (l : List UInt8) : (runsL l).length ≤ l.length := by
  induction h : l.length generalizing l with
  | zero => have : l = [] := List.eq_nil_of_length_eq_zero h; subst this; simp [runsL]
  | succ n ih =>
    have hne : l ≠ [] := by intro e; simp [e] at h
    have hd := List.dropLast_concat_getLast hne
    rw [← hd, runsL_snoc]
    exact Nat.le_trans (stepRun_len _ _) (by have := ih l.dropLast (by simp [h]); omega)
theorem dig_at (s : ByteArray) (h : s.data.toList.all digB = true) (k : Nat) (hk : k < s.size) : 49 ≤ s[k].toNat ∧ s[k].toNat ≤ 57 := by
  have h2 := List.all_eq_true.1 h (s.data.toList[k]'(by simpa using hk)) (List.getElem_mem _)
  have e : s.data.toList[k]'(by simpa using hk) = s[k] := by simp; rfl
  rw [e] at h2
  simpa [digB] using h2
/-- The runs told as rows of two numbers. -/
def rowOf (p : UInt8 × Nat) : List Value := [.int .i64 ((p.1.toNat : Int) - 48), .int .i64 (p.2 : Int)]
def rowsL (l : List UInt8) : List (List Value) := (runsL l).map rowOf

theorem take_snoc (s : ByteArray) (k : Nat) (h : k < s.size) : s.data.toList.take (k + 1) = s.data.toList.take k ++ [s[k]] := by
  rw [List.take_succ_eq_append_getElem (by simpa using h)]; rfl
theorem info_ints : (Tryz.prog.info? 46).map (fun i => (i.zero, i.size, i.bytes)) = some (some (.slice none 0 0), 1, 24) := by kernel_rfl
theorem info_int : (Tryz.prog.info? 3).map (fun i => (i.zero, i.size, i.bytes)) = some (some (.int .i64 0), 1, 8) := by kernel_rfl

set_option maxHeartbeats 1000000 in
theorem woRuns_any (s : ByteArray) (w : World) (hs : s.size ≤ 400) (hd : s.data.toList.all digB = true) :
    Calls Tryz.prog 99 #[.string s] w fun e w' => ∃ v vs, e = .returned v ∧ OwnsRR w' w.heap.size 46 3 v vs (rowsL s.data.toList) ∧ Below w.heap.size w w' := by
  obtain ⟨i0, hi, hz0, hz1, hz2⟩ := info_parts info_ints
  go_enter Tryz.func99, Tryz.ntmps99
  go_wp2
  go_loopw [3, 4] (fun v i wr => ∃ k : Nat, k ≤ s.size ∧ i = .int .i64 k ∧ (∃ vs, OwnsRR wr w.heap.size 46 3 v vs (rowsL (s.data.toList.take k))) ∧ Below w.heap.size w wr) (fun _ i _ => s.size - (intOf i).toNat)
  case atStart => exact ⟨0, Nat.zero_le _, rfl, ⟨[], ownsRR_nil _ _ _ _⟩, Below.refl _ _⟩
  case round =>
    obtain ⟨k, hk, rfl, ⟨vs, hrr⟩, hb⟩ := hrel
    have HX := Lib.hid hrr
    clear hrr
    by_cases hlt : k < s.size
    · obtain ⟨hd1, hd2⟩ := dig_at s hd k hlt
      have hvl : vs.length ≤ k := by rw [← HX.out.len]; simp [rowsL]; exact Nat.le_trans (runsL_len _) (by simp; omega)
      by_cases hsame : 0 < k ∧ s[k]? = s[k - 1]?
      · obtain ⟨m, rfl⟩ : ∃ m, k = m + 1 := ⟨k - 1, by omega⟩
        have hm : m < s.size := by omega
        have hm0 : (0 : Int) ≤ (m : Int) + 1 := by omega
        have hs2 : s[m + 1] = s[m] := by have := hsame.2; simp [hlt, hm] at this; exact this
        have hsame : ((s[m + 1].toNat : Int) == (s[m].toNat : Int)) = true := by rw [hs2]; simp
        obtain ⟨pre, n, hpre⟩ : ∃ pre n, runsL (s.data.toList.take (m + 1)) = pre ++ [(s[m], n)] := by
          rw [take_snoc s m hm, runsL_snoc]; exact stepRun_last _ _
        have hrr' : OwnsRR wr w.heap.size 46 3 u3 vs (pre.map rowOf ++ [rowOf (s[m], n)]) := by
          have := HX.out; unfold rowsL at this; rw [hpre] at this; simpa using this
        obtain ⟨p, g, cap, ws, b, c, hp, rfl, rfl, hws, hlen, hcg, hBb, hbs, hcb0, hcb1, hfb0, hfb1⟩ := ownsRR_last2 hrr'
        have hn : n ≤ m + 1 := by have := runs_last_le hpre; simp at this; omega
        have HR := Lib.hid hrr'; have HP := Lib.hid hpre; have HW := Lib.hid hws; have HQ := Lib.hid hp; have HS := Lib.hid hs2
        clear hrr' hpre hws hp hs2 hvl
        go_wp2
        go_quiet (fail)
        go_wp2
        go_roundw
        case rel =>
          refine ⟨m + 2, by omega, by go_num, ⟨ws ++ [.slice (some ⟨b, 0, none⟩) 2 c], ?_⟩, ?_⟩
          · have e : rowsL (s.data.toList.take (m + 2)) = pre.map rowOf ++ [rowOf (s[m], n + 1)] := by
              unfold rowsL
              rw [take_snoc s (m + 1) hlt, runsL_snoc, HP.out, HS.out, stepRun_same]; simp
            rw [e]
            exact ownsRR_set_last2 (ownsRR_below HR.out (belowN _ _ _)) HW.out
          · exact (hb.trans (belowN _ _ _)).setCell (p := ⟨b, 1, none⟩) hBb _
        case measure => simp [intOf]; omega
      · have he : rowsL (s.data.toList.take (k + 1)) = rowsL (s.data.toList.take k) ++ [rowOf (s[k], 1)] := by
          unfold rowsL
          rw [take_snoc s k hlt, runsL_snoc]
          cases k with
          | zero => simp [runsL, stepRun]
          | succ m =>
            have hm : m < s.size := by omega
            obtain ⟨pre, n, hpre⟩ : ∃ pre n, runsL (s.data.toList.take (m + 1)) = pre ++ [(s[m], n)] := by
              rw [take_snoc s m hm, runsL_snoc]; exact stepRun_last _ _
            have hne : s[m] ≠ s[m + 1] := by
              intro e; exact hsame ⟨by omega, by simp [hlt, hm, e]⟩
            rw [hpre, stepRun_other _ _ _ _ hne]; simp
        have HE := Lib.hid he; clear he
        by_cases h0 : 0 < k
        · obtain ⟨m, rfl⟩ : ∃ m, k = m + 1 := ⟨k - 1, by omega⟩
          have hm : m < s.size := by omega
          have hm0 : (0 : Int) ≤ (m : Int) + 1 := by omega
          have hdiff : ((s[m + 1].toNat : Int) == (s[m].toNat : Int)) = false := by
            have : s[m + 1] ≠ s[m] := fun e => hsame ⟨by omega, by simp [hlt, hm, e]⟩
            simp; intro e; exact this (UInt8.toNat_inj.1 (by omega))
          clear hsame
          go_wp2
          go_quiet (fail)
          have HR2 := Lib.hid (ownsRR_below HX.out (belowN _ wr nq)); have hb2 := hb.trans (belowN _ wr nq)
          generalize wr.drewN nq = wq at *
          have hsz := hb2.size
          have HB := Lib.hid hb2; clear hb2
          go_wp2_with (at_builtin; refine wpList_append_own _ rfl _ _ 94 rfl w.heap.size 46 i0 (.slice none 0 0) 1 24 Tryz.underlying94 hi hz0 hz1 hz2 rfl (by decide) _ _ _ rfl ((HR2.out.outer.alloc _).alloc _) ⟨wq.heap.size + 1, 0, none⟩ 1 1 [.slice (some ⟨wq.heap.size, 0, none⟩) 2 2] rfl rfl ?c1 ?c2 ?c3 ?c4 ?c5 ?_)
          case c1 =>
            intro j u hj
            match j, hj with
            | 0, hj => simp at hj; subst hj; simp [Addr.add]
          case c2 => intro u hu; simp at hu; subst hu; rfl
          case c3 => unfold maxLen; omega
          case c4 => omega
          case c5 => simp; omega
          intro v' w1 hown' hgrow _
          have R1 := Lib.hid (ownsRR_push HR2.out (rowOf (s[m + 1], 1)) (by simp [rowOf, maxLen]) hsz hown' hgrow (by decide))
          have R2 := Lib.hid (((HB.out.alloc hsz _).alloc (by simp; omega) _).grown hgrow (by simp; omega) (fun g hg => (HR2.out.outer.lt g hg).1))
          clear hown' hgrow
          go_wp2
          go_roundw
          case rel => exact ⟨m + 1 + 1, by omega, by go_num, ⟨_, by rw [HE.out]; exact R1.out⟩, R2.out⟩
          case measure => simp [intOf]; omega
        · obtain rfl : k = 0 := by omega
          clear hsame
          go_wp2
          go_quiet (fail)
          have HR2 := Lib.hid (ownsRR_below HX.out (belowN _ wr nq)); have hb2 := hb.trans (belowN _ wr nq)
          generalize wr.drewN nq = wq at *
          have hsz := hb2.size
          have HB := Lib.hid hb2; clear hb2
          go_wp2_with (at_builtin; refine wpList_append_own _ rfl _ _ 94 rfl w.heap.size 46 i0 (.slice none 0 0) 1 24 Tryz.underlying94 hi hz0 hz1 hz2 rfl (by decide) _ _ _ rfl ((HR2.out.outer.alloc _).alloc _) ⟨wq.heap.size + 1, 0, none⟩ 1 1 [.slice (some ⟨wq.heap.size, 0, none⟩) 2 2] rfl rfl ?c1 ?c2 ?c3 ?c4 ?c5 ?_)
          case c1 =>
            intro j u hj
            match j, hj with
            | 0, hj => simp at hj; subst hj; simp [Addr.add]
          case c2 => intro u hu; simp at hu; subst hu; rfl
          case c3 => unfold maxLen; omega
          case c4 => omega
          case c5 => simp; omega
          intro v' w1 hown' hgrow _
          have R1 := Lib.hid (ownsRR_push HR2.out (rowOf (s[0], 1)) (by simp [rowOf, maxLen]) hsz hown' hgrow (by decide))
          have R2 := Lib.hid (((HB.out.alloc hsz _).alloc (by simp; omega) _).grown hgrow (by simp; omega) (fun g hg => (HR2.out.outer.lt g hg).1))
          clear hown' hgrow
          go_wp2
          go_roundw
          case rel => exact ⟨0 + 1, by omega, by go_num, ⟨_, by rw [HE.out]; exact R1.out⟩, R2.out⟩
          case measure => simp [intOf]; omega
    · obtain rfl : k = s.size := by omega
      go_wp2
      go_ret
      have hx := HX.out
      rw [List.take_of_length_le (by simp)] at hx
      exact ⟨_, _, rfl, hx, hb⟩
end Go.Proofs.YtkjmocdhhndlgaaGreatDoor

/- The longest run, speakable words: the model's functions. -/
namespace Go.Proofs.YtkjmocdhhndlgaaGreatDoor
open Go.RowKit Go.BigFrame
set_option linter.unusedSimpArgs false
set_option linter.unusedVariables false
set_option maxRecDepth 4000

def longR (rs : List (UInt8 × Nat)) : Nat := rs.foldl (fun a p => max a p.2) 0
def longL (l : List UInt8) : Nat := longR (runsL l)
def speakL (l : List UInt8) : Bool := goodL l && decide (longL l ≤ 9)
theorem longR_snoc (rs : List (UInt8 × Nat)) (p : UInt8 × Nat) : longR (rs ++ [p]) = max (longR rs) p.2 := by simp [longR]
theorem longR_le (rs : List (UInt8 × Nat)) : longR rs ≤ (rs.map (·.2)).sum := by
  induction h : rs.length generalizing rs with
  | zero => have : rs = [] := List.eq_nil_of_length_eq_zero h; subst this; simp [longR]
  | succ n ih =>
    have hne : rs ≠ [] := by intro e; simp [e] at h
    have hd := List.dropLast_concat_getLast hne
    rw [← hd, longR_snoc, List.map_append, List.sum_append]
    have := ih rs.dropLast (by simp [h])
    simp only [List.map_cons, List.map_nil, List.sum_cons, List.sum_nil]; omega
theorem longL_le (l : List UInt8) : longL l ≤ l.length := by
  have := longR_le (runsL l); rw [runsL_sum] at this; exact this
theorem goodL_parts {s : ByteArray} (h : goodL s.data.toList = true) : 1 ≤ s.size ∧ s.size ≤ 400 ∧ s.data.toList.all digB = true := by
  rw [goodL_of s (by simp)] at h
  simp only [Bool.and_eq_true, decide_eq_true_eq] at h
  exact ⟨h.1.1, h.1.2, h.2⟩

theorem l1Most_is (a b c : Int) (w : World) (h : max a b = c) :
    Calls Tryz.prog 59 #[.int .i64 a, .int .i64 b] w fun e w' => e = .returned (.int .i64 c) ∧ w = w' := by
  subst h
  by_cases h : b < a
  all_goals
    go_enter Tryz.func59, Tryz.ntmps59
    go_wp2
    go_ret
    exact ⟨ret_int (by omega), rfl⟩

theorem longR_take_succ (rs : List (UInt8 × Nat)) (k : Nat) (h : k < rs.length) : longR (rs.take (k + 1)) = max (longR (rs.take k)) rs[k].2 := by
  rw [List.take_succ_eq_append_getElem h, longR_snoc]
theorem runsL_ne {l : List UInt8} (h : 1 ≤ l.length) : runsL l ≠ [] := by
  have hne : l ≠ [] := by intro e; simp [e] at h
  have hd := List.dropLast_concat_getLast hne
  rw [← hd, runsL_snoc]
  exact stepRun_ne _ _

set_option maxHeartbeats 1000000 in
theorem woLongest_any (s : ByteArray) (w : World) (h1 : 1 ≤ s.size) (hs : s.size ≤ 400) (hd : s.data.toList.all digB = true) :
    Calls Tryz.prog 68 #[.string s] w fun e w' => e = .returned (.int .i64 (longL s.data.toList)) ∧ Below w.heap.size w w' := by
  go_enter Tryz.func68, Tryz.ntmps68
  go_wp2_with fail
  refine (woRuns_any s w hs hd).mono ?_
  rintro e w1 ⟨v, vs, rfl, hrr, hb⟩
  have HR := Lib.hid hrr
  have HB := Lib.hid hb
  obtain ⟨rs, hrs⟩ : ∃ rs, rs = runsL s.data.toList := ⟨_, rfl⟩
  have hsum : (rs.map (·.2)).sum ≤ 400 := by rw [hrs, runsL_sum]; simpa using hs
  have hrows : rowsL s.data.toList = rs.map rowOf := by rw [hrs]; rfl
  have hlong : longL s.data.toList = longR rs := by rw [hrs]; rfl
  obtain ⟨N, hN⟩ : ∃ N, N = rs.length := ⟨_, rfl⟩
  have hN4 : N ≤ 400 := by rw [hN, hrs]; exact Nat.le_trans (runsL_len _) (by simpa using hs)
  rw [hrows] at hrr
  rcases ownsRR_open hrr with ⟨_, _, hx⟩ | ⟨g, cap, rfl, hc1, hc2, _, _, hcell⟩
  · exact absurd hx (by simp [hrs]; exact runsL_ne (by simpa using h1))
  · have hat : ∀ k (h : k < rs.length), ∃ b c, w1.cell? ⟨g, k, none⟩ = some (.slice (some ⟨b, 0, none⟩) 2 c) ∧ w1.cell? ⟨b, 1, none⟩ = some (.int .i64 (rs[k].2 : Int)) := by
      intro k h
      obtain ⟨b, c, e1, _, e3⟩ := ownsRR_at2 hrr (i := k) (x := .int .i64 ((rs[k].1.toNat : Int) - 48)) (y := .int .i64 (rs[k].2 : Int)) (by simp [h, rowOf])
      exact ⟨b, c, hcell k (by simpa using h) _ e1, e3⟩
    have HA := Lib.hid hat
    have HL := Lib.hid hlong; have HN := Lib.hid hN; have HS := Lib.hid hsum
    simp only [List.length_map, ← hN] at hc1 ⊢
    clear hrr hb hlong hrows hrs hcell hat hsum hN
    go_wp2_with fail
    go_loop [3, 9] (fun m i => ∃ k : Nat, k ≤ N ∧ i = .int .i64 k ∧ m = .int .i64 (longR (rs.take k))) (fun _ i => N - (intOf i).toNat)
    case atStart => exact ⟨0, Nat.zero_le _, rfl, rfl⟩
    case round =>
      obtain ⟨k, hk, rfl, rfl⟩ := hrel
      by_cases hlt : k < N
      · obtain ⟨b, c, hc0, hc1'⟩ := HA.out k (by rw [← HN.out]; exact hlt)
        have hmx := Lib.hid (longR_take_succ rs k (by rw [← HN.out]; exact hlt))
        go_wp2_with fail
        refine (l1Most_is _ _ _ _ rfl).mono ?_
        rintro e w2 ⟨rfl, rfl⟩
        go_wp2
        go_round
        case rel => exact ⟨k + 1, by omega, by go_num, by rw [hmx.out]; congr 1; omega⟩
        case measure => simp [intOf]; omega
      · obtain rfl : k = N := by omega
        go_wp2
        go_ret
        exact ⟨ret_int (by rw [HL.out, List.take_of_length_le (by rw [← HN.out]; exact Nat.le_refl _)]), HB.out⟩

end Go.Proofs.YtkjmocdhhndlgaaGreatDoor

/- Words backwards and said: the model's functions. -/
namespace Go.Proofs.YtkjmocdhhndlgaaGreatDoor
open Go.RowKit Go.BigFrame
set_option linter.unusedSimpArgs false
set_option linter.unusedVariables false
set_option maxRecDepth 4000

/-- Decimal digits. -/
def numL (n : Nat) : List UInt8 := if h : n < 10 then [UInt8.ofNat (48 + n)] else numL (n / 10) ++ [UInt8.ofNat (48 + n % 10)]
termination_by n
decreasing_by omega
theorem numL_one (n : Nat) (h : n < 10) : numL n = [UInt8.ofNat (48 + n)] := by rw [numL, dif_pos h]
theorem numL_more (n : Nat) (h : ¬ n < 10) : numL n = numL (n / 10) ++ [UInt8.ofNat (48 + n % 10)] := by rw [numL, dif_neg h]
theorem numL_len (k : Nat) : ∀ n, n < 10 ^ (k + 1) → (numL n).length ≤ k + 1 := by
  induction k with
  | zero => intro n h; rw [numL_one n (by simpa using h)]; simp
  | succ k ih =>
    intro n h
    by_cases h2 : n < 10
    · rw [numL_one n h2]; simp
    · rw [numL_more n h2]
      have := ih (n / 10) (by rw [Nat.pow_succ] at h; omega)
      simp; omega
theorem numL_len19 (n : Nat) (h : n ≤ 9223372036854775807) : (numL n).length ≤ 19 := numL_len 18 n (by omega)
theorem conv1 (W : World) (x : Int) : (convert 22 9 (.slice (some ⟨W.heap.size, 0, none⟩) 1 1)).run Tryz.prog (W.alloc (.cells #[.int .u8 x] 5)) = .ok (.string (bs [UInt8.ofNat x.toNat])) (W.alloc (.cells #[.int .u8 x] 5)) := by
  have h := run_convert_bytes_arg (P := Tryz.prog) (W.alloc (.cells #[.int .u8 x] 5)) 22 5 Tryz.underlying22 Tryz.underlying5 W.heap.size 0 1 1 [x] rfl (fun i hi => by
    obtain rfl : i = 0 := by omega
    rw [World.cell?_alloc_at _ _ _ _ rfl]; rfl) 9 Tryz.underlying9
  rw [h]; rfl

theorem conv1_at (W : World) (g : Nat) (x : Int) (h : W.cell? ⟨g, 0, none⟩ = some (.int .u8 x)) : (convert 22 9 (.slice (some ⟨g, 0, none⟩) 1 1)).run Tryz.prog W = .ok (.string (bs [UInt8.ofNat x.toNat])) W := by
  have h := run_convert_bytes_arg (P := Tryz.prog) W 22 5 Tryz.underlying22 Tryz.underlying5 g 0 1 1 [x] rfl (fun i hi => by
    obtain rfl : i = 0 := by omega
    exact h) 9 Tryz.underlying9
  rw [h]; rfl
theorem conv1_kept {W w1 : World} (hb : Below W.heap.size W w1) (g : Nat) (x : Int) (hg : g < W.heap.size) (h : W.cell? ⟨g, 0, none⟩ = some (.int .u8 x)) :
    (convert 22 9 (.slice (some ⟨g, 0, none⟩) 1 1)).run Tryz.prog w1 = .ok (.string (bs [UInt8.ofNat x.toNat])) w1 :=
  conv1_at w1 g x ((hb.cell (p := ⟨g, 0, none⟩) hg).trans h)

theorem l1Num_any (k : Nat) : ∀ (n : Int) (w : World), n.toNat ≤ k → 0 ≤ n → n ≤ 9223372036854775807 →
    Calls Tryz.prog 72 #[.int .i64 n] w fun e w' => e = .returned (.string (bs (numL n.toNat))) ∧ Below w.heap.size w w' := by
  have hcv := conv1
  induction k with
  | zero =>
    intro n w hk h0 h1
    obtain rfl : n = 0 := by omega
    go_enter Tryz.func72, Tryz.ntmps72
    go_wp2_with fail
    go_ret
    exact ⟨ret_str (by rw [numL_one _ (by simp)]; rfl), below_alloc _ _⟩
  | succ k ih =>
    intro n w hk h0 h1
    obtain ⟨m, rfl⟩ := Int.eq_ofNat_of_zero_le h0
    by_cases hm : m < 10
    · go_enter Tryz.func72, Tryz.ntmps72
      go_wp2_with fail
      go_ret
      exact ⟨ret_str (by rw [Int.toNat_natCast, numL_one _ hm]), below_alloc _ _⟩
    · have hl := numL_len19 ((m : Int) / 10).toNat (by omega)
      rw [← bs_size] at hl
      have hl2 : ∀ c, (bs [c]).size = 1 := fun c => bs_size _
      have hih := fun (W : World) => ih ((m : Int) / 10) W (by omega) (by omega) (by omega)
      have IH := Lib.hid hih
      clear ih hih
      go_enter Tryz.func72, Tryz.ntmps72
      go_wp2_with fail
      have e1 : IntKind.i64.wrap ((m : Int) / 10) = (m : Int) / 10 := IntWalk.i64_in _ (by omega)
      have e2 : (m : Int).tmod 10 = (m : Int) % 10 := Int.tmod_eq_emod_of_nonneg (by omega)
      have e3 : IntKind.i64.wrap (48 + (m : Int) % 10) = 48 + (m : Int) % 10 := IntWalk.i64_in _ (by omega)
      have e4 : IntKind.u8.wrap (48 + (m : Int) % 10) = 48 + (m : Int) % 10 := IntWalk.u8_in _ (by omega)
      have hca := fun W => conv1_at W w.heap.size (48 + (m : Int) % 10)
      go_region_with (go_at_call 72; refine (IH.out _).mono ?_; rintro e w1 ⟨rfl, hb⟩; have hc := conv1_kept hb w.heap.size (48 + (m : Int) % 10))
      all_goals
        go_wp2_with fail
        go_ret
        exact ⟨ret_str (by rw [Int.toNat_natCast, numL_more _ hm, bs_append]; simp), by first
          | exact below_trans (below_drew w) hb
          | exact below_trans (below_trans (below_alloc w _) (below_drew _)) hb
          | exact below_trans (below_trans (below_drew w) hb) (below_alloc _ _)⟩
end Go.Proofs.YtkjmocdhhndlgaaGreatDoor

/- What is said of a word: the model's woSay, woSaid. -/
namespace Go.Proofs.YtkjmocdhhndlgaaGreatDoor
open Go.RowKit Go.BigFrame
set_option linter.unusedSimpArgs false
set_option linter.unusedVariables false
set_option maxRecDepth 4000

def sayP (p : UInt8 × Nat) : List UInt8 := numL p.2 ++ numL (p.1.toNat - 48)
def sayR (rs : List (UInt8 × Nat)) : List UInt8 := rs.flatMap sayP
def sayL (l : List UInt8) : List UInt8 := sayR (runsL l)
theorem sayR_snoc (rs : List (UInt8 × Nat)) (k : Nat) (h : k < rs.length) : sayR (rs.take (k + 1)) = sayR (rs.take k) ++ (numL rs[k].2 ++ numL (rs[k].1.toNat - 48)) := by
  rw [sayR, List.take_succ_eq_append_getElem h, List.flatMap_append]; simp [sayR, sayP]
/-- Every run of a word of digits is of a digit. -/
theorem stepRun_mem (acc : List (UInt8 × Nat)) (c : UInt8) (P : UInt8 → Prop) (h : ∀ p ∈ acc, P p.1) (hc : P c) : ∀ p ∈ stepRun acc c, P p.1 := by
  unfold stepRun
  split
  · split
    · rename_i d n h1 h2
      intro p hp
      rw [List.mem_append] at hp
      rcases hp with hp | hp
      · exact h p (List.dropLast_subset _ hp)
      · simp at hp; subst hp; subst h2; exact hc
    · intro p hp
      rw [List.mem_append] at hp
      rcases hp with hp | hp
      · exact h p hp
      · simp at hp; subst hp; exact hc
  · intro p hp; simp at hp; subst hp; exact hc
theorem runsL_mem (P : UInt8 → Prop) : ∀ (l : List UInt8), (∀ c ∈ l, P c) → ∀ p ∈ runsL l, P p.1 := by
  intro l
  induction h : l.length generalizing l with
  | zero => intro _ p hp; have : l = [] := List.eq_nil_of_length_eq_zero h; subst this; simp [runsL] at hp
  | succ n ih =>
    intro hl
    have hne : l ≠ [] := by intro e; simp [e] at h
    have hd := List.dropLast_concat_getLast hne
    rw [← hd, runsL_snoc]
    exact stepRun_mem _ _ P (ih l.dropLast (by simp [h]) (fun c hc => hl c (List.dropLast_subset _ hc))) (hl _ (List.getLast_mem hne))
theorem runs_dig {l : List UInt8} (h : l.all digB = true) {k : Nat} (hk : k < (runsL l).length) : 49 ≤ (runsL l)[k].1.toNat ∧ (runsL l)[k].1.toNat ≤ 57 := by
  have := runsL_mem (fun c => 49 ≤ c.toNat ∧ c.toNat ≤ 57) l (fun c hc => by simpa [digB] using List.all_eq_true.1 h c hc) _ (List.getElem_mem hk)
  exact this
theorem le_sum_of_mem (rs : List (UInt8 × Nat)) (p : UInt8 × Nat) (h : p ∈ rs) : p.2 ≤ (rs.map (·.2)).sum := by
  induction rs with
  | nil => simp at h
  | cons a r ih =>
    simp only [List.map_cons, List.sum_cons]
    rcases List.mem_cons.1 h with rfl | h
    · omega
    · have := ih h; omega
theorem runs_cnt {l : List UInt8} {k : Nat} (hk : k < (runsL l).length) : (runsL l)[k].2 ≤ l.length := by
  rw [← runsL_sum l]
  exact le_sum_of_mem _ _ (List.getElem_mem hk)

set_option maxHeartbeats 2000000 in
theorem woSay_any (s : ByteArray) (w : World) (h1 : 1 ≤ s.size) (hs : s.size ≤ 400) (hd : s.data.toList.all digB = true) :
    Calls Tryz.prog 118 #[.string s] w fun e w' => e = .returned (.string (bs (sayL s.data.toList))) ∧ Below w.heap.size w w' := by
  go_enter Tryz.func118, Tryz.ntmps118
  go_wp2_with fail
  refine (woRuns_any s w hs hd).mono ?_
  rintro e w1 ⟨v, vs, rfl, hrr, hb⟩
  have HB := Lib.hid hb
  obtain ⟨rs, hrs⟩ : ∃ rs, rs = runsL s.data.toList := ⟨_, rfl⟩
  have hrows : rowsL s.data.toList = rs.map rowOf := by rw [hrs]; rfl
  have hsay : sayL s.data.toList = sayR rs := by rw [hrs]; rfl
  have hN4 : rs.length ≤ 400 := by rw [hrs]; exact Nat.le_trans (runsL_len _) (by simpa using hs)
  have hdg : ∀ k (h : k < rs.length), 49 ≤ rs[k].1.toNat ∧ rs[k].1.toNat ≤ 57 ∧ rs[k].2 ≤ 400 := by
    subst hrs; intro k h
    exact ⟨(runs_dig hd h).1, (runs_dig hd h).2, Nat.le_trans (runs_cnt h) (by simpa using hs)⟩
  have HD := Lib.hid hdg
  rw [hrows] at hrr
  have HX := Lib.hid hrr
  rcases ownsRR_open hrr with ⟨_, _, hx⟩ | ⟨g, cap, rfl, hc1, hc2, _, hgs, hcell⟩
  · exact absurd hx (by simp [hrs]; exact runsL_ne (by simpa using h1))
  · have hat : ∀ k (h : k < rs.length), ∃ b c, b < w1.heap.size ∧ w1.cell? ⟨g, k, none⟩ = some (.slice (some ⟨b, 0, none⟩) 2 c) ∧ w1.cell? ⟨b, 0, none⟩ = some (.int .i64 ((rs[k].1.toNat : Int) - 48)) ∧ w1.cell? ⟨b, 1, none⟩ = some (.int .i64 (rs[k].2 : Int)) := by
      intro k h
      obtain ⟨b, c, e1, e2, e3⟩ := ownsRR_at2 hrr (i := k) (x := .int .i64 ((rs[k].1.toNat : Int) - 48)) (y := .int .i64 (rs[k].2 : Int)) (by simp [h, rowOf])
      exact ⟨b, c, World.block_lt_of_cell? w1 _ e2, hcell k (by simpa using h) _ e1, e2, e3⟩
    have HA := Lib.hid hat
    have HL := Lib.hid hsay
    simp only [List.length_map] at hc1 ⊢
    obtain ⟨N, hN⟩ : ∃ N, N = rs.length := ⟨_, rfl⟩
    simp only [← hN] at hc1 hN4 ⊢
    have HN := Lib.hid hN
    clear hrr hb hsay hrows hrs hcell hat hN hdg
    go_wp2_with fail
    go_loopw [3, 9] (fun o i wr => ∃ (k : Nat) (t : ByteArray), k ≤ N ∧ i = .int .i64 k ∧ o = .string t ∧ t.size ≤ 40 * k ∧ Hid (t.data.toList = sayR (rs.take k)) ∧ Hid (Below w1.heap.size w1 wr)) (fun _ i _ => N - (intOf i).toNat)
    case atStart => exact ⟨0, bs [], Nat.zero_le _, rfl, rfl, by simp [bs_size], by rw [bs_list]; exact rfl, below_refl _⟩
    case round =>
      obtain ⟨k, t, hk, rfl, rfl, ht, HT, HW⟩ := hrel
      by_cases hlt : k < N
      · have hlt' : k < rs.length := by rw [← HN.out]; exact hlt
        obtain ⟨b, c, hbs, hc0, hc1', hc2'⟩ := HA.out k hlt'
        obtain ⟨hd1, hd2, hd3⟩ := HD.out k hlt'
        have hsn := Lib.hid (sayR_snoc rs k hlt')
        obtain ⟨d, hdd⟩ : ∃ d, d = rs[k].1.toNat := ⟨_, rfl⟩
        obtain ⟨n, hnn⟩ : ∃ n, n = rs[k].2 := ⟨_, rfl⟩
        simp only [← hdd, ← hnn] at hc1' hc2' hd1 hd2 hd3
        have HDD := Lib.hid hdd; have HNN := Lib.hid hnn; clear hdd hnn
        have hr0 : wr.cell? ⟨g, k, none⟩ = some (.slice (some ⟨b, 0, none⟩) 2 c) := (HW.out.cell (p := ⟨g, k, none⟩) hgs).trans hc0
        have hr1 : wr.cell? ⟨b, 0, none⟩ = some (.int .i64 ((d : Int) - 48)) := (HW.out.cell (p := ⟨b, 0, none⟩) hbs).trans hc1'
        have hr2 : wr.cell? ⟨b, 1, none⟩ = some (.int .i64 (n : Int)) := (HW.out.cell (p := ⟨b, 1, none⟩) hbs).trans hc2'
        have hbr : b < wr.heap.size := Nat.lt_of_lt_of_le hbs HW.out.size
        have hl1 := numL_len19 n (by omega)
        have hl2 := numL_len19 (d - 48) (by omega)
        rw [← bs_size] at hl1 hl2
        clear hc0 hc1' hc2' hbs
        have hn1 := fun (W : World) => l1Num_any n (n : Int) W (by omega) (by omega) (by omega)
        have hn2 := fun (W : World) => l1Num_any d ((d : Int) - 48) W (by omega) (by omega) (by omega)
        rw [show ((n : Int)).toNat = n from by omega] at hn1
        rw [show ((d : Int) - 48).toNat = d - 48 from by omega] at hn2
        have H1 := Lib.hid hn1; have H2 := Lib.hid hn2; clear hn1 hn2
        go_wp2_with fail
        go_region_with (go_at_call 72; first
          | ((with_reducible refine (H1.out _).mono ?_); rintro e w2 ⟨rfl, hb1⟩; try (have hb1c := (hb1.cell (p := ⟨b, 0, none⟩) hbr).trans hr1))
          | ((with_reducible refine (H2.out _).mono ?_); rintro e w3 ⟨rfl, hb2⟩; try (have hb2c := (hb2.cell (p := ⟨b, 1, none⟩) hbr).trans hr2)))
        all_goals
          go_wp2_with fail
          go_roundw
          case rel =>
            refine ⟨k + 1, _, by omega, by go_num, rfl, ?_, ?_, ?_⟩
            · simp only [ByteArray.size_append]; omega
            · rw [list_append, list_append, HT.out, bs_list, bs_list, hsn.out, HDD.out, HNN.out]; exact rfl
            · first
                | exact below_trans HW.out (below_trans (below_drew _) (below_trans hb1 hb2))
                | exact below_trans HW.out (below_trans (below_drew _) (below_trans hb2 hb1))
          case measure => simp [intOf] <;> omega

      · obtain rfl : k = N := by omega
        go_wp2
        go_ret
        exact ⟨ret_str (bs_eq (by rw [HT.out, HL.out, List.take_of_length_le (by rw [← HN.out]; exact Nat.le_refl _)])), HB.out.trans (HW.out.mono HB.out.size)⟩

/-- What is said of a text, if it is a speakable word and this is a word. -/
def saidO (l : List UInt8) : Option (List UInt8) := if speakL l = true ∧ goodL (sayL l) = true then some (sayL l) else none
/-- A text and a bool, or the empty text and false. -/
def strOk : Option (List UInt8) → Value
  | some l => .tuple #[.string (bs l), .bool true]
  | none => .tuple #[.string ⟨#[]⟩, .bool false]
theorem sayR_len (rs : List (UInt8 × Nat)) (h : ∀ p ∈ rs, p.2 ≤ 400) : (sayR rs).length ≤ 40 * rs.length := by
  induction rs with
  | nil => simp [sayR]
  | cons p r ih =>
    have h1 := ih (fun q hq => h q (List.mem_cons_of_mem _ hq))
    have h2 := numL_len19 p.2 (by have := h p List.mem_cons_self; omega)
    have h3 := numL_len19 (p.1.toNat - 48) (by have := p.1.toNat_lt; omega)
    simp only [sayR, List.flatMap_cons, List.length_append, List.length_cons, sayP] at *
    omega

end Go.Proofs.YtkjmocdhhndlgaaGreatDoor

/- Runs of what is said, said again and again: plain lists, nothing of the program's memory. -/
namespace Go.Proofs.YtkjmocdhhndlgaaGreatDoor
set_option linter.unusedSimpArgs false
set_option linter.unusedVariables false

/-- Next runs tell of other digits. -/
def Adj (qs : List (UInt8 × Nat)) : Prop := ∀ (i : Nat) (a b : UInt8 × Nat), qs[i]? = some a → qs[i + 1]? = some b → a.1 ≠ b.1
theorem adj_nil : Adj [] := fun i a b h => by simp at h
theorem adj_prefix {qs rs : List (UInt8 × Nat)} (h : qs <+: rs) (hr : Adj rs) : Adj qs := by
  obtain ⟨t, rfl⟩ := h
  intro i a b h1 h2
  have e1 := (List.getElem?_eq_some_iff.1 h1).1
  have e2 := (List.getElem?_eq_some_iff.1 h2).1
  exact hr i a b (by rw [List.getElem?_append_left e1]; exact h1) (by rw [List.getElem?_append_left e2]; exact h2)
theorem adj_snoc {qs : List (UInt8 × Nat)} {x : UInt8 × Nat} (h : Adj qs) (hx : ∀ p, qs.getLast? = some p → p.1 ≠ x.1) : Adj (qs ++ [x]) := by
  intro i a b h1 h2
  by_cases hi : i + 1 < qs.length
  · rw [List.getElem?_append_left (by omega)] at h1
    rw [List.getElem?_append_left hi] at h2
    exact h i a b h1 h2
  · by_cases hj : i + 1 = qs.length
    · rw [List.getElem?_append_left (by omega)] at h1
      rw [List.getElem?_append_right (by omega), hj, Nat.sub_self] at h2
      simp at h2; subst h2
      refine hx a ?_
      rw [List.getLast?_eq_getElem?, ← h1]; congr 1; omega
    · have := (List.getElem?_eq_some_iff.1 h2).1
      simp at this; omega
theorem adj_last {pre : List (UInt8 × Nat)} {x y : UInt8 × Nat} (h : Adj (pre ++ [x])) (hxy : x.1 = y.1) : Adj (pre ++ [y]) := by
  refine adj_snoc (adj_prefix ⟨[x], rfl⟩ h) (fun p hp => ?_)
  rw [← hxy]
  have hl : pre.length ≠ 0 := by intro e; have := List.eq_nil_of_length_eq_zero e; subst this; simp at hp
  refine h (pre.length - 1) p x ?_ ?_
  · rw [List.getElem?_append_left (by omega), ← List.getLast?_eq_getElem?]; exact hp
  · rw [List.getElem?_append_right (by omega), show pre.length - 1 + 1 - pre.length = 0 by omega]; rfl
theorem list_cases_snoc {α : Type} (l : List α) : l = [] ∨ ∃ pre x, l = pre ++ [x] := by
  by_cases h : l = []
  · exact .inl h
  · exact .inr ⟨l.dropLast, l.getLast h, (List.dropLast_concat_getLast h).symm⟩
theorem snoc_rec {α : Type} {P : List α → Prop} (h0 : P []) (hs : ∀ l a, P l → P (l ++ [a])) : ∀ l, P l := by
  intro l
  induction h : l.length generalizing l with
  | zero => have : l = [] := List.eq_nil_of_length_eq_zero h; subst this; exact h0
  | succ n ih =>
    rcases list_cases_snoc l with rfl | ⟨pre, x, rfl⟩
    · simp at h
    · exact hs _ _ (ih pre (by simpa using h))
theorem adj_step {acc : List (UInt8 × Nat)} (c : UInt8) (h : Adj acc) : Adj (stepRun acc c) := by
  rcases list_cases_snoc acc with rfl | ⟨pre, ⟨d, n⟩, rfl⟩
  · have : stepRun [] c = [] ++ [(c, 1)] := rfl
    rw [this]; exact adj_snoc adj_nil (fun p hp => by simp at hp)
  · by_cases e : d = c
    · subst e; rw [stepRun_same]; exact adj_last h rfl
    · rw [stepRun_other _ _ _ _ e]
      exact adj_snoc h (fun p hp => by simp at hp; subst hp; exact e)
theorem adj_runs (l : List UInt8) : Adj (runsL l) := by
  refine snoc_rec (P := fun l => Adj (runsL l)) adj_nil (fun l a h => ?_) l
  rw [runsL_snoc]; exact adj_step a h
theorem longR_le_of {rs : List (UInt8 × Nat)} {m : Nat} (h : ∀ p ∈ rs, p.2 ≤ m) : longR rs ≤ m := by
  revert h
  refine snoc_rec (P := fun rs => (∀ p ∈ rs, p.2 ≤ m) → longR rs ≤ m) (fun _ => Nat.zero_le _) (fun l a ih h => ?_) rs
  rw [longR_snoc]
  have h1 := ih (fun p hp => h p (by simp [hp]))
  have h2 := h a (by simp)
  omega
theorem le_longR' {rs : List (UInt8 × Nat)} {p : UInt8 × Nat} (h : p ∈ rs) : p.2 ≤ longR rs := by
  revert h
  refine snoc_rec (P := fun rs => p ∈ rs → p.2 ≤ longR rs) (fun h => by simp at h) (fun l a ih h => ?_) rs
  rw [longR_snoc]
  rw [List.mem_append] at h
  rcases h with h | h
  · have := ih h; omega
  · simp at h; subst h; omega
/-- Runs that can be said: few, of digits. -/
def RunOk (p : UInt8 × Nat) : Prop := 49 ≤ p.1.toNat ∧ p.1.toNat ≤ 57 ∧ 1 ≤ p.2 ∧ p.2 ≤ 9
def nDig (n : Nat) : UInt8 := UInt8.ofNat (48 + n)
theorem nDig_nat {n : Nat} (h : n ≤ 9) : (nDig n).toNat = 48 + n := by
  unfold nDig; rw [UInt8.toNat_ofNat', Nat.mod_eq_of_lt (by omega)]
theorem sayP_two {p : UInt8 × Nat} (h : RunOk p) : sayP p = [nDig p.2, p.1] := by
  obtain ⟨h1, h2, h3, h4⟩ := h
  unfold sayP
  rw [numL_one _ (by omega), numL_one _ (by omega)]
  have : UInt8.ofNat (48 + (p.1.toNat - 48)) = p.1 := by rw [show 48 + (p.1.toNat - 48) = p.1.toNat by omega]; exact UInt8.ofNat_toNat
  rw [this]; rfl
theorem sayR_snoc2 {qs : List (UInt8 × Nat)} {p : UInt8 × Nat} (h : RunOk p) : sayR (qs ++ [p]) = sayR qs ++ [nDig p.2] ++ [p.1] := by
  simp [sayR, sayP_two h]
theorem sayR_len2 {qs : List (UInt8 × Nat)} (h : ∀ p ∈ qs, RunOk p) : (sayR qs).length = 2 * qs.length := by
  revert h
  refine snoc_rec (P := fun qs => (∀ p ∈ qs, RunOk p) → (sayR qs).length = 2 * qs.length) (fun _ => rfl) (fun l a ih h => ?_) qs
  rw [sayR_snoc2 (h a (by simp))]
  have := ih (fun p hp => h p (by simp [hp]))
  simp; omega
theorem sayR_all {qs : List (UInt8 × Nat)} (h : ∀ p ∈ qs, RunOk p) : (sayR qs).all digB = true := by
  revert h
  refine snoc_rec (P := fun qs => (∀ p ∈ qs, RunOk p) → (sayR qs).all digB = true) (fun _ => rfl) (fun l a ih h => ?_) qs
  have ha := h a (by simp)
  rw [sayR_snoc2 ha]
  have := ih (fun p hp => h p (by simp [hp]))
  obtain ⟨h1, h2, h3, h4⟩ := ha
  simp only [List.all_append, this, List.all_cons, List.all_nil, digB, nDig_nat h4]
  simp; omega
/-- The runs of what is said: none has more than three digits, and there are as many as pairs at least. -/
def SaidRuns (qs R : List (UInt8 × Nat)) : Prop := (∀ p ∈ R, p.2 ≤ 3) ∧ qs.length ≤ R.length ∧ ∀ q, qs.getLast? = some q → ∃ pre m, R = pre ++ [(q.1, m)] ∧ m ≤ 2
theorem said_runs {qs : List (UInt8 × Nat)} (ha : Adj qs) (h : ∀ p ∈ qs, RunOk p) : SaidRuns qs (runsL (sayR qs)) := by
  revert ha h
  refine snoc_rec (P := fun qs => Adj qs → (∀ p ∈ qs, RunOk p) → SaidRuns qs (runsL (sayR qs))) (fun _ _ => ⟨fun p hp => by simp [sayR, runsL] at hp, by simp, fun q hq => by simp at hq⟩) (fun l a ih ha h => ?_) qs
  obtain ⟨i1, i2, i3⟩ := ih (adj_prefix ⟨[a], rfl⟩ ha) (fun p hp => h p (by simp [hp]))
  rw [sayR_snoc2 (h a (by simp)), runsL_snoc, runsL_snoc]
  obtain ⟨d, n⟩ := a
  simp only
  rcases list_cases_snoc l with rfl | ⟨pre, q, rfl⟩
  · rw [show runsL (sayR []) = [] from rfl]
    have e1 : stepRun [] (nDig n) = [] ++ [(nDig n, 1)] := rfl
    rw [e1]
    by_cases e : nDig n = d
    · rw [← e, stepRun_same]
      exact ⟨fun p hp => by simp at hp; subst hp; simp, by simp, fun q hq => by simp at hq; subst hq; exact ⟨[], 2, by simp, by omega⟩⟩
    · rw [stepRun_other _ _ _ _ e]
      exact ⟨fun p hp => by simp at hp; rcases hp with rfl | rfl <;> simp, by simp, fun q hq => by simp at hq; subst hq; exact ⟨[(nDig n, 1)], 1, by simp, by omega⟩⟩
  · obtain ⟨R', m, hR, hm⟩ := i3 q (by simp)
    have hqd : q.1 ≠ d := ha pre.length q (d, n) (by rw [List.getElem?_append_left (by simp), List.getElem?_append_right (by omega), Nat.sub_self]; rfl) (by rw [List.getElem?_append_right (by simp)]; simp)
    rw [hR] at i1 i2 ⊢
    simp only [List.length_append, List.length_cons, List.length_nil] at i2
    by_cases e2 : q.1 = nDig n
    · rw [← e2, stepRun_same, stepRun_other _ _ _ _ hqd]
      refine ⟨fun p hp => ?_, by simp; omega, fun x hx => by simp at hx; subst hx; exact ⟨_, 1, rfl, by omega⟩⟩
      simp only [List.mem_append, List.mem_singleton] at hp
      rcases hp with (hp | rfl) | rfl
      · exact i1 p (by simp [hp])
      · simp; omega
      · simp
    · rw [stepRun_other _ _ _ _ e2]
      by_cases e3 : nDig n = d
      · rw [e3, stepRun_same]
        refine ⟨fun p hp => ?_, by simp; omega, fun x hx => by simp at hx; subst hx; exact ⟨_, 2, rfl, by omega⟩⟩
        simp only [List.mem_append, List.mem_singleton] at hp
        rcases hp with (hp | rfl) | rfl
        · exact i1 p (by simp [hp])
        · simp; omega
        · simp
      · rw [stepRun_other _ _ _ _ e3]
        refine ⟨fun p hp => ?_, by simp; omega, fun x hx => by simp at hx; subst hx; exact ⟨_, 1, rfl, by omega⟩⟩
        simp only [List.mem_append, List.mem_singleton] at hp
        rcases hp with ((hp | rfl) | rfl) | rfl
        · exact i1 p (by simp [hp])
        · simp; omega
        · simp
        · simp

/-- A text that can be said, however long: digits, no run of more than nine. -/
def sayB (l : List UInt8) : Bool := !l.isEmpty && l.all digB && decide (longL l ≤ 9)
theorem sayB_iff {l : List UInt8} : sayB l = true ↔ l ≠ [] ∧ l.all digB = true ∧ longL l ≤ 9 := by
  unfold sayB; simp [and_assoc]
theorem stepRun_digB (acc : List (UInt8 × Nat)) (c : UInt8) (h : ∀ p ∈ acc, digB p.1 = true ∧ 1 ≤ p.2) (hc : digB c = true) : ∀ p ∈ stepRun acc c, digB p.1 = true ∧ 1 ≤ p.2 := by
  rcases list_cases_snoc acc with rfl | ⟨pre, ⟨d, n⟩, rfl⟩
  · intro p hp
    have e1 : stepRun [] c = [(c, 1)] := rfl
    rw [e1] at hp; simp at hp; subst hp; exact ⟨hc, by simp⟩
  · by_cases e : d = c
    · subst e; rw [stepRun_same]
      intro p hp
      rw [List.mem_append] at hp
      rcases hp with hp | hp
      · exact h p (by simp [hp])
      · simp at hp; subst hp; exact ⟨hc, by simp⟩
    · rw [stepRun_other _ _ _ _ e]
      intro p hp
      rw [List.mem_append] at hp
      rcases hp with hp | hp
      · exact h p hp
      · simp at hp; subst hp; exact ⟨hc, by simp⟩
theorem runs_digB {l : List UInt8} (h : l.all digB = true) : ∀ p ∈ runsL l, digB p.1 = true ∧ 1 ≤ p.2 := by
  revert h
  refine snoc_rec (P := fun l => l.all digB = true → ∀ p ∈ runsL l, digB p.1 = true ∧ 1 ≤ p.2) (fun _ p hp => by simp [runsL] at hp) (fun l a ih h => ?_) l
  rw [List.all_append] at h
  simp only [List.all_cons, List.all_nil, Bool.and_true, Bool.and_eq_true] at h
  rw [runsL_snoc]
  exact stepRun_digB _ _ (ih h.1) h.2
theorem runs_ok {l : List UInt8} (h : sayB l = true) : ∀ p ∈ runsL l, RunOk p := by
  obtain ⟨_, h2, h3⟩ := sayB_iff.1 h
  intro p hp
  obtain ⟨h4, h5⟩ := runs_digB h2 p hp
  unfold digB at h4
  simp at h4
  exact ⟨h4.1, h4.2, h5, Nat.le_trans (le_longR' hp) h3⟩
theorem runs_ne {l : List UInt8} (h : l ≠ []) : runsL l ≠ [] := by
  rcases list_cases_snoc l with rfl | ⟨pre, x, rfl⟩
  · exact absurd rfl h
  · rw [runsL_snoc]
    obtain ⟨p, n, e⟩ := stepRun_last (runsL pre) x
    rw [e]; simp
/-- What is said of a text that can be said can be said again. -/
theorem sayB_say {l : List UInt8} (h : sayB l = true) : sayB (sayL l) = true := by
  have hok := runs_ok h
  have hne : runsL l ≠ [] := runs_ne (sayB_iff.1 h).1
  refine sayB_iff.2 ⟨?_, sayR_all hok, ?_⟩
  · intro e
    have := sayR_len2 hok
    unfold sayL at e
    rw [e] at this
    exact hne (List.eq_nil_of_length_eq_zero (by simp at this; omega))
  · unfold longL sayL
    have := longR_le_of (said_runs (adj_runs l) hok).1
    omega
theorem runs_len_le (l : List UInt8) : (runsL l).length ≤ l.length := by
  refine snoc_rec (P := fun l => (runsL l).length ≤ l.length) (by simp [runsL]) (fun l a ih => ?_) l
  rw [runsL_snoc]
  rcases list_cases_snoc (runsL l) with e | ⟨pre, ⟨d, n⟩, e⟩
  · rw [e]; simp [stepRun]
  · rw [e] at ih ⊢
    by_cases e2 : d = a
    · subst e2; rw [stepRun_same]; simp at ih ⊢; omega
    · rw [stepRun_other _ _ _ _ e2]; simp at ih ⊢; omega
theorem say_len_le {l : List UInt8} (h : sayB l = true) : (sayL l).length ≤ 2 * l.length := by
  unfold sayL; rw [sayR_len2 (runs_ok h)]
  have := runs_len_le l; omega
/-- Said so many times. -/
def sayN : Nat → List UInt8 → List UInt8
  | 0, l => l
  | k + 1, l => sayL (sayN k l)
theorem sayN_ok {l : List UInt8} (h : sayB l = true) : ∀ k, sayB (sayN k l) = true
  | 0 => h
  | k + 1 => sayB_say (sayN_ok h k)
theorem sayN_len {l : List UInt8} (h : sayB l = true) : ∀ k, (sayN k l).length ≤ 2 ^ k * l.length
  | 0 => by simp [sayN]
  | k + 1 => by
    have h1 := say_len_le (sayN_ok h k)
    have h2 := sayN_len h k
    have : 2 ^ (k + 1) * l.length = 2 * (2 ^ k * l.length) := by rw [Nat.pow_succ, Nat.mul_comm (2 ^ k) 2, Nat.mul_assoc]
    simp only [sayN]; omega
/-- The first digits of a text said again and again. -/
def firstsL (l : List UInt8) : List UInt8 := (List.range 10).map fun k => (sayN k l).headD 0

/-! ### A part of a text tells the first pairs -/
theorem fold_prefix : ∀ (t : List UInt8) (acc : List (UInt8 × Nat)), acc.dropLast <+: t.foldl stepRun acc ∧ (acc.dropLast.length = (t.foldl stepRun acc).length → acc = []) := by
  intro t
  induction t with
  | nil => intro acc; exact ⟨List.dropLast_prefix acc, fun h => by simp at h; exact List.eq_nil_of_length_eq_zero (by omega)⟩
  | cons c t ih =>
    intro acc
    have hs : acc.dropLast <+: (stepRun acc c).dropLast := by
      rcases list_cases_snoc acc with rfl | ⟨pre, ⟨d, n⟩, rfl⟩
      · exact List.nil_prefix
      · by_cases e : d = c
        · subst e; rw [stepRun_same]; simp
        · rw [stepRun_other _ _ _ _ e]; simp
    obtain ⟨i1, i2⟩ := ih (stepRun acc c)
    refine ⟨hs.trans i1, fun h => ?_⟩
    have h1 := hs.length_le
    have h2 := i1.length_le
    simp only [List.foldl_cons] at h
    have h3 : (stepRun acc c).dropLast.length = (t.foldl stepRun (stepRun acc c)).length := by omega
    exact absurd (i2 h3) (by obtain ⟨p, n, e⟩ := stepRun_last acc c; rw [e]; simp)
theorem runs_prefix {p f : List UInt8} (h : p <+: f) : (runsL p).dropLast <+: runsL f := by
  obtain ⟨t, rfl⟩ := h
  have := (fold_prefix t (runsL p)).1
  unfold runsL at *
  rw [List.foldl_append]; exact this
theorem sayR_prefix {qs rs : List (UInt8 × Nat)} (h : qs <+: rs) : sayR qs <+: sayR rs := by
  obtain ⟨t, rfl⟩ := h
  exact ⟨sayR t, by simp [sayR]⟩
/-- The beginning of a text that is kept when it gets too long: the first pairs of what was said. -/
structure Cut (m : Nat) (p f : List UInt8) : Prop where
  pairs : ∃ qs, p = sayR qs ∧ (∀ x ∈ qs, RunOk x) ∧ Adj qs ∧ m ≤ qs.length
  pre : p <+: f
theorem cut_step {m : Nat} {p f : List UInt8} (h : Cut (m + 1) p f) (hf : sayB f = true) : Cut m ((sayL p).take ((sayL p).length - 2)) (sayL f) ∧ 2 ≤ (sayL p).length ∧ (sayL p).all digB = true ∧ sayB p = true := by
  obtain ⟨⟨qs, rfl, hok, hadj, hm⟩, hp⟩ := h
  obtain ⟨s1, s2, _⟩ := said_runs hadj hok
  have hqn : qs ≠ [] := by intro e; subst e; simp at hm
  have hpne : sayR qs ≠ [] := by
    intro e; have := sayR_len2 hok; rw [e] at this; simp at this; exact hqn (List.eq_nil_of_length_eq_zero (by omega))
  have hsp : sayB (sayR qs) = true := sayB_iff.2 ⟨hpne, sayR_all hok, by unfold longL; have := longR_le_of s1; omega⟩
  have hro := runs_ok hsp
  have hl := sayR_len2 hro
  have hrne := runs_ne hpne
  have hdl : (runsL (sayR qs)).dropLast ++ [(runsL (sayR qs)).getLast hrne] = runsL (sayR qs) := List.dropLast_concat_getLast hrne
  have hdok : ∀ x ∈ (runsL (sayR qs)).dropLast, RunOk x := fun x hx => hro x (List.dropLast_subset _ hx)
  have hdlen : (runsL (sayR qs)).dropLast.length = (runsL (sayR qs)).length - 1 := by simp
  have hcut : (sayL (sayR qs)).take ((sayL (sayR qs)).length - 2) = sayR (runsL (sayR qs)).dropLast := by
    have h1 : sayL (sayR qs) = sayR (runsL (sayR qs)).dropLast ++ [nDig ((runsL (sayR qs)).getLast hrne).2, ((runsL (sayR qs)).getLast hrne).1] := by
      unfold sayL
      conv => lhs; rw [← hdl]
      rw [sayR_snoc2 (hro _ (List.getLast_mem hrne))]; simp
    rw [h1]; simp
  refine ⟨⟨⟨_, hcut, hdok, adj_prefix (List.dropLast_prefix _) (adj_runs _), by omega⟩, ?_⟩, ?_, sayR_all hro, hsp⟩
  · rw [hcut]; exact sayR_prefix (runs_prefix hp)
  · unfold sayL; omega
theorem sayR_take {qs : List (UInt8 × Nat)} (h : ∀ p ∈ qs, RunOk p) (m : Nat) : (sayR qs).take (2 * m) = sayR (qs.take m) := by
  have e : sayR qs = sayR (qs.take m) ++ sayR (qs.drop m) := by
    simp only [sayR]; rw [← List.flatMap_append, List.take_append_drop]
  by_cases hm : m ≤ qs.length
  · have hl := sayR_len2 (qs := qs.take m) (fun p hp => h p (List.mem_of_mem_take hp))
    rw [List.length_take, Nat.min_eq_left hm] at hl
    rw [e, List.take_append, List.take_of_length_le (by omega), hl, Nat.sub_self]; simp
  · rw [List.take_of_length_le (by rw [sayR_len2 h]; omega), List.take_of_length_le (by omega)]
theorem cut_take {m : Nat} {p f : List UInt8} (h : Cut m p f) (hm : m ≤ 40) : Cut m (p.take 80) f := by
  obtain ⟨⟨qs, rfl, hok, hadj, hl⟩, hp⟩ := h
  refine ⟨⟨qs.take 40, sayR_take hok 40, fun x hx => hok x (List.mem_of_mem_take hx), adj_prefix (List.take_prefix _ _) hadj, ?_⟩, (List.take_prefix _ _).trans hp⟩
  rw [List.length_take]; omega
theorem cut_first {m : Nat} {p : List UInt8} (h : sayB p = true) (hm : 2 * m ≤ (sayL p).length) : Cut m (sayL p) (sayL p) := by
  have hok := runs_ok h
  refine ⟨⟨runsL p, rfl, hok, adj_runs p, ?_⟩, List.prefix_refl _⟩
  have := sayR_len2 hok
  unfold sayL at hm; omega
theorem cut_head {m : Nat} {p f : List UInt8} (h : Cut (m + 1) p f) : p ≠ [] ∧ p.headD 0 = f.headD 0 := by
  obtain ⟨⟨qs, rfl, hok, hadj, hm⟩, ⟨t, rfl⟩⟩ := h
  have hl := sayR_len2 hok
  cases hs : sayR qs with
  | nil => rw [hs] at hl; simp at hl; omega
  | cons a r => simp
end Go.Proofs.YtkjmocdhhndlgaaGreatDoor

/- The runs of a text told one by one: the program's runParts. -/
namespace Go.Proofs.YtkjmocdhhndlgaaGreatDoor
open Go.RowKit Go.BigFrame Go.Shelf
set_option linter.unusedSimpArgs false
set_option linter.unusedVariables false
set_option maxRecDepth 4000
attribute [local go_sem] Oper.semAt_some

/-- How many digits runs have together. -/
def cntR (rs : List (UInt8 × Nat)) : Nat := (rs.map (·.2)).sum
theorem cntR_snoc (rs : List (UInt8 × Nat)) (d : UInt8) (n : Nat) : cntR (rs ++ [(d, n)]) = cntR rs + n := by simp [cntR]
/-- The first m places of N. -/
def upF (N m : Nat) : List (Fin N) := (List.finRange N).take m
theorem upF_succ {N m : Nat} (h : m < N) : upF N (m + 1) = upF N m ++ [⟨m, h⟩] := by
  unfold upF
  rw [List.take_succ_eq_append_getElem (by simpa using h)]
  simp
theorem upF_len {N m : Nat} (h : m ≤ N) : (upF N m).length = m := by
  unfold upF; rw [List.length_take, List.length_finRange]; omega
theorem upF_zero (N : Nat) : upF N 0 = [] := rfl
/-- Two blocks lie as they lay. -/
def KeepsTwo (p q : Nat) (W W' : World) : Prop := W'.heap[p]? = W.heap[p]? ∧ W'.heap[q]? = W.heap[q]?
theorem keepsTwo_t {p q : Nat} {A B C : World} (h : KeepsTwo p q A B) (k : KeepsTwo p q B C) : KeepsTwo p q A C := ⟨k.1.trans h.1, k.2.trans h.2⟩
theorem keepsTwo_refl (p q : Nat) (W : World) : KeepsTwo p q W W := ⟨rfl, rfl⟩
theorem keepsTwo_b {p q m : Nat} (hp : p < m) (hq : q < m) (W : World) (l : Nat) (o o' : Obj) (hl : m ≤ l) (_ : W.heap[l]? = some o) (_ : o.isCells = false) (_ : o.isWalk = false) : KeepsTwo p q W (W.putObj l o') :=
  ⟨World.putObj_heap_other (by omega), World.putObj_heap_other (by omega)⟩
theorem keepsTwo_below {p q m : Nat} {W W' : World} (hb : Below m W W') (hp : p < m) (hq : q < m) : KeepsTwo p q W W' := ⟨hb.block p hp, hb.block q hq⟩
/-- The part of block b that is run k. -/
def partEnc (b : Nat) (rs : List (UInt8 × Nat)) (k : Fin rs.length) : Array Value := #[.slice (some ⟨b, cntR (rs.take k), none⟩) rs[k].2 rs[k].2]

theorem runs_close {l : List UInt8} {k m q : Nat} {d : UInt8} {rs : List (UInt8 × Nat)} (hrs : rs = runsL l) (hm : m < rs.length) (h : runsL (l.take k) = rs.take m ++ [(d, q)])
    (hc : k = l.length ∨ ∃ h2 : k < l.length, l[k] ≠ d) : rs[m]? = some (d, q) ∧ (k = l.length → m + 1 = rs.length) ∧ (k < l.length → m + 1 < rs.length) := by
  rcases hc with hk | ⟨h2, hne⟩
  · have e : rs = rs.take m ++ [(d, q)] := by rw [← h, hrs, List.take_of_length_le (by omega)]
    have hl : rs.length = m + 1 := by
      have := congrArg List.length e
      rw [List.length_append, List.length_take, Nat.min_eq_left (Nat.le_of_lt hm)] at this
      simpa using this
    refine ⟨?_, fun _ => by omega, fun hx => by omega⟩
    rw [e, List.getElem?_append_right (by rw [List.length_take]; omega), List.length_take, Nat.min_eq_left (Nat.le_of_lt hm), Nat.sub_self]; rfl
  · have hp : (runsL (l.take (k + 1))).dropLast <+: runsL l := runs_prefix (List.take_prefix _ _)
    have e1 : runsL (l.take (k + 1)) = rs.take m ++ [(d, q)] ++ [(l[k], 1)] := by
      rw [List.take_succ_eq_append_getElem h2, runsL_snoc, h, stepRun_other _ _ _ _ (fun e => hne e.symm)]
    have h3 : rs.take m ++ [(d, q)] ++ [(l[k], 1)] <+: runsL (l.take (k + 1)) := by rw [e1]; exact List.prefix_refl _
    have hlen : (rs.take m).length = m := by rw [List.length_take]; omega
    have hge : m + 2 ≤ rs.length := by
      -- the runs of the whole are no fewer than those of a part
      have h4 : (runsL (l.take (k + 1))).length ≤ (runsL l).length := by
        obtain ⟨t, ht⟩ := List.take_prefix (k + 1) l
        have h5 := fold_prefix t (runsL (l.take (k + 1)))
        have h6 : t.foldl stepRun (runsL (l.take (k + 1))) = runsL l := by
          conv => rhs; rw [← ht]
          unfold runsL; rw [List.foldl_append]
        rw [h6] at h5
        have h7 := h5.1.length_le
        have h8 : (runsL (l.take (k + 1))) ≠ [] := by rw [e1]; simp
        have h9 : ¬ (runsL (l.take (k + 1))).dropLast.length = (runsL l).length := fun e => h8 (h5.2 e)
        have h10 : (runsL (l.take (k + 1))).dropLast.length = (runsL (l.take (k + 1))).length - 1 := by simp
        omega
      rw [e1] at h4
      rw [hrs]
      simp only [List.length_append, List.length_cons, List.length_nil] at h4
      omega
    rw [e1] at hp
    simp only [List.dropLast_concat] at hp
    refine ⟨?_, fun hx => by omega, fun _ => by omega⟩
    rw [hrs]
    obtain ⟨t, ht⟩ := hp
    rw [← ht, List.getElem?_append_left (by rw [List.length_append, hlen]; simp), List.getElem?_append_right (by omega), hlen, Nat.sub_self]; rfl

set_option maxRecDepth 100000 in
set_option maxHeartbeats 2000000 in
theorem runParts1_in (nn : Nat) (hnn : 1 ≤ nn) (l : List UInt8) (rs : List (UInt8 × Nat)) (hrs : rs = runsL l) (lp Bs b cap : Nat) (hl1 : 1 ≤ l.length) (hl : l.length ≤ 200000) (hcap : l.length ≤ cap) (hcm : cap ≤ maxLen) (J Jx : List (Fin rs.length) → World → Prop)
    (hY : ∀ pre x W, J pre W → pre.length < rs.length → YieldAt Fence.wide (nn - 1) Tryz.prog lp (partEnc b rs x) W fun e W' =>
      (e = .returned (.bool true) ∧ J (pre ++ [x]) W' ∧ KeepsTwo Bs b W W') ∨ (e = .returned (.bool false) ∧ Jx (pre ++ [x]) W'))
    (W : World) (hBs : W.cell? ⟨Bs, 0, none⟩ = some (.slice (some ⟨b, 0, none⟩) l.length cap)) (hc : ∀ i (h : i < l.length), W.cell? ⟨b, i, none⟩ = some (.int .u8 (l[i].toNat : Int))) (hJd : ∀ s W n, J s W → J s (W.drewN n)) (h0 : J [] W) :
    CallsIn Fence.wide nn Tryz.prog 89 #[.func (.yield lp) #[] #[], .pointer (some ⟨Bs, 0, none⟩)] W fun e W' => (∃ v, e = .returned v) ∧
      ((∃ ys, ys = upF rs.length rs.length ∧ J ys W') ∨ (∃ pre, (∃ k, k ≤ rs.length ∧ pre = upF rs.length k) ∧ Jx pre W')) := by
  unfold maxLen at hcm
  have HC := Lib.hid hc; clear hc
  have HBs := Lib.hid hBs; clear hBs
  obtain ⟨n, hn⟩ : ∃ n, n = l.length := ⟨_, rfl⟩
  have HN := Lib.hid hn; have HRS := Lib.hid hrs
  rw [← hn] at hl1 hl hcap
  clear hn hrs
  refine callsIn_wide.2 ?_
  go_enter Tryz.func89, Tryz.ntmps89
  go_wp2_with fail
  go_loopw [3, 4] (fun st en wr => ∃ k j m : Nat, en = .int .i64 k ∧ st = .int .i64 j ∧ Hid (KeepsTwo Bs b W wr) ∧ Hid (J (upF rs.length m) wr) ∧
      ((k ≤ n ∧ j < k ∧ m < rs.length ∧ ∃ d : UInt8, Hid (runsL (l.take k) = rs.take m ++ [(d, k - j)] ∧ cntR (rs.take m) = j ∧ l[j]? = some d)) ∨ (k = n + 1 ∧ m = rs.length)))
    (fun _ en _ => n + 1 - (intOf en).toNat)
  case atStart =>
    have h1 : 0 < l.length := by rw [← HN.out]; omega
    refine ⟨1, 0, 0, rfl, rfl, keepsTwo_refl _ _ _, h0, .inl ⟨hl1, by omega, ?_, l[0], ⟨?_, rfl, by simp [h1]⟩⟩⟩
    · have := runs_ne (l := l) (by intro e; rw [e] at h1; simp at h1)
      rw [← HRS.out] at this
      exact Nat.pos_of_ne_zero (fun e => this (List.eq_nil_of_length_eq_zero e))
    · have : l.take 1 = [l[0]] := by rw [List.take_succ_eq_append_getElem h1]; rfl
      rw [this]; rfl
  case round =>
    obtain ⟨k, j, m, rfl, rfl, HK, HJ, hrel | hrel⟩ := hrel
    · obtain ⟨hk, hj, hm, d, HP⟩ := hrel
      have hb1 : wr.cell? ⟨Bs, 0, none⟩ = some (.slice (some ⟨b, 0, none⟩) n cap) := (World.cell?_of_block (w := W) HK.out.1).trans (by rw [HN.out]; exact HBs.out)
      by_cases hend : k = n
      · subst hend
        have hd : decide ((k : Int) < (k : Int)) = false := by simp
        have hg := runs_close HRS.out hm HP.out.1 (.inl HN.out)
        have hr1 : rs[m] = (d, k - j) := by have := hg.1; rw [List.getElem?_eq_getElem hm] at this; exact Option.some.inj this
        have hm1 : m + 1 = rs.length := hg.2.1 HN.out
        have henc : partEnc b rs ⟨m, hm⟩ = #[.slice (some ⟨b, j, none⟩) (k - j) (k - j)] := by
          unfold partEnc; simp only [Fin.getElem_fin, hr1]; rw [HP.out.2.1]
        have HY := Lib.hid (fun n => hY (upF rs.length m) ⟨m, hm⟩ (wr.drewN n) (hJd _ _ n HJ.out) (by rw [upF_len (Nat.le_of_lt hm)]; exact hm))
        have HU := Lib.hid (upF_succ hm); have HE := Lib.hid henc; have HM1 := Lib.hid hm1
        clear hg hr1 henc hm1
        go_wp2_with fail
        go_quiet (fail)
        have hb2 : (wr.drewN nq).cell? ⟨Bs, 0, none⟩ = some (.slice (some ⟨b, 0, none⟩) k cap) := hb1
        have HK2 : Hid (KeepsTwo Bs b W (wr.drewN nq)) := HK.out
        obtain ⟨fn, tmps, assign, body, hy, hR⟩ := HY.out nq
        rw [HE.out] at hy
        generalize wr.drewN nq = wq at *
        clear hb1 HK HJ HY hd
        go_upto_region 5 with (fail)
        refine (wpIn_wide (n := nn)).1 ?_
        gi_wp2
        refine hR.mono ?_
        rintro e W3 (⟨rfl, hJ3, hk3⟩ | ⟨rfl, hJx3⟩)
        · have HJ3 := Lib.hid hJ3; have HK3 := Lib.hid hk3; clear hJ3 hk3 hR hy
          gi_wp2
          go_wp2_with fail
          go_roundw
          case rel => exact ⟨k + 1, k, m + 1, by go_num, rfl, keepsTwo_t HK2.out HK3.out, by have := HJ3.out; rw [← HU.out] at this; exact this, .inr ⟨rfl, HM1.out⟩⟩
          case measure => simp [intOf] <;> omega
        · have HJ3 := Lib.hid hJx3; clear hJx3 hR hy
          gi_wp2
          go_wp2_with fail
          refine bodyPost_ret (results_none rfl _ _ _) rfl ?_
          exact ⟨⟨_, rfl⟩, .inr ⟨_, ⟨m + 1, by omega, HU.out.symm⟩, HJ3.out⟩⟩
      · have hkn : k < n := by omega
        have hd : decide ((k : Int) < (n : Int)) = true := by simp; omega
        have hkl : k < l.length := by rw [← HN.out]; exact hkn
        have hjl : j < l.length := by rw [← HN.out]; omega
        have hck : wr.cell? ⟨b, k, none⟩ = some (.int .u8 (l[k].toNat : Int)) := (World.cell?_of_block (w := W) HK.out.2).trans (HC.out k hkl)
        have hcj : wr.cell? ⟨b, j, none⟩ = some (.int .u8 (l[j].toNat : Int)) := (World.cell?_of_block (w := W) HK.out.2).trans (HC.out j hjl)
        have hlj : d = l[j] := by have := HP.out.2.2; simp [hjl] at this; exact this.symm
        have HLJ := Lib.hid hlj; clear hlj
        have htk := Lib.hid (show runsL (l.take (k + 1)) = stepRun (runsL (l.take k)) l[k] by rw [List.take_succ_eq_append_getElem hkl, runsL_snoc])
        by_cases hs : l[k] = l[j]
        · have hsb : ((l[k].toNat : Int) == (l[j].toNat : Int)) = true := by rw [hs]; simp
          have HS := Lib.hid hs; clear hs
          go_wp2_with fail
          go_quiet (fail)
          go_wp2_with fail
          go_roundw
          case rel =>
            refine ⟨k + 1, j, m, by go_num, rfl, HK.out, hJd _ _ _ HJ.out, .inl ⟨by omega, by omega, hm, d, ?_, HP.out.2.1, HP.out.2.2⟩⟩
            rw [htk.out, HP.out.1, HS.out, ← HLJ.out, stepRun_same]
            congr 3; omega
          case measure => simp [intOf] <;> omega
        · have hsb : ((l[k].toNat : Int) == (l[j].toNat : Int)) = false := by
            simp; intro e; exact hs (UInt8.toNat_inj.1 (by omega))
          have hg := runs_close HRS.out hm HP.out.1 (.inr ⟨hkl, by rw [HLJ.out]; exact hs⟩)
          have hr1 : rs[m] = (d, k - j) := by have := hg.1; rw [List.getElem?_eq_getElem hm] at this; exact Option.some.inj this
          have hm1 : m + 1 < rs.length := hg.2.2 hkl
          have henc : partEnc b rs ⟨m, hm⟩ = #[.slice (some ⟨b, j, none⟩) (k - j) (k - j)] := by
            unfold partEnc; simp only [Fin.getElem_fin, hr1]; rw [HP.out.2.1]
          have hnext : Hid (runsL (l.take (k + 1)) = rs.take (m + 1) ++ [(l[k], k + 1 - k)] ∧ cntR (rs.take (m + 1)) = k) := by
            have e1 : rs.take (m + 1) = rs.take m ++ [(d, k - j)] := by rw [List.take_succ_eq_append_getElem hm, hr1]
            refine ⟨?_, ?_⟩
            · rw [htk.out, HP.out.1, stepRun_other _ _ _ _ (by rw [HLJ.out]; exact fun e => hs e.symm), e1]
              congr 3; omega
            · rw [e1, cntR_snoc, HP.out.2.1]; omega
          have HY := Lib.hid (fun n => hY (upF rs.length m) ⟨m, hm⟩ (wr.drewN n) (hJd _ _ n HJ.out) (by rw [upF_len (Nat.le_of_lt hm)]; exact hm))
          have HU := Lib.hid (upF_succ hm); have HE := Lib.hid henc
          have HS := Lib.hid hs; clear hs
          clear hg hr1 henc
          go_wp2_with fail
          go_quiet (fail)
          have hb2 : (wr.drewN nq).cell? ⟨Bs, 0, none⟩ = some (.slice (some ⟨b, 0, none⟩) n cap) := hb1
          have HK2 : Hid (KeepsTwo Bs b W (wr.drewN nq)) := HK.out
          obtain ⟨fn, tmps, assign, body, hy, hR⟩ := HY.out nq
          rw [HE.out] at hy
          generalize wr.drewN nq = wq at *
          clear hb1 HK HJ HY hd hck hcj hsb
          go_upto_region 5 with (fail)
          refine (wpIn_wide (n := nn)).1 ?_
          gi_wp2
          refine hR.mono ?_
          rintro e W3 (⟨rfl, hJ3, hk3⟩ | ⟨rfl, hJx3⟩)
          · have HJ3 := Lib.hid hJ3; have HK3 := Lib.hid hk3; clear hJ3 hk3 hR hy
            gi_wp2
            go_wp2_with fail
            go_roundw
            case rel => exact ⟨k + 1, k, m + 1, by go_num, rfl, keepsTwo_t HK2.out HK3.out, by have := HJ3.out; rw [← HU.out] at this; exact this, .inl ⟨by omega, by omega, hm1, l[k], hnext.out.1, hnext.out.2, by simp [hkl]⟩⟩
            case measure => simp [intOf] <;> omega
          · have HJ3 := Lib.hid hJx3; clear hJx3 hR hy
            gi_wp2
            go_wp2_with fail
            refine bodyPost_ret (results_none rfl _ _ _) rfl ?_
            exact ⟨⟨_, rfl⟩, .inr ⟨_, ⟨m + 1, by omega, HU.out.symm⟩, HJ3.out⟩⟩
    · obtain ⟨rfl, rfl⟩ := hrel
      have hb1 : wr.cell? ⟨Bs, 0, none⟩ = some (.slice (some ⟨b, 0, none⟩) n cap) := (World.cell?_of_block (w := W) HK.out.1).trans (by rw [HN.out]; exact HBs.out)
      go_wp2_with fail
      go_end0
      exact ⟨⟨_, rfl⟩, .inl ⟨_, rfl, HJ.out⟩⟩

theorem runParts_is (a : Option Addr) (len cap : Nat) (w : World) :
    Calls Tryz.prog 64 #[.slice a len cap] w fun e w' => e = .returned (.func (.func 89) #[] #[.pointer (some ⟨w.heap.size, 0, none⟩)]) ∧ w' = w.alloc (.cells #[.slice a len cap] 22) := by
  go_enter Tryz.func64, Tryz.ntmps64
  go_wp2
  go_ret
  exact ⟨rfl, rfl⟩

/-- What runParts hands back tells all runs, in order, or the first of them. -/
theorem runParts_stops (nn : Nat) (hnn : 1 ≤ nn) (l : List UInt8) (rs : List (UInt8 × Nat)) (hrs : rs = runsL l) (Bs b cap : Nat) (hl1 : 1 ≤ l.length) (hl : l.length ≤ 200000) (hcap : l.length ≤ cap) (hcm : cap ≤ maxLen) (w : World)
    (hB : Bs < w.heap.size) (hb : b < w.heap.size) (hBs : w.cell? ⟨Bs, 0, none⟩ = some (.slice (some ⟨b, 0, none⟩) l.length cap)) (hc : ∀ i (h : i < l.length), w.cell? ⟨b, i, none⟩ = some (.int .u8 (l[i].toNat : Int))) :
    SeqStopsK Fence.wide nn Tryz.prog 89 #[.pointer (some ⟨Bs, 0, none⟩)] (partEnc b rs) (KeepsTwo Bs b) (fun ys => ys = upF rs.length rs.length) (fun pre => ∃ k, k ≤ rs.length ∧ pre = upF rs.length k) rs.length w := fun lp J Jx W hW hJ _ hY h0 =>
  runParts1_in nn hnn l rs hrs lp Bs b cap hl1 hl hcap hcm J Jx hY W ((hW.cell (p := ⟨Bs, 0, none⟩) hB).trans hBs) (fun i h => (hW.cell (p := ⟨b, i, none⟩) hb).trans (hc i h))
    (fun s A n hs => hJ s A _ none hs ⟨rfl, rfl, rfl, Nat.le_refl _, fun _ _ _ => rfl⟩ (fun r e => by cases e)) h0
end Go.Proofs.YtkjmocdhhndlgaaGreatDoor

/- A region that draws its order, within a round of a loop over an iterator: carried out as everywhere. -/
namespace Go.Proofs.YtkjmocdhhndlgaaGreatDoor
open Go.RowKit Go.BigFrame Go.Shelf
set_option linter.unusedSimpArgs false
set_option linter.unusedVariables false
set_option maxRecDepth 4000

def noDefers (ops : Array Oper) : Bool := ops.all fun o => match o.op with | .defer _ => false | _ => true
theorem rows_round {lp n : Nat} {P : Program} {row : String} {args : Array Value} {w : World} {R : Value → World → Prop} (h : Rows P row args w R) : RowsIn (Fence.wide.inRound lp) n P row args w R :=
  fun c cs _ => let ⟨v, w', r, s⟩ := h c cs; ⟨v, w', r, stepsIn_wide.2 s⟩
theorem op_round {lp n : Nat} {P : Program} {o : Oper} {a : Act} {w : World} {K : Act → World → Prop} {Q : Exit → Act → World → Prop} (hd : ∀ c, o.op ≠ .defer c) (h : o.wp P a w K Q) : o.wpIn (Fence.wide.inRound lp) n P a w K Q := by
  refine ⟨fun f _ => trivial, ?_⟩
  rw [Oper.semAt_plain _ _ _ hd]
  unfold Oper.wp at h
  generalize (execOp a.eval o).run P w = r at *
  cases r with
  | ok x w' =>
    cases x <;> first | exact h | exact h.elim | skip
    · exact ⟨(fun hx => by cases hx), CallsIn.inRound lp (callsIn_wide.2 h)⟩
    · exact ⟨(fun hx => by cases hx), rows_round h⟩
  | halt hh w' => cases hh <;> first | exact h | exact h.elim
theorem any_round {lp n : Nat} {P : Program} {ops : Array Oper} {Q : Exit → Act → World → Prop} (hnd : noDefers ops = true) (hno : ¬ LetsOut Q) : ∀ (fuel : Nat) (listed : Array Bool) (a : Act) (w : World),
    wpAny P .any ops Q fuel listed a w → wpAnyIn (Fence.wide.inRound lp) n P .any ops Q fuel listed a w := by
  intro fuel
  induction fuel with
  | zero => intro listed a w h; exact h
  | succ fuel ih =>
    intro listed a w h
    refine ⟨h.1, fun i hi => ?_⟩
    have h2 := h.2 i hi
    unfold wpOp at h2
    unfold wpOpIn
    cases ho : ops[i]? with
    | none => rw [ho] at h2; exact ih _ _ _ h2
    | some o =>
      rw [ho] at h2
      simp only at h2 ⊢
      have hd : ∀ c, o.op ≠ .defer c := by
        intro c e
        obtain ⟨hi', he⟩ := Array.getElem?_eq_some_iff.1 ho
        unfold noDefers at hnd
        have := (Array.all_eq_true.1 hnd) i hi'
        rw [he, e] at this
        simp at this
      split
      · rename_i hw
        rw [if_pos hw] at h2
        rcases h2 with h2 | ⟨_, h2⟩
        · exact Oper.wpIn_mono (fun a w => ih _ a w) (op_round hd h2)
        · exact (hno h2).elim
      · rename_i hw
        rw [if_neg hw] at h2
        exact ⟨fun f _ => trivial, ih _ _ _ h2⟩
theorem region_round {lp n id : Nat} {ops : Array Oper} {Q : Exit → Act → World → Prop} {a : Act} {w : World} (hnd : noDefers ops = true) (hno : ¬ LetsOut Q)
    (h : wpAny Tryz.prog .any ops Q ops.size (Array.replicate ops.size false) a w.drew) : (Code.region id ops true).wpIn (Fence.wide.inRound lp) n Tryz.prog Q a w :=
  wpIn_region_any (by kernel_rfl) (any_round hnd hno _ _ _ _ h)
/-- The law on append as one step of a region that draws its order. -/
theorem step_app2 {P : Program} {w : World} {ops : Array Oper} {o : Oper} {a : Act} {K : Act → World → Prop} {Q : Exit → Act → World → Prop} {E : Prop} (hgd : o.guard = none) (s x : Operand) (t : TypeId)
    (ho : o.op = .call { callee := .builtin .append, args := #[s, x], argTypes := #[t, t] })
    (base : Nat) (e : TypeId) (i : TypeInfo) (z : Value) (bytes : Nat) (ht : P.underlying t = some (.slice e)) (hi : P.info? e = some i) (hz : i.zero = some z)
    (hsize : i.size = 1) (hby : i.bytes = bytes) (hzs : z.cells.size = 1)
    (v : Value) (n : Nat) (xs : List Value) (hs : a.eval s = v) (hown : w.ownsRow base e 1 v n xs)
    (ad : Addr) (m c : Nat) (news : List Value) (hx : a.eval x = .slice (some ad) m c) (hl : news.length = m) (hnews : ∀ j u, news[j]? = some u → w.cell? (ad.add j) = some u) (h1 : ∀ u ∈ news, u.oneCell' = true)
    (h63 : n + m ≤ maxLen) (hbytes : (n + m) * bytes ≤ 140737488355328) (hbase : base ≤ w.heap.size)
    (h : ∀ v' w', w'.ownsRow base e 1 v' (n + m) (xs ++ news) → w.grownBy w' v.ownBlock → (v'.ownBlock = v.ownBlock ∨ v'.ownBlock = some w.heap.size) → K (a.put o.dst v') w') :
    if Region.wanted o (yielded ops a.tmps) = true then Oper.wp P o a w K Q else E := by
  have hwt : Region.wanted o (yielded ops a.tmps) = true := by simp [Region.wanted, hgd]
  rw [if_pos hwt]
  obtain ⟨v', w', hr, h2, h3, h4⟩ := run_append_own (P := P) w base t o.type e i z 1 bytes ht hi hz hsize hby hzs (by decide) v n xs hown ad m c news (by omega) hnews h1 h63 hbytes hbase
  have hw := append_where w base t o.type e i z bytes ht hi hz hsize hby hzs v n xs hown ad m c news hl hnews h1 h63 hbytes v' w' hr
  unfold Oper.wp execOp
  simp only [ho, resolve, invoke, builtin, Sem.run_bind, Sem.run_pure, Result.andThen_ok, List.map_toArray, List.map_cons, List.map_nil, hs, hx, hr]
  exact h v' w' h2 h3 hw
/-- 'out = append(out, x)' with out in a box, within a region that has drawn: what the walk then owes. -/
theorem boxed_app {W w1 : World} {n₀ B : Nat} {t e : TypeId} {v v' : Value} {k m : Nat} {xs ys : List Value} {tmp : Obj}
    (hv : Boxed W B t v) (hte : t ≠ e) (hrow : W.ownsRow n₀ e 1 v k xs) (hn₀ : n₀ ≤ W.heap.size) (hB : n₀ ≤ B)
    (hown' : w1.ownsRow n₀ e 1 v' m ys) (hgrow : (W.alloc tmp).drew.grownBy w1 v.ownBlock) :
    Boxed w1 B t v ∧ Boxed (w1.setCell ⟨B, 0, none⟩ v') B t v' ∧ (w1.setCell ⟨B, 0, none⟩ v').ownsRow n₀ e 1 v' m ys ∧ KeepsOthers W (w1.setCell ⟨B, 0, none⟩ v') ∧ Below n₀ W (w1.setCell ⟨B, 0, none⟩ v') :=
  Boxed.appended (tmp := tmp) hv hte hrow hn₀ hB hown' ⟨hgrow.os, hgrow.tape, hgrow.output, hgrow.size, hgrow.block⟩
end Go.Proofs.YtkjmocdhhndlgaaGreatDoor

/- Runs of a word: the program's LongestRun, IsSpeakable. -/
namespace Go.Proofs.YtkjmocdhhndlgaaGreatDoor
open Go.RowKit Go.BigFrame Go.Shelf
set_option linter.unusedSimpArgs false
set_option linter.unusedVariables false
set_option maxRecDepth 4000
attribute [local go_sem] Oper.semAt_some

/-! ### Runs, spread out again -/
def flatR (rs : List (UInt8 × Nat)) : List UInt8 := rs.flatMap (fun p => List.replicate p.2 p.1)
theorem flatR_append (a b : List (UInt8 × Nat)) : flatR (a ++ b) = flatR a ++ flatR b := by simp [flatR]
theorem flatR_len (rs : List (UInt8 × Nat)) : (flatR rs).length = cntR rs := by
  induction rs with
  | nil => rfl
  | cons p r ih => simp only [flatR, cntR, List.flatMap_cons, List.length_append, List.length_replicate, List.map_cons, List.sum_cons] at *; omega
theorem flatR_step (acc : List (UInt8 × Nat)) (c : UInt8) : flatR (stepRun acc c) = flatR acc ++ [c] := by
  unfold stepRun
  split
  · rename_i d n h
    have hne : acc ≠ [] := by intro e; simp [e] at h
    have h2 : acc.getLast hne = (d, n) := by
      have := List.getLast?_eq_some_getLast hne
      rw [h] at this; exact (Option.some.inj this).symm
    split
    · rename_i hd
      subst hd
      conv => rhs; rw [← List.dropLast_concat_getLast hne, h2]
      rw [flatR_append, flatR_append]
      simp only [flatR, List.flatMap_cons, List.flatMap_nil, List.append_nil, List.append_assoc]
      rw [List.replicate_succ']
    · rw [flatR_append]; simp [flatR]
  · rename_i h
    have : acc = [] := by simpa using h
    subst this; simp [flatR]
theorem flatR_runs (l : List UInt8) : flatR (runsL l) = l := by
  induction h : l.length generalizing l with
  | zero => have : l = [] := List.eq_nil_of_length_eq_zero h; subst this; rfl
  | succ n ih =>
    have hne : l ≠ [] := by intro e; simp [e] at h
    have hd := List.dropLast_concat_getLast hne
    conv => lhs; rw [← hd, runsL_snoc, flatR_step, ih _ (by simp [h])]
    exact hd
theorem stepRun_pos (acc : List (UInt8 × Nat)) (c : UInt8) (h : ∀ p ∈ acc, 1 ≤ p.2) : ∀ p ∈ stepRun acc c, 1 ≤ p.2 := by
  unfold stepRun
  split
  · split
    · intro p hp
      rw [List.mem_append] at hp
      rcases hp with hp | hp
      · exact h p (List.dropLast_subset _ hp)
      · simp at hp; subst hp; simp
    · intro p hp
      rw [List.mem_append] at hp
      rcases hp with hp | hp
      · exact h p hp
      · simp at hp; subst hp; simp
  · intro p hp; simp at hp; subst hp; simp
theorem runs_pos (l : List UInt8) : ∀ p ∈ runsL l, 1 ≤ p.2 := by
  induction h : l.length generalizing l with
  | zero => intro p hp; have : l = [] := List.eq_nil_of_length_eq_zero h; subst this; simp [runsL] at hp
  | succ n ih =>
    have hne : l ≠ [] := by intro e; simp [e] at h
    have hd := List.dropLast_concat_getLast hne
    rw [← hd, runsL_snoc]
    exact stepRun_pos _ _ (ih l.dropLast (by simp [h]))
theorem flat_get (rs : List (UInt8 × Nat)) (k : Nat) (h : k < rs.length) (hp : 1 ≤ rs[k].2) : (flatR rs)[cntR (rs.take k)]? = some rs[k].1 := by
  have e : flatR rs = flatR (rs.take k) ++ flatR (rs.drop k) := by rw [← flatR_append, List.take_append_drop]
  rw [e, List.getElem?_append_right (by rw [flatR_len]; exact Nat.le_refl _), flatR_len, Nat.sub_self, List.drop_eq_getElem_cons h]
  obtain ⟨n, hn⟩ : ∃ n, rs[k].2 = n + 1 := ⟨rs[k].2 - 1, by omega⟩
  simp only [flatR, List.flatMap_cons, hn, List.replicate_succ, List.cons_append, List.getElem?_cons_zero]
theorem runs_get (l : List UInt8) (k : Nat) (h : k < (runsL l).length) : l[cntR ((runsL l).take k)]? = some (runsL l)[k].1 := by
  have := flat_get (runsL l) k h (runs_pos l _ (List.getElem_mem h))
  rw [flatR_runs] at this
  exact this

theorem digitOf_is (c : Int) (w : World) (h0 : 48 ≤ c) (h1 : c ≤ 255) :
    Calls Tryz.prog 74 #[.int .u8 c] w fun e w' => e = .returned (.int .i64 (c - 48)) ∧ w = w' := by
  go_enter Tryz.func74, Tryz.ntmps74
  go_wp2
  go_ret
  exact ⟨rfl, rfl⟩

/-- The runs that have come. -/
def gotR (rs : List (UInt8 × Nat)) (pre : List (Fin rs.length)) : List (UInt8 × Nat) := pre.map (fun k => rs[k])
theorem gotR_snoc (rs : List (UInt8 × Nat)) (pre : List (Fin rs.length)) (x : Fin rs.length) : gotR rs (pre ++ [x]) = gotR rs pre ++ [rs[x]] := by simp [gotR]
theorem gotR_all (rs : List (UInt8 × Nat)) : gotR rs (upF rs.length rs.length) = rs := by
  unfold gotR upF
  rw [List.take_of_length_le (by simp)]
  apply List.ext_getElem
  · simp
  · intro i h1 h2
    simp
theorem gotR_mem {rs : List (UInt8 × Nat)} {pre : List (Fin rs.length)} {p : UInt8 × Nat} (h : p ∈ gotR rs pre) : p ∈ rs := by
  unfold gotR at h
  obtain ⟨k, _, rfl⟩ := List.mem_map.1 h
  exact List.getElem_mem _
theorem ownFrom_block {β : Type} {B p : Nat} (f : β → Obj) (hp : p < B) : OwnFrom B (fun (s : β) W => W.heap[p]? = some (f s)) :=
  fun s W W' row hs hg hr => (hg.block p (Array.getElem?_eq_some_iff.1 hs).1 (fun e => by have := (hr p e.symm).1; omega)).trans hs

/-- How a function that loops over an iterator is left: plainly, or with the loop's mark among its deferred calls. -/
structure Leaves (fn : Func) (R : Ending → World → Prop) (Q : Exit → Act → World → Prop) : Prop where
  plain : ∀ a W v, a.defers = [] → (results fn a.tmps).run Tryz.prog W = .ok v W → R (.returned v) W → Q .ret a W
  marked : ∀ a W D v, a.defers = [{ target := .collected D, args := #[] }] → W.heap[D]? = some (.deferred (some [])) → (results fn a.tmps).run Tryz.prog (W.putObj D (.deferred none)) = .ok v (W.putObj D (.deferred none)) →
    R (.returned v) (W.putObj D (.deferred none)) → Q .ret a W
theorem calls_marks {f : FuncId} {fn : Func} {c : Code} {args : Array Value} {w : World} {R : Ending → World → Prop} (hf : Tryz.prog.funcs[f]? = some fn) (hb : fn.body = some c)
    (h : ∀ Q, Leaves fn R Q → c.wp Tryz.prog Q { tmps := args ++ Array.replicate (fn.ntmps - args.size) undef, defers := [] } w) : Calls Tryz.prog f args w R := by
  refine (callsIn_wide (n := 9)).1 (callsIn_of_wp_marks hf hb trivial (wpIn_wide.2 (h _ ⟨?_, ?_⟩)) rfl)
  · rintro ⟨tmps, ds⟩ W v hd hr hR
    simp only at hd; subst hd
    exact ⟨v, hr, hR⟩
  · rintro ⟨tmps, ds⟩ W D v hd hk hr hR
    simp only at hd; subst hd
    exact ⟨by simp, .inl ⟨_, _, rfl, run_takeDeferred hk, v, hr, hR⟩⟩
theorem below_mark {w W : World} {D : Nat} (h : Below w.heap.size w W) (hD : w.heap.size ≤ D) (hk : W.heap[D]? = some (.deferred (some []))) : Below w.heap.size w (W.putObj D (.deferred none)) :=
  h.trans (belowK_b (w := w) (Nat.le_refl _) W D _ _ hD hk rfl rfl)

/-- A loop over the runs whose body never leaves. -/
theorem wp_parts {Q : Exit → Act → World → Prop} {a : Act} {W0 : World} {g : Operand} {t : Tmp} {assign body : Code} (l : List UInt8) (rs : List (UInt8 × Nat)) (hrs : rs = runsL l) (Bs b cap : Nat)
    (hl1 : 1 ≤ l.length) (hl : l.length ≤ 200000) (hcap : l.length ≤ cap) (hcm : cap ≤ maxLen) (hB : Bs < W0.heap.size) (hb : b < W0.heap.size)
    (hBs : W0.cell? ⟨Bs, 0, none⟩ = some (.slice (some ⟨b, 0, none⟩) l.length cap)) (hc : ∀ i (h : i < l.length), W0.cell? ⟨b, i, none⟩ = some (.int .u8 (l[i].toNat : Int)))
    (hg : a.eval g = .func (.func 89) #[] #[.pointer (some ⟨Bs, 0, none⟩)])
    (I : List (UInt8 × Nat) → World → Prop) (hI : OwnFrom W0.heap.size I) (h0 : I [] W0) (a₁ : Fin rs.length → Act)
    (hassign : ∀ (lp : Nat) (x : Fin rs.length) (W : World) (K : Act → World → Prop), K (a₁ x) W →
      assign.wpIn (Fence.wide.inRound lp) 7 Tryz.prog (Exit.then K (fun _ _ _ => False)) { tmps := a.tmps.setIfInBounds t (.slice (some ⟨b, cntR (rs.take x), none⟩) rs[x].2 rs[x].2), defers := [] } W)
    (hbody : ∀ (lp : Nat) (pre : List (Fin rs.length)) (x : Fin rs.length) (W : World) (Q2 : Exit → Act → World → Prop), (¬ LetsOut Q2 ∧ ∀ c a w, ¬ Q2 (.panic c) a w) →
      (∀ a' W', KeepsFrom W0.heap.size W W' → KeepsTwo Bs b W W' → I (gotR rs pre ++ [rs[x]]) W' → Q2 .normal a' W') → I (gotR rs pre) W → pre.length < rs.length →
      body.wpIn (Fence.wide.inRound lp) 7 Tryz.prog Q2 (a₁ x) W)
    (hdone : ∀ (D : Nat) (W : World), W0.heap.size ≤ D → I rs W → W.heap[D]? = some (.deferred (some [])) → Q .normal { a with defers := { target := .collected D, args := #[] } :: a.defers } W) :
    (Code.rangeFunc g #[t] assign body).wp Tryz.prog Q a W0 := by
  refine (wpIn_wide (n := 9)).1 ?_
  refine wpIn_rangeFunc_ownG rfl (by omega) (gf := 89) (lb := #[.pointer (some ⟨Bs, 0, none⟩)]) hg trivial (enters_of Tryz.func89 (by kernel_rfl) rfl)
    (runParts_stops 8 (by omega) l rs hrs Bs b cap hl1 hl hcap hcm W0 hB hb hBs hc) keepsTwo_t (keepsTwo_b hB hb) (Below.refl _ _) (fun _ => rfl)
    (fun pre W => I (gotR rs pre) W) (fun _ _ _ => False) (fun s W W' row hs hg hr => hI _ W W' row hs hg hr) (fun _ _ _ _ _ hs _ _ => hs) h0 a₁ ?_ (fun lp pre x W hi hlt => hbody lp pre x W _ ⟨fun ⟨a, w, h⟩ => h, fun c a w h => h⟩ (fun a' W' k1 k2 k3 => ⟨k1, k2, by show I (gotR rs (pre ++ [x])) W'; rw [gotR_snoc]; exact k3⟩) hi hlt) ?_ ?_
  · intro lp x W K hK
    have h := hassign lp x W K hK
    unfold partEnc
    simpa using h
  · rintro D ys W hD rfl hi hK
    rw [gotR_all] at hi
    exact hdone D W hD hi hK
  · rintro D c pre W _ _ h _
    exact h.elim

set_option maxRecDepth 100000 in
set_option maxHeartbeats 400000 in
theorem implLongestRun_any (s : ByteArray) (w : World) (hs : s.size ≤ maxLen) :
    Calls Tryz.prog 31 #[.string s] w fun e w' => e = .returned (.tuple #[.int .i64 (if goodL s.data.toList = true then (longL s.data.toList : Int) else 0), .bool (goodL s.data.toList)]) ∧ Below w.heap.size w w' := by
  cases hg : goodL s.data.toList with
  | false =>
    have HG := Lib.hid hg; clear hg
    go_enter Tryz.func31, Tryz.ntmps31
    go_wp2_with fail
    refine (implIsWord_any s w hs).mono ?_
    rintro e w1 ⟨rfl, rfl⟩
    rw [HG.out]
    go_wp2
    go_ret2
    exact ⟨rfl, Below.refl _ _⟩
  | true =>
    obtain ⟨h1, h2, h3⟩ := goodL_parts hg
    have HG := Lib.hid hg; clear hg
    refine calls_marks Tryz.func31 rfl fun Q hQ => ?_
    simp only [Tryz.ntmps31, List.size_toArray, List.length_cons, List.length_nil, Nat.reduceAdd, Nat.reduceSub, Array.replicate_succ, Array.replicate_zero, List.push_toArray, List.append_toArray, List.nil_append, List.cons_append]
    go_wp2_with fail
    refine (implIsWord_any s w hs).mono ?_
    rintro e w1 ⟨rfl, rfl⟩
    rw [HG.out]
    go_wp2_with (refine wpList_bytes _ rfl 9 22 _ rfl 5 Tryz.underlying9 Tryz.underlying22 Tryz.underlying5 s rfl hs ?_; intro w1 cap hb hsz hcap hcm hcell hfr)
    have HC := Lib.hid hcell; have HB := Lib.hid hb
    clear hcell hfr hb
    go_wp2_with fail
    refine (runParts_is _ _ _ _).mono ?_
    rintro e w2 ⟨rfl, hw2⟩
    have HW2 := Lib.hid hw2; clear hw2
    have hz : s.size = s.data.toList.length := by simp
    obtain ⟨rs, hrs⟩ : ∃ rs, rs = runsL s.data.toList := ⟨_, rfl⟩
    have hlong : longL s.data.toList = longR rs := by rw [hrs]; rfl
    have hbd : ∀ p ∈ rs, p.2 ≤ 400 := by
      subst hrs; intro p hp
      obtain ⟨k, hk, rfl⟩ := List.getElem_of_mem hp
      exact Nat.le_trans (runs_cnt hk) (by simpa using h2)
    have hvar : w1.heap[w.heap.size]? = some (.cells #[.int .i64 0] 3 (0, 0)) := (HB.out.block w.heap.size (by simp)).trans (Go.Deep.blk_alloc_new _ _)
    have hsz' : w.heap.size + 1 < w1.heap.size := by simpa using hsz
    have hB1 : Below w.heap.size w w1 := (below_alloc w _).trans (HB.out.mono (by simp))
    have hcell : ∀ i (h : i < s.data.toList.length), w2.cell? ⟨w.heap.size + 1, i, none⟩ = some (.int .u8 (s.data.toList[i].toNat : Int)) := by
      intro i h
      have := HC.out i (by rw [hz]; exact h)
      rw [Go.Deep.nblk_alloc] at this
      rw [HW2.out]
      exact ((below_alloc w1 _).cell (p := ⟨w.heap.size + 1, i, none⟩) (by exact hsz')).trans this
    have hvar2 : w2.heap[w.heap.size]? = some (.cells #[.int .i64 0] 3 (0, 0)) := by rw [HW2.out]; exact ((below_alloc w1 _).block w.heap.size (by omega)).trans hvar
    have hbox2 : w2.cell? ⟨w1.heap.size, 0, none⟩ = some (.slice (some ⟨w.heap.size + 1, 0, none⟩) s.size cap) := by rw [HW2.out]; simp [go_sem]
    have hB2 : Below w.heap.size w w2 := by rw [HW2.out]; exact hB1.trans ((below_alloc w1 _).mono hB1.size)
    have hs2 : w2.heap.size = w1.heap.size + 1 := by rw [HW2.out]; simp
    have HL := Lib.hid hlong; have HBD := Lib.hid hbd; have HV := Lib.hid hvar2; have HX := Lib.hid hbox2; have HB2 := Lib.hid hB2; have HCE := Lib.hid hcell; have HS2 := Lib.hid hs2
    have HZ := Lib.hid hz; have HRS := Lib.hid hrs
    clear hlong hbd hvar hvar2 hbox2 hB2 hB1 hcell hs2 HW2 HB HC hz hrs
    go_wp2_with fail
    have hz := HZ.out
    refine wp_parts s.data.toList rs HRS.out w1.heap.size (w.heap.size + 1) cap (by rw [← hz]; exact h1) (by rw [← hz]; omega) (by rw [← hz]; exact hcap) hcm (by rw [HS2.out]; omega) (by rw [HS2.out]; omega) (by rw [← hz]; exact HX.out) HCE.out rfl
      (fun got W => W.heap[w.heap.size]? = some (.cells #[.int .i64 (longR got)] 3 (0, 0)) ∧ Below w.heap.size w W ∧ (∀ p ∈ got, p ∈ rs))
      (OwnFrom.and (ownFrom_block _ (by rw [HS2.out]; omega)) (OwnFrom.and (ownFrom_below (Nat.le_refl _) (by rw [HS2.out]; omega)) (fun _ _ _ _ h _ _ => h)))
      ⟨HV.out, HB2.out, fun p h => by simp at h⟩
      (fun x => { tmps := #[.string s, undef, .int .i64 0, .bool false, .pointer (some ⟨w.heap.size, 0, none⟩), .slice (some ⟨w.heap.size + 1, cntR (rs.take x), none⟩) rs[x].2 rs[x].2, .string s, .bool true, .bool false, .string s, .slice (some ⟨w.heap.size + 1, 0, none⟩) s.size cap, .func (.func 89) #[] #[.pointer (some ⟨w1.heap.size, 0, none⟩)], .slice (some ⟨w.heap.size + 1, cntR (rs.take x), none⟩) rs[x].2 rs[x].2, undef, undef, undef, undef, undef], defers := [] }) ?assign ?body ?done
    case assign =>
      intro lp x W K hK
      simp only [List.setIfInBounds_toArray, List.set_cons_succ, List.set_cons_zero]
      gi_wp2
      exact hK
    case body =>
      rintro lp pre x W Q2 hno hQ2 ⟨hv, hbw, hmem⟩ hlt
      have hq4 : rs[x].2 ≤ 400 := HBD.out _ (List.getElem_mem _)
      have hm4 : longR (gotR rs pre) ≤ 400 := longR_le_of (fun p hp => HBD.out p (gotR_mem hp))
      have HM := Lib.hid (longR_snoc (gotR rs pre) rs[x]); have HMEM := Lib.hid hmem; have HBW := Lib.hid hbw; have HV := Lib.hid hv
      have hc0 : W.cell? ⟨w.heap.size, 0, none⟩ = some (.int .i64 (longR (gotR rs pre))) := by simp [World.cell?, hv]
      have hf0 : W.frozen? ⟨w.heap.size, 0, none⟩ = false := by simp [World.frozen?, hv]
      have HIN := Lib.hid (show ∀ p ∈ gotR rs pre ++ [rs[x]], p ∈ rs from fun p hp => by
        rw [List.mem_append] at hp
        rcases hp with hp | hp
        · exact hmem p hp
        · simp at hp; subst hp; exact List.getElem_mem _)
      clear hmem hbw hv
      generalize longR (gotR rs pre) = mx at *
      generalize longR (gotR rs pre ++ [rs[x]]) = my at *
      generalize rs[x].2 = q at *
      have hne1 : w1.heap.size ≠ w.heap.size := by omega
      by_cases hgt : mx < q
      all_goals
        gi_wp2_with fail
        (try simp only [Exit.inBlock, Exit.then])
        refine hQ2 _ _ ((KeepsOthers.setCell _ _ _).from _) ⟨Below.heap_setCell _ _ _ _ hne1, Below.heap_setCell _ _ _ _ (by simp)⟩ ⟨?_, HBW.out.setCell (p := ⟨w.heap.size, 0, none⟩) (Nat.le_refl _) _, HIN.out⟩
        have := Boxed.set (.int .i64 (my : Int)) HV.out
        unfold Boxed at this
        first
          | (rw [show my = q by rw [HM.out]; omega] at this ⊢; exact this)
          | (rw [show my = mx by rw [HM.out]; omega] at this ⊢; exact this)
    case done =>
      rintro D W hD ⟨hv, hbw, _⟩ hK
      have HBW := Lib.hid hbw; have HL2 := Lib.hid hK
      have hc0 : W.cell? ⟨w.heap.size, 0, none⟩ = some (.int .i64 (longR rs)) := by simp [World.cell?, hv]
      clear hv hbw hK
      go_wp2_with fail
      (try simp only [Exit.inBlock, Exit.then])
      have hD2 : w.heap.size ≤ D := by have := HS2.out; omega
      refine hQ.marked _ _ D _ rfl HL2.out (results_tmp2 rfl _ _ _) ⟨?_, below_mark HBW.out hD2 HL2.out⟩
      rw [HL.out]; rfl

/-- A bool and a row of rows, or nil and false. -/
def RowsOk (l : List UInt8) (w w' : World) (e : Ending) : Prop :=
  ∃ v vs, e = .returned (.tuple #[v, .bool (goodL l)]) ∧ OwnsRR w' w.heap.size 46 3 v vs (if goodL l = true then rowsL l else []) ∧ Below w.heap.size w w'

end Go.Proofs.YtkjmocdhhndlgaaGreatDoor

/- What is said of a word: the program's sayText, asWord, SayWord. -/
namespace Go.Proofs.YtkjmocdhhndlgaaGreatDoor
open Go.RowKit Go.BigFrame Go.Shelf
set_option linter.unusedSimpArgs false
set_option linter.unusedVariables false
set_option maxRecDepth 4000
attribute [local go_sem] Oper.semAt_some

theorem info_byte : (Tryz.prog.info? 5).map (fun i => (i.zero, i.size, i.bytes)) = some (some (.int .u8 0), 1, 1) := by kernel_rfl

/-- A captured variable, and the row of bytes that its value owns; nothing below B is touched but these. -/
structure Kept (w w' : World) (c : Nat) (old : Option Nat) : Prop where
  os : w'.os = w.os
  tape : w'.tape = w.tape
  output : w'.output = w.output
  size : w.heap.size ≤ w'.heap.size
  block : ∀ k, k < w.heap.size → k ≠ c → some k ≠ old → w'.heap[k]? = w.heap[k]?
theorem Kept.below {w w' : World} {c : Nat} {old : Option Nat} (h : Kept w w' c old) {B : Nat} (hB : B ≤ c) (hs : B ≤ w.heap.size) (ho : ∀ g, old = some g → B ≤ g) : Below B w w' :=
  ⟨h.os, h.tape, h.output, h.size, fun k hk => h.block k (by omega) (by omega) (fun e => by have := ho k e.symm; omega)⟩

theorem Kept.cell {w w' : World} {c : Nat} {old : Option Nat} (h : Kept w w' c old) {p : Addr} {u : Value} (hp : w.cell? p = some u) (hc : p.block ≠ c) (ho : old ≠ some p.block) : w'.cell? p = some u :=
  (World.cell?_of_block (w := w) (h.block p.block (World.block_lt_of_cell? w p hp) hc (fun e => ho e.symm))).trans hp
theorem Kept.trans {w w1 w2 : World} {c : Nat} {o o1 : Option Nat} (h : Kept w w1 c o) (k : Kept w1 w2 c o1) (ho : o1 = o ∨ ∃ g, o1 = some g ∧ w.heap.size ≤ g) : Kept w w2 c o :=
  ⟨k.os.trans h.os, k.tape.trans h.tape, k.output.trans h.output, Nat.le_trans h.size k.size, fun i hi h1 h2 => by
    refine (k.block i (Nat.lt_of_lt_of_le hi h.size) h1 ?_).trans (h.block i hi h1 h2)
    rcases ho with rfl | ⟨g, rfl, hg⟩
    · exact h2
    · intro e; cases e; omega⟩
/-- A row's block is not that of a variable of another type. -/
theorem own_ne_var {w : World} {B : Nat} {E T : TypeId} {v : Value} {n c : Nat} {xs : List Value} {cs : Array Value} {f : Nat × Nat} (h : w.ownsRow B E 1 v n xs) (hc : w.heap[c]? = some (.cells cs T f)) (hTE : T ≠ E) : v.ownBlock ≠ some c := by
  intro e
  rcases h.2 with ⟨rfl, _⟩ | ⟨g1, _, c1, rfl, _, e1, _⟩
  · cases e
  · cases e
    rw [e1] at hc
    simp only [Option.some.injEq, Obj.cells.injEq] at hc
    exact hTE hc.2.1.symm
/-- An append to a captured variable. -/
theorem step_join {w w1 : World} {B c n : Nat} {v v1 u : Value} {xs : List Value} (hc : w.heap[c]? = some (.cells #[v] 22 (0, 0))) (hv : w.ownsRow B 5 1 v n xs)
    (h1 : w1.ownsRow B 5 1 v1 (n + 1) (xs ++ [u])) (hg : w.grownBy w1 v.ownBlock) :
    (w1.setCell ⟨c, 0, none⟩ v1).heap[c]? = some (.cells #[v1] 22 (0, 0)) ∧ (w1.setCell ⟨c, 0, none⟩ v1).ownsRow B 5 1 v1 (n + 1) (xs ++ [u]) ∧ Kept w (w1.setCell ⟨c, 0, none⟩ v1) c v.ownBlock ∧
      w1.cell? ⟨c, 0, none⟩ = some v ∧ w1.frozen? ⟨c, 0, none⟩ = false := by
  have hlt : c < w.heap.size := (Array.getElem?_eq_some_iff.1 hc).1
  have hne := own_ne_var hv hc (by decide)
  have hc1 : w1.heap[c]? = some (.cells #[v] 22 (0, 0)) := (hg.block c hlt (fun e => hne e.symm)).trans hc
  have hne1 := own_ne_var h1 hc1 (by decide)
  refine ⟨?_, ?_, ⟨hg.os, hg.tape, hg.output, by rw [show (w1.setCell ⟨c, 0, none⟩ v1).heap.size = w1.heap.size from Go.Deep.nblk_setCell _ _ _]; exact hg.size, fun k hk h2 h3 => ?_⟩, by simp [World.cell?, hc1], by simp [World.frozen?, hc1]⟩
  · have := heap_setCell_same w1 c 0 #[v] 22 v1 hc1
    simpa using this
  · exact own_block h1 (fun g hg' => Below.heap_setCell _ _ _ _ (fun e => hne1 (by rw [hg']; exact congrArg some e)))
  · rw [Below.heap_setCell _ _ _ _ h2]
    exact hg.block k hk h3

theorem signOf_is (n : Int) (w : World) (h0 : 0 ≤ n) (h1 : n ≤ 200) :
    Calls Tryz.prog 63 #[.int .i64 n] w fun e w' => e = .returned (.int .u8 (48 + n)) ∧ w = w' := by
  go_enter Tryz.func63, Tryz.ntmps63
  go_wp2
  go_ret
  exact ⟨rfl, rfl⟩

theorem le_longR (rs : List (UInt8 × Nat)) (p : UInt8 × Nat) (h : p ∈ rs) : p.2 ≤ longR rs := by
  induction h2 : rs.length generalizing rs with
  | zero => have : rs = [] := List.eq_nil_of_length_eq_zero h2; subst this; simp at h
  | succ n ih =>
    have hne : rs ≠ [] := by intro e; simp [e] at h
    have hd := List.dropLast_concat_getLast hne
    rw [← hd, longR_snoc]
    rw [← hd, List.mem_append] at h
    rcases h with h | h
    · have := ih rs.dropLast h (by simp [h2]); omega
    · simp at h; subst h; omega
def u8s (l : List UInt8) : List Value := l.map (fun c => .int .u8 (c.toNat : Int))
theorem u8s_len (l : List UInt8) : (u8s l).length = l.length := by simp [u8s]
/-- 'string(b)' of a row of bytes that is owned. -/
theorem conv_own {w : World} {B : Nat} {v : Value} {l : List UInt8} (h : w.ownsRow B 5 1 v l.length (u8s l)) : (convert 22 9 v).run Tryz.prog w = .ok (.string (bs l)) w := by
  rcases own_open h with ⟨rfl, h0, _⟩ | ⟨g, cap, rfl, _, _, _, _, _, hc, _⟩
  · have : l = [] := List.eq_nil_of_length_eq_zero h0
    subst this
    exact run_convert_bytes_nil (P := Tryz.prog) w 22 5 Tryz.underlying22 Tryz.underlying5 0 0 9 Tryz.underlying9
  · have := run_convert_bytes_arg (P := Tryz.prog) w 22 5 Tryz.underlying22 Tryz.underlying5 g 0 l.length cap (l.map (fun c => (c.toNat : Int))) (by simp) (fun i hi => by
      rw [Nat.zero_add, hc i (by rw [u8s_len]; exact hi)]
      simp [u8s, List.getD, hi]) 9 Tryz.underlying9
    rw [this]
    congr 2
    apply bs_eq
    rw [strOfNums_data, List.map_map]
    conv => rhs; rw [← List.map_id l]
    apply List.map_congr_left
    intro c _
    simp
/-- What the loop over the runs keeps. -/
structure SayInv (w W0 : World) (c : Nat) (l : List UInt8) (wr : World) (v : Value) : Prop where
  var : wr.heap[c]? = some (.cells #[v] 22 (0, 0))
  own : wr.ownsRow w.heap.size 5 1 v l.length (u8s l)
  below : Below w.heap.size w wr
  size : W0.heap.size ≤ wr.heap.size
  loc : v.ownBlock = some w.heap.size ∨ ∃ q, v.ownBlock = some q ∧ W0.heap.size ≤ q
  keep : ∀ k, k < W0.heap.size → k ≠ c → k ≠ w.heap.size → wr.heap[k]? = W0.heap[k]?
theorem own_cells {w : World} {B : Nat} {E : TypeId} {v : Value} {n : Nat} {xs : List Value} (h : w.ownsRow B E 1 v n xs) {g : Nat} (hg : v.ownBlock = some g) : ∃ cs f, w.heap[g]? = some (.cells cs E f) := by
  rcases h.2 with ⟨rfl, _⟩ | ⟨g1, _, c1, rfl, _, e1, _⟩
  · cases hg
  · cases hg; exact ⟨_, _, e1⟩
theorem sayInv_own {β : Type} (w W0 : World) (c : Nat) (f : β → List UInt8) (hc : c < W0.heap.size) (hw : w.heap.size ≤ W0.heap.size) : OwnFrom W0.heap.size (fun (s : β) W => ∃ v, SayInv w W0 c (f s) W v) := by
  rintro s X Y row ⟨v, hv⟩ hg hr
  refine ⟨v, (hg.block c (Array.getElem?_eq_some_iff.1 hv.var).1 (fun e => by have := (hr c e.symm).1; omega)).trans hv.var, own_block hv.own (fun g hgo => ?_), hv.below.grown hg hv.below.size (fun k e => by have := (hr k e).1; omega), Nat.le_trans hv.size hg.size, hv.loc, fun k hk h1 h2 => ?_⟩
  · obtain ⟨cs, fz, hcs⟩ := own_cells hv.own hgo
    refine hg.block g (Array.getElem?_eq_some_iff.1 hcs).1 (fun e => ?_)
    obtain ⟨o, ho, hco⟩ := (hr g e.symm).2
    rw [hcs] at ho; cases ho; cases hco
  · exact (hg.block k (Nat.lt_of_lt_of_le hk hv.size) (fun e => by have := (hr k e.symm).1; omega)).trans (hv.keep k hk h1 h2)
theorem mixed : Tryz.prog.follows .mixedOrders = true := by kernel_rfl
theorem sayB_speak {l : List UInt8} (h : speakL l = true) : sayB l = true := by
  unfold speakL goodL at h
  simp only [Bool.and_eq_true, decide_eq_true_eq] at h
  refine sayB_iff.2 ⟨?_, h.1.2, h.2⟩
  intro e; rw [e] at h; simp at h

end Go.Proofs.YtkjmocdhhndlgaaGreatDoor

/- The program's SayWord, LengthSaid, IsStill, SumOfWord, and the model's. -/
namespace Go.Proofs.YtkjmocdhhndlgaaGreatDoor
open Go.RowKit Go.BigFrame
set_option linter.unusedSimpArgs false
set_option linter.unusedVariables false
set_option maxRecDepth 4000

theorem asWord_any (l : List UInt8) (w : World) (hl : l.length ≤ 1000000) :
    Calls Tryz.prog 105 #[.string (bs l)] w fun e w' => e = .returned (strOk (if goodL l = true then some l else none)) ∧ Below w.heap.size w w' := by
  have hs : (bs l).size ≤ maxLen := by rw [bs_size]; unfold maxLen; omega
  have hcon := fun (W : World) => implIsWord_any (bs l) W hs
  rw [bs_list] at hcon
  have HC := Lib.hid hcon; clear hcon
  cases hg : goodL l with
  | false =>
    rw [hg] at HC; have HG := Lib.hid hg; clear hg
    go_enter Tryz.func105, Tryz.ntmps105
    go_wp2_with fail
    refine (HC.out w).mono ?_
    rintro e w1 ⟨rfl, rfl⟩
    go_wp2_with fail
    go_ret2
    exact ⟨rfl, Below.refl _ _⟩
  | true =>
    rw [hg] at HC; have HG := Lib.hid hg; clear hg
    go_enter Tryz.func105, Tryz.ntmps105
    go_wp2_with fail
    refine (HC.out w).mono ?_
    rintro e w1 ⟨rfl, rfl⟩
    go_wp2_with fail
    go_ret2
    exact ⟨rfl, Below.refl _ _⟩

theorem say_len {l : List UInt8} (h : goodL l = true) : (sayL l).length ≤ 16000 := by
  have h2 : l.length ≤ 400 := by unfold goodL at h; simp at h; omega
  refine Nat.le_trans (sayR_len _ (fun p hp => ?_)) (by have := runsL_len l; omega)
  exact Nat.le_trans (le_sum_of_mem _ p hp) (by rw [runsL_sum]; exact h2)
theorem speak_good {l : List UInt8} (h : speakL l = true) : goodL l = true := by unfold speakL at h; simp at h; exact h.1

theorem saidO_len {l m : List UInt8} (h : saidO l = some m) : 1 ≤ m.length ∧ m.length ≤ 400 := by
  unfold saidO at h
  split at h
  · rename_i hh
    simp at h; subst h
    have := hh.2; unfold goodL at this; simp at this; omega
  · cases h
end Go.Proofs.YtkjmocdhhndlgaaGreatDoor

/- LengthSaid, IsStill, SumOfWord, LongestRun: the model's and the program's. -/
namespace Go.Proofs.YtkjmocdhhndlgaaGreatDoor
open Go.RowKit Go.BigFrame Go.Shelf
set_option linter.unusedSimpArgs false
set_option linter.unusedVariables false
set_option maxRecDepth 4000
attribute [local go_sem] Oper.semAt_some

/-- A number and a bool, or 0 and false. -/
def intOk (b : Bool) (n : Int) : Value := .tuple #[.int .i64 (if b = true then n else 0), .bool b]
def lenSaid (l : List UInt8) : Int := 2 * ((runsL l).length : Int)
end Go.Proofs.YtkjmocdhhndlgaaGreatDoor

/- The laws' own helpers on rows of numbers: equal rows are found equal; marks are laid and found again. -/
namespace Go.Proofs.YtkjmocdhhndlgaaGreatDoor
open Go.RowKit Go.BigFrame
set_option linter.unusedSimpArgs false
set_option linter.unusedVariables false
set_option maxRecDepth 4000

abbrev iv (n : Int) : Value := .int .i64 n
/-- A slice value owns a row of numbers. -/
def Ints (w : World) (B : Nat) (v : Value) (xs : List Int) : Prop := w.ownsRow B 3 1 v xs.length (xs.map (.int .i64))
theorem ints_open {w : World} {B : Nat} {v : Value} {xs : List Int} (h : Ints w B v xs) : (v = .slice none 0 0 ∧ xs = []) ∨
    ∃ g cap, v = .slice (some ⟨g, 0, none⟩) xs.length cap ∧ B ≤ g ∧ g < w.heap.size ∧ xs.length ≤ 9223372036854775807 ∧ cap ≤ 9223372036854775807 ∧
      (∀ i (hi : i < xs.length), w.cell? ⟨g, i, none⟩ = some (.int .i64 xs[i])) ∧ (∀ i, w.frozen? ⟨g, i, none⟩ = false) := by
  rcases own_open h with ⟨rfl, h2, h3⟩ | ⟨g, cap, rfl, h1, h2, h3, h4, _, h5, h6⟩
  · exact .inl ⟨rfl, List.eq_nil_of_length_eq_zero h2⟩
  · unfold maxLen at h4
    exact .inr ⟨g, cap, rfl, h1, h2, by omega, by omega, fun i hi => by have := h5 i (by simpa using hi); simpa using this, h6⟩

/-- Rows of numbers. -/
def IntsRR (w : World) (B : Nat) (v : Value) (vs : List Value) (nss : List (List Int)) : Prop := OwnsRR w B 46 3 v vs (nss.map (·.map (.int .i64)))
theorem intsRR_row {w : World} {B : Nat} {v : Value} {vs : List Value} {nss : List (List Int)} (h : IntsRR w B v vs nss) (k : Nat) (hk : k < nss.length) : ∃ u, vs[k]? = some u ∧ Ints w B u nss[k] := by
  obtain ⟨u, xs, e1, e2, e3⟩ := ownsRR_row h k (by rw [← h.len]; simpa using hk)
  refine ⟨u, e1, ?_⟩
  rw [List.getElem?_map, List.getElem?_eq_getElem hk] at e2
  simp at e2
  subst e2
  unfold Ints
  simpa using e3
theorem intsRR_open {w : World} {B : Nat} {v : Value} {vs : List Value} {nss : List (List Int)} (h : IntsRR w B v vs nss) : (v = .slice none 0 0 ∧ nss = []) ∨
    ∃ g cap, v = .slice (some ⟨g, 0, none⟩) nss.length cap ∧ nss.length ≤ 9223372036854775807 ∧ cap ≤ 9223372036854775807 ∧ g < w.heap.size ∧ B ≤ g ∧
      (∀ k (hk : k < nss.length), ∃ u, vs[k]? = some u ∧ Ints w B u nss[k] ∧ w.cell? ⟨g, k, none⟩ = some u) := by
  rcases ownsRR_open h with ⟨h1, h2, h3⟩ | ⟨g, cap, h1, h2, h3, h4, h5, h6⟩
  · exact .inl ⟨h1, by simpa using h3⟩
  · unfold maxLen at h3
    refine .inr ⟨g, cap, by simpa using h1, by simp at h2; omega, by omega, h5, h4, fun k hk => ?_⟩
    obtain ⟨u, e1, e2⟩ := intsRR_row h k hk
    exact ⟨u, e1, e2, h6 k (by simpa using hk) u e1⟩

end Go.Proofs.YtkjmocdhhndlgaaGreatDoor

/- Low words: their lengths, what is derived from them, how often (pure). -/
namespace Go.Proofs.YtkjmocdhhndlgaaGreatDoor
set_option linter.unusedSimpArgs false
set_option linter.unusedVariables false

def onB (c : UInt8) : Bool := c == 49 || c == 50
def lowB (l : List UInt8) : Bool := decide (l.length ≤ 60) && l.all onB
/-- The digits of the lengths of runs. -/
def lensR (rs : List (UInt8 × Nat)) : List UInt8 := rs.map fun p => nDig p.2
def lensL (l : List UInt8) : List UInt8 := lensR (runsL l)
def cutF (x : List UInt8) : List UInt8 := if x.head? = some 49 then x.tail else x
def cutB (x : List UInt8) : List UInt8 := if x.getLast? = some 49 then x.dropLast else x
def cutL (x : List UInt8) : List UInt8 := cutB (cutF x)
def derL (l : List UInt8) : Option (List UInt8) := if longL l ≤ 2 then some (cutL (lensL l)) else none

theorem onB_digB {l : List UInt8} (h : l.all onB = true) : l.all digB = true := by
  rw [List.all_eq_true] at h ⊢
  intro c hc
  have := h c hc
  unfold onB at this
  simp only [Bool.or_eq_true, beq_iff_eq] at this
  rcases this with rfl | rfl <;> rfl
theorem cutF_sub (x : List UInt8) : cutF x = x ∨ cutF x = x.tail := by unfold cutF; split <;> simp
theorem cutB_sub (x : List UInt8) : cutB x = x ∨ cutB x = x.dropLast := by unfold cutB; split <;> simp
theorem cutF_len (x : List UInt8) : (cutF x).length ≤ x.length := by rcases cutF_sub x with h | h <;> rw [h] <;> simp
theorem cutB_len (x : List UInt8) : (cutB x).length ≤ x.length := by rcases cutB_sub x with h | h <;> rw [h] <;> simp
theorem cutF_mem {x : List UInt8} {c : UInt8} (h : c ∈ cutF x) : c ∈ x := by
  rcases cutF_sub x with e | e <;> rw [e] at h
  · exact h
  · exact List.mem_of_mem_tail h
theorem cutB_mem {x : List UInt8} {c : UInt8} (h : c ∈ cutB x) : c ∈ x := by
  rcases cutB_sub x with e | e <;> rw [e] at h
  · exact h
  · exact (List.dropLast_sublist _).mem h
theorem cutL_len (x : List UInt8) : (cutL x).length ≤ x.length := Nat.le_trans (cutB_len _) (cutF_len _)
theorem runs_two {l : List UInt8} (h : longL l ≤ 2) : ∀ p ∈ runsL l, p.2 = 1 ∨ p.2 = 2 := by
  intro p hp
  have h1 := le_longR' hp
  have h2 : longR (runsL l) ≤ 2 := h
  have h3 := runs_pos1 l p hp
  omega
where
  runs_pos1 (l : List UInt8) : ∀ p ∈ runsL l, 1 ≤ p.2 := by
    refine snoc_rec (P := fun l => ∀ p ∈ runsL l, 1 ≤ p.2) (fun p hp => by simp [runsL] at hp) (fun l a ih => ?_) l
    rw [runsL_snoc]
    rcases list_cases_snoc (runsL l) with e | ⟨pre, ⟨d, n⟩, e⟩
    · rw [e]; intro p hp; simp [stepRun] at hp; subst hp; exact Nat.le_refl _
    · rw [e] at ih ⊢
      by_cases ed : d = a
      · subst ed; rw [stepRun_same]
        intro p hp
        rw [List.mem_append] at hp
        rcases hp with hp | hp
        · exact ih p (by simp [hp])
        · simp at hp; subst hp; simp
      · rw [stepRun_other _ _ _ _ ed]
        intro p hp
        rw [List.mem_append] at hp
        rcases hp with hp | hp
        · exact ih p hp
        · simp at hp; subst hp; exact Nat.le_refl _
theorem lens_on {l : List UInt8} (h : longL l ≤ 2) : (lensL l).all onB = true := by
  rw [List.all_eq_true]
  intro c hc
  unfold lensL lensR at hc
  rw [List.mem_map] at hc
  obtain ⟨p, hp, rfl⟩ := hc
  rcases runs_two h p hp with e | e <;> rw [e] <;> rfl
theorem lens_len (l : List UInt8) : (lensL l).length ≤ l.length := by
  unfold lensL lensR; rw [List.length_map]; exact runs_len_le l
theorem der_low {l m : List UInt8} (hl : lowB l = true) (h : derL l = some m) : lowB m = true := by
  unfold derL at h
  split at h
  · rename_i h2
    cases h
    unfold lowB at hl ⊢
    simp only [Bool.and_eq_true, decide_eq_true_eq] at hl ⊢
    refine ⟨Nat.le_trans (cutL_len _) (Nat.le_trans (lens_len l) hl.1), ?_⟩
    have := lens_on h2
    rw [List.all_eq_true] at this ⊢
    exact fun c hc => this c (cutF_mem (cutB_mem hc))
  · cases h
/-- Runs of one digit each: their lengths are ones. -/
theorem sum_ones : ∀ (rs : List (UInt8 × Nat)), (∀ p ∈ rs, 1 ≤ p.2) → (rs.map (·.2)).sum ≤ rs.length → ∀ p ∈ rs, p.2 = 1
  | [], _, _, p, hp => by simp at hp
  | q :: r, h1, h2, p, hp => by
    have hq := h1 q (by simp)
    have hr : r.length ≤ (r.map (·.2)).sum := by
      have : ∀ (r : List (UInt8 × Nat)), (∀ p ∈ r, 1 ≤ p.2) → r.length ≤ (r.map (·.2)).sum := by
        intro r
        induction r with
        | nil => simp
        | cons a t ih =>
          intro h
          have h1 := h a (by simp)
          have h2 := ih (fun p hp => h p (by simp [hp]))
          simp only [List.length_cons, List.map_cons, List.sum_cons]
          omega
      exact this r (fun p hp => h1 p (by simp [hp]))
    simp only [List.map_cons, List.sum_cons, List.length_cons] at h2
    rw [List.mem_cons] at hp
    rcases hp with rfl | hp
    · omega
    · exact sum_ones r (fun p hp => h1 p (by simp [hp])) (by omega) p hp
theorem der_less {l m : List UInt8} (hl : l ≠ []) (h : derL l = some m) : m.length < l.length := by
  unfold derL at h
  split at h
  · rename_i h2
    cases h
    have h3 := lens_len l
    have h4 := cutL_len (lensL l)
    by_cases hlt : (lensL l).length < l.length
    · omega
    · have hr : (runsL l).length = l.length := by
        have := runs_len_le l
        unfold lensL lensR at hlt
        rw [List.length_map] at hlt
        omega
      have h1 := sum_ones (runsL l) (runs_two.runs_pos1 l) (by rw [runsL_sum, hr]; exact Nat.le_refl _)
      have hne : lensL l ≠ [] := by
        unfold lensL lensR
        intro e
        have := List.map_eq_nil_iff.1 e
        exact runs_ne hl this
      obtain ⟨a, t, e⟩ := List.exists_cons_of_ne_nil hne
      have ha : a = 49 := by
        have : a ∈ lensL l := by rw [e]; simp
        unfold lensL lensR at this
        rw [List.mem_map] at this
        obtain ⟨p, hp, rfl⟩ := this
        rw [h1 p hp]; rfl
      have h5 : (cutF (lensL l)).length = t.length := by rw [e, ha]; simp [cutF]
      have h6 : (lensL l).length = t.length + 1 := by rw [e]; simp
      have h7 := cutB_len (cutF (lensL l))
      unfold cutL
      omega
  · cases h

def depF : Nat → List UInt8 → Option Nat
  | _, [] => some 0
  | 0, _ :: _ => none
  | k + 1, c :: t => (derL (c :: t)).bind fun m => (depF k m).map (· + 1)
def depL (l : List UInt8) : Option Nat := depF l.length l
theorem depF_more : ∀ (k j : Nat) (l : List UInt8), l.length ≤ k → l.length ≤ j → depF k l = depF j l
  | k, j, [], _, _ => by cases k <;> cases j <;> rfl
  | 0, j, c :: t, h, _ => by simp at h
  | k + 1, 0, c :: t, _, h => by simp at h
  | k + 1, j + 1, c :: t, h1, h2 => by
    unfold depF
    cases h : derL (c :: t) with
    | none => rfl
    | some m =>
      have := der_less (by simp) h
      simp only [List.length_cons] at this h1 h2
      simp only [Option.bind_some]
      rw [depF_more k j m (by omega) (by omega)]
theorem depL_nil : depL [] = some 0 := rfl
theorem depL_step {l : List UInt8} (hl : l ≠ []) : depL l = (derL l).bind fun m => (depL m).map (· + 1) := by
  obtain ⟨c, t, rfl⟩ := List.exists_cons_of_ne_nil hl
  have e : depL (c :: t) = (derL (c :: t)).bind fun m => (depF t.length m).map (· + 1) := rfl
  rw [e]
  cases h : derL (c :: t) with
  | none => rfl
  | some m =>
    have := der_less (by simp) h
    simp only [List.length_cons] at this
    simp only [Option.bind_some]
    unfold depL
    rw [depF_more t.length m.length m (by omega) (Nat.le_refl _)]
theorem depL_none {l : List UInt8} (hl : l ≠ []) (h : derL l = none) : depL l = none := by rw [depL_step hl, h]; rfl
theorem depL_some {l m : List UInt8} (hl : l ≠ []) (h : derL l = some m) : depL l = (depL m).map (· + 1) := by rw [depL_step hl, h]; rfl
theorem depF_le : ∀ (k : Nat) (l : List UInt8) (d : Nat), depF k l = some d → d ≤ k
  | k, [], d, h => by cases k <;> (cases h; omega)
  | 0, c :: t, d, h => by cases h
  | k + 1, c :: t, d, h => by
    unfold depF at h
    cases hd : derL (c :: t) with
    | none => rw [hd] at h; cases h
    | some m =>
      rw [hd, Option.bind_some, Option.map_eq_some_iff] at h
      obtain ⟨e, he, rfl⟩ := h
      have := depF_le k m e he
      omega
def depO (l : List UInt8) : Option Nat := if lowB l = true then depL l else none
def smB (l : List UInt8) : Bool := (depL l).isSome
end Go.Proofs.YtkjmocdhhndlgaaGreatDoor

/- Smooth words: their beginnings are smooth, so all of them are those that go on from shorter ones (pure). -/
namespace Go.Proofs.YtkjmocdhhndlgaaGreatDoor
set_option linter.unusedSimpArgs false
set_option linter.unusedVariables false

theorem cutF_app {x : List UInt8} (h : x ≠ []) (y : List UInt8) : cutF (x ++ y) = cutF x ++ y := by
  obtain ⟨a, t, rfl⟩ := List.exists_cons_of_ne_nil h
  by_cases h2 : a = 49
  · subst h2; rfl
  · unfold cutF
    simp [h2]
theorem cutB_one (z : List UInt8) : cutB (z ++ [49]) = z := by simp [cutB]
theorem cutB_two (z : List UInt8) : cutB (z ++ [50]) = z ++ [50] := by simp [cutB]
theorem cutB_pre (z : List UInt8) : cutB z <+: z := by
  rcases cutB_sub z with h | h
  · rw [h]; exact List.prefix_refl _
  · rw [h]; exact List.dropLast_prefix z
theorem lensR_snoc (rs : List (UInt8 × Nat)) (p : UInt8 × Nat) : lensR (rs ++ [p]) = lensR rs ++ [nDig p.2] := by simp [lensR]
theorem der_pre {l m' : List UInt8} {c : UInt8} (h : derL (l ++ [c]) = some m') : ∃ m, derL l = some m ∧ m <+: m' := by
  unfold derL at h
  split at h
  · rename_i h2
    cases h
    have h3 : longR (runsL (l ++ [c])) ≤ 2 := h2
    unfold lensL
    rw [runsL_snoc] at h3 ⊢
    rcases list_cases_snoc (runsL l) with e | ⟨pre, ⟨d, n⟩, e⟩
    · refine ⟨[], ?_, List.nil_prefix⟩
      unfold derL lensL longL
      rw [e]; rfl
    · have hn : 1 ≤ n := runs_two.runs_pos1 l (d, n) (by rw [e]; simp)
      by_cases ed : d = c
      · subst ed
        rw [e, stepRun_same, longR_snoc] at h3
        have hn1 : n = 1 := by simp only at h3; omega
        subst hn1
        refine ⟨cutL (lensL l), by unfold derL longL; rw [e, longR_snoc, if_pos (by simp only at h3 ⊢; omega)], ?_⟩
        unfold lensL
        rw [e, stepRun_same, lensR_snoc, lensR_snoc]
        show cutL (lensR pre ++ [49]) <+: cutL (lensR pre ++ [50])
        by_cases hx : lensR pre = []
        · rw [hx]; exact List.nil_prefix
        · unfold cutL
          rw [cutF_app hx, cutF_app hx, cutB_one, cutB_two]
          exact List.prefix_append _ _
      · rw [e, stepRun_other _ _ _ _ ed, longR_snoc] at h3
        refine ⟨cutL (lensL l), by unfold derL longL; rw [e, if_pos (by simp only at h3 ⊢; omega)], ?_⟩
        unfold lensL
        rw [e, stepRun_other _ _ _ _ ed, lensR_snoc (pre ++ [(d, n)]) (c, 1)]
        show cutL (lensR (pre ++ [(d, n)])) <+: cutL (lensR (pre ++ [(d, n)]) ++ [49])
        have hx : lensR (pre ++ [(d, n)]) ≠ [] := by rw [lensR_snoc]; simp
        unfold cutL
        rw [cutF_app hx, cutB_one]
        exact cutB_pre _
  · cases h
theorem sm_pre : ∀ (k : Nat) (l' l : List UInt8), l'.length ≤ k → l <+: l' → smB l' = true → smB l = true := by
  intro k
  induction k with
  | zero =>
    intro l' l h1 h2 h3
    have : l' = [] := List.eq_nil_of_length_eq_zero (by omega)
    subst this
    have : l = [] := List.prefix_nil.1 h2
    subst this; exact h3
  | succ k ih =>
    have one : ∀ (l : List UInt8) (c : UInt8), (l ++ [c]).length ≤ k + 1 → smB (l ++ [c]) = true → smB l = true := by
      intro l c hl h
      by_cases he : l = []
      · subst he; rfl
      · unfold smB at h
        cases hd : derL (l ++ [c]) with
        | none => rw [depL_none (by simp) hd] at h; cases h
        | some m' =>
          rw [depL_some (by simp) hd, Option.isSome_map] at h
          obtain ⟨m, hm, hp⟩ := der_pre hd
          have hlt := der_less (by simp) hd
          have := ih m' m (by omega) hp h
          unfold smB
          rw [depL_some he hm, Option.isSome_map]
          exact this
    intro l' l h1 h2 h3
    obtain ⟨t, rfl⟩ := h2
    revert h1 h3
    refine snoc_rec (P := fun t => (l ++ t).length ≤ k + 1 → smB (l ++ t) = true → smB l = true) (fun _ h => by simpa using h) (fun t a ih2 h1 h3 => ?_) t
    rw [← List.append_assoc] at h1 h3
    exact ih2 (by simp at h1 ⊢; omega) (one _ _ h1 h3)
theorem sm_snoc (l : List UInt8) (c : UInt8) (h : smB (l ++ [c]) = true) : smB l = true := sm_pre _ _ l (Nat.le_refl _) ⟨[c], rfl⟩ h

def allLow : Nat → List (List UInt8)
  | 0 => [[]]
  | n + 1 => (allLow n).flatMap fun w => [w ++ [49], w ++ [50]]
def goOn (w : List UInt8) : List (List UInt8) := [w ++ [49], w ++ [50]].filter smB
def smAll (n : Nat) : List (List UInt8) := (allLow n).filter smB
theorem smAll_zero : smAll 0 = [[]] := rfl
theorem goOn_none {w : List UInt8} (h : smB w = false) : goOn w = [] := by
  unfold goOn
  rw [List.filter_eq_nil_iff]
  intro x hx he
  simp only [List.mem_cons, List.not_mem_nil, or_false] at hx
  rcases hx with rfl | rfl
  all_goals
    have := sm_snoc _ _ he
    rw [h] at this; cases this
theorem filter_goOn : ∀ (ws : List (List UInt8)), (ws.flatMap fun w => [w ++ [49], w ++ [50]]).filter smB = (ws.filter smB).flatMap goOn
  | [] => rfl
  | w :: t => by
    rw [List.flatMap_cons, List.filter_append, filter_goOn t]
    change goOn w ++ _ = _
    cases h : smB w with
    | true => rw [List.filter_cons_of_pos h, List.flatMap_cons]
    | false => rw [List.filter_cons_of_neg (by simp [h]), goOn_none h, List.nil_append]
theorem smAll_succ (n : Nat) : smAll (n + 1) = (smAll n).flatMap goOn := filter_goOn (allLow n)
theorem allLow_len : ∀ n, (allLow n).length = 2 ^ n
  | 0 => rfl
  | n + 1 => by
    have : ∀ (ws : List (List UInt8)), (ws.flatMap fun w => [w ++ [49], w ++ [50]]).length = ws.length * 2 := by
      intro ws
      induction ws with
      | nil => rfl
      | cons w t ih => rw [List.flatMap_cons, List.length_append, ih]; simp; omega
    rw [allLow, this, allLow_len n, Nat.pow_succ]
theorem smAll_len (n : Nat) : (smAll n).length ≤ 2 ^ n := by
  rw [← allLow_len]; exact List.length_filter_le _ _
theorem allLow_mem : ∀ (n : Nat) (w : List UInt8), w ∈ allLow n → w.length = n ∧ w.all onB = true
  | 0, w, h => by
    unfold allLow at h
    simp only [List.mem_cons, List.not_mem_nil, or_false] at h
    subst h; exact ⟨rfl, rfl⟩
  | n + 1, w, h => by
    unfold allLow at h
    rw [List.mem_flatMap] at h
    obtain ⟨v, hv, hw⟩ := h
    obtain ⟨h1, h2⟩ := allLow_mem n v hv
    simp only [List.mem_cons, List.not_mem_nil, or_false] at hw
    rcases hw with rfl | rfl
    · exact ⟨by simp [h1], by rw [List.all_append, h2]; rfl⟩
    · exact ⟨by simp [h1], by rw [List.all_append, h2]; rfl⟩
/-- The low word of a number. -/
def lowT : Nat → Nat → List UInt8
  | 0, _ => []
  | n + 1, k => lowT n (k / 2) ++ [UInt8.ofNat (49 + k % 2)]
theorem range_two : ∀ m, List.range (2 * m) = (List.range m).flatMap fun k => [2 * k, 2 * k + 1]
  | 0 => rfl
  | m + 1 => by
    rw [show 2 * (m + 1) = 2 * m + 1 + 1 by omega, List.range_succ, List.range_succ, range_two m, List.range_succ, List.flatMap_append]
    simp
theorem lowT_all : ∀ n, (List.range (2 ^ n)).map (lowT n) = allLow n
  | 0 => rfl
  | n + 1 => by
    rw [show 2 ^ (n + 1) = 2 * 2 ^ n by rw [Nat.pow_succ]; omega, range_two, List.map_flatMap, allLow, ← lowT_all n]
    rw [List.flatMap_map]
    congr 1
    funext k
    have e1 : 2 * k / 2 = k := by omega
    have e2 : 2 * k % 2 = 0 := by omega
    have e3 : (2 * k + 1) / 2 = k := by omega
    have e4 : (2 * k + 1) % 2 = 1 := by omega
    simp only [List.map_cons, List.map_nil, lowT, e1, e2, e3, e4]
    rfl
theorem lowT_sm (n m : Nat) (h : m ≤ 2 ^ n) : (((List.range m).map (lowT n)).filter smB).length ≤ 2 ^ n :=
  Nat.le_trans (List.length_filter_le _ _) (by simpa using h)
end Go.Proofs.YtkjmocdhhndlgaaGreatDoor

/- Marks: a row of numbers is overwritten with counted marks, and they are found again. -/
namespace Go.Proofs.YtkjmocdhhndlgaaGreatDoor
open Go.RowKit Go.BigFrame
set_option linter.unusedSimpArgs false
set_option linter.unusedVariables false
set_option maxRecDepth 4000

def markI (k n : Nat) : List Int := (List.range n).map (fun i => ((k + i : Nat) : Int))
theorem markI_len (k n : Nat) : (markI k n).length = n := by simp [markI]
theorem markI_succ (k n : Nat) : markI k (n + 1) = markI k n ++ [((k + n : Nat) : Int)] := by simp [markI, List.range_succ]
theorem markI_get (k n i : Nat) (h : i < n) : (markI k n)[i]'(by rw [markI_len]; exact h) = ((k + i : Nat) : Int) := by simp [markI]
def markSS : Nat → List (List Int) → List (List Int)
  | _, [] => []
  | k, xs :: r => markI k xs.length :: markSS (k + xs.length) r
def totalSS (nss : List (List Int)) : Nat := (nss.map List.length).sum
theorem markSS_len : ∀ (k : Nat) (nss : List (List Int)), (markSS k nss).length = nss.length
  | _, [] => rfl
  | k, xs :: r => by simp [markSS, markSS_len (k + xs.length) r]
theorem totalSS_take (nss : List (List Int)) (i : Nat) (h : i < nss.length) : totalSS (nss.take (i + 1)) = totalSS (nss.take i) + nss[i].length := by
  rw [totalSS, List.take_succ_eq_append_getElem h, List.map_append, List.sum_append]; simp [totalSS]
theorem markSS_get : ∀ (k : Nat) (nss : List (List Int)) (i : Nat) (h : i < nss.length), (markSS k nss)[i]? = some (markI (k + totalSS (nss.take i)) nss[i].length)
  | k, [], i, h => by simp at h
  | k, xs :: r, 0, h => by simp [markSS, totalSS]
  | k, xs :: r, i + 1, h => by
    simp only [markSS, List.getElem?_cons_succ, List.getElem_cons_succ, List.take_succ_cons]
    rw [markSS_get (k + xs.length) r i (by simpa using h)]
    simp [totalSS, Nat.add_assoc]
theorem totalSS_le (nss : List (List Int)) (i : Nat) : totalSS (nss.take i) ≤ totalSS nss := by
  have : totalSS nss = totalSS (nss.take i) + totalSS (nss.drop i) := by
    conv => lhs; rw [← List.take_append_drop i nss]
    simp only [totalSS, List.map_append, List.sum_append]
  omega

end Go.Proofs.YtkjmocdhhndlgaaGreatDoor

/- The laws' own helpers on rows of texts: equal rows are found equal; marks are laid and found again. -/
namespace Go.Proofs.YtkjmocdhhndlgaaGreatDoor
open Go.RowKit Go.BigFrame
set_option linter.unusedSimpArgs false
set_option linter.unusedVariables false
set_option maxRecDepth 4000

def markT (k : Nat) : List UInt8 := 109 :: numL k
def numT (k : Nat) : List UInt8 := if k = 0 then [] else numL k
theorem numT_step (k : Nat) (h : 0 < k) : numT k = numT (k / 10) ++ [UInt8.ofNat (48 + k % 10)] := by
  unfold numT
  rw [if_neg (by omega)]
  by_cases h2 : k < 10
  · rw [numL_one k h2, if_pos (by omega), show k % 10 = k by omega]; rfl
  · rw [numL_more k h2, if_neg (by omega)]
theorem markT_len (k : Nat) (h : k ≤ 1000000) : (markT k).length ≤ 20 := by
  have := numL_len19 k (by omega)
  simp [markT]; omega

def Strs (w : World) (B : Nat) (v : Value) (ls : List (List UInt8)) : Prop := w.ownsRow B 9 1 v ls.length (ls.map (fun l => .string (bs l)))
theorem strs_open {w : World} {B : Nat} {v : Value} {ls : List (List UInt8)} (h : Strs w B v ls) : (v = .slice none 0 0 ∧ ls = []) ∨
    ∃ g cap, v = .slice (some ⟨g, 0, none⟩) ls.length cap ∧ B ≤ g ∧ g < w.heap.size ∧ ls.length ≤ 9223372036854775807 ∧ cap ≤ 9223372036854775807 ∧
      (∀ i (hi : i < ls.length), w.cell? ⟨g, i, none⟩ = some (.string (bs ls[i]))) ∧ (∀ i, w.frozen? ⟨g, i, none⟩ = false) := by
  rcases own_open h with ⟨rfl, h2, h3⟩ | ⟨g, cap, rfl, h1, h2, h3, h4, _, h5, h6⟩
  · exact .inl ⟨rfl, List.eq_nil_of_length_eq_zero h2⟩
  · unfold maxLen at h4
    exact .inr ⟨g, cap, rfl, h1, h2, by omega, by omega, fun i hi => by have := h5 i (by simpa using hi); simpa using this, h6⟩

def markTS (k n : Nat) : List (List UInt8) := (List.range n).map (fun i => markT (k + i))
theorem markTS_len (k n : Nat) : (markTS k n).length = n := by simp [markTS]
theorem markTS_succ (k n : Nat) : markTS k (n + 1) = markTS k n ++ [markT (k + n)] := by simp [markTS, List.range_succ]
theorem markTS_get (k n i : Nat) (h : i < n) : (markTS k n)[i]'(by rw [markTS_len]; exact h) = markT (k + i) := by simp [markTS]

end Go.Proofs.YtkjmocdhhndlgaaGreatDoor
