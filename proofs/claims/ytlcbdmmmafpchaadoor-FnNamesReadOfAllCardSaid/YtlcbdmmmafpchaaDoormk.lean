/- Chapter 8: DifferentLetters of the model; its law. -/
import Derived.Test.YtlcbdmmmafpchaaDoormj
namespace Go.Proofs.YtlcbdmmmafpchaaDoor
open Go.RowKit Go.BigFrame
set_option linter.unusedSimpArgs false
set_option linter.unusedVariables false
set_option maxRecDepth 4000

/-- None of the first j signs is the sign k. -/
def noneB (l : List UInt8) (k j : Nat) : Bool := !decide (l.getD k 0 ∈ l.take j)
theorem noneB_succ (l : List UInt8) (k j : Nat) (hj : j < l.length) : noneB l k (j + 1) = (noneB l k j && decide (l[j] ≠ l.getD k 0)) := by
  unfold noneB
  rw [List.take_succ_eq_append_getElem hj]
  by_cases h1 : l.getD k 0 ∈ l.take j
  · rw [decide_eq_true h1, decide_eq_true (List.mem_append_left _ h1)]; rfl
  · by_cases h2 : l[j] = l.getD k 0
    · rw [decide_eq_true (show l.getD k 0 ∈ l.take j ++ [l[j]] from List.mem_append_right _ (by simp [h2])), decide_eq_false h1]
      simp [h2]
    · rw [decide_eq_false (show ¬ l.getD k 0 ∈ l.take j ++ [l[j]] from fun e => by
        rcases List.mem_append.1 e with e | e
        · exact h1 e
        · exact h2 (by simpa [eq_comm] using e)), decide_eq_false h1, decide_eq_true (show l[j] ≠ l.getD k 0 from h2)]; rfl
theorem fstK_none (l : List UInt8) (k : Nat) : fstK l (k + 1) = fstK l k + if noneB l k k = true then 1 else 0 := by
  rw [fstK]
  unfold noneB
  by_cases h : l.getD k 0 ∈ l.take k
  · rw [if_pos h, decide_eq_true h]; rfl
  · rw [if_neg h, decide_eq_false h]; rfl
theorem get_bs (s : ByteArray) (k : Nat) (h : k < s.size) : s.data.toList.getD k 0 = s[k] := by
  have h' : k < s.data.toList.length := by simpa using h
  show (s.data.toList[k]?).getD 0 = s[k]
  rw [List.getElem?_eq_getElem h']; rfl

set_option maxHeartbeats 4000000 in
theorem specDifferentLetters_any (n : Int) (w : World) :
    Calls Tryd.prog 20 #[.int .i64 n] w fun e w' => e = .returned (.tuple #[.int .i64 (difO n), .bool (nmB n)]) ∧ Below w.heap.size w w' := by
  have HG := Lib.hid (fun W => naGood_is n W)
  cases hb : nmB n with
  | false =>
    have e : difO n = 0 := by unfold difO; rw [hb]; rfl
    rw [e]; rw [hb] at HG
    clear e hb
    go_enter Tryd.func20, Tryd.ntmps20
    go_wp2_with fail
    refine (HG.out _).mono ?_
    rintro e w1 ⟨rfl, rfl⟩
    go_wp2_with fail
    go_ret2
    exact ⟨rfl, below_refl _⟩
  | true =>
    obtain ⟨k, rfl, hk⟩ := nmB_parts hb
    obtain ⟨s, hs⟩ : ∃ s, s = bs (ltN k) := ⟨_, rfl⟩
    have hsz : s.size ≤ 64 := by rw [hs, bs_size]; exact ltN_len k hk
    have hd : s.data.toList = ltN k := by rw [hs]; exact bs_list _
    obtain ⟨R, hR⟩ : ∃ R, R = difN (ltN k) := ⟨_, rfl⟩
    have e : difO (k : Int) = (R : Int) := by unfold difO; rw [hb, hR]; rfl
    have hRf : fstK s.data.toList s.size = R := by
      have := fstK_all (ltN k) (ltN_all k)
      rw [← hd] at this
      rw [hR, ← hd, ← this]; simp
    rw [e]; rw [hb] at HG
    have HN := Lib.hid (fun W => naLetters_any k W hk)
    rw [← hs] at HN
    have HR := Lib.hid hRf
    clear e hb hk hs hd hR hRf
    go_enter Tryd.func20, Tryd.ntmps20
    go_wp2_with fail
    refine (HG.out _).mono ?_
    rintro e w1 ⟨rfl, rfl⟩
    go_wp2_with fail
    refine (HN.out _).mono ?_
    rintro e w1 ⟨rfl, hb⟩
    have HB := Lib.hid hb; clear hb
    go_wp2_with fail
    go_loopw [5, 6, 7, 8] (fun cv iv fv kv wr => ∃ (i m : Nat), i ≤ s.size ∧ iv = .int .i64 (i : Int) ∧ cv = .int .i64 (m : Int) ∧ m ≤ i ∧ Hid (m = fstK s.data.toList i ∧ Below w.heap.size w wr)) (fun _ iv _ _ _ => s.size - (intOf iv).toNat)
    case atStart => exact ⟨0, 0, Nat.zero_le _, rfl, rfl, Nat.le_refl _, rfl, HB.out⟩
    case round =>
      obtain ⟨i, m, hi, rfl, rfl, hm, HX⟩ := hrel
      by_cases hlt : i < s.size
      · go_wp2_with fail
        obtain ⟨wo, hwo⟩ : ∃ wo, wo = wr := ⟨_, rfl⟩
        subst hwo
        go_loopw [7, 8] (fun fv kv wi => ∃ (j : Nat) (f : Bool), j ≤ i ∧ kv = .int .i64 (j : Int) ∧ fv = .bool f ∧ Hid (f = noneB s.data.toList i j ∧ Below w.heap.size w wi)) (fun _ kv _ => i - (intOf kv).toNat)
        case atStart => exact ⟨0, true, Nat.zero_le _, rfl, rfl, by simp [noneB], HX.out.2⟩
        case round =>
          obtain ⟨j, f, hj, rfl, rfl, HY⟩ := hrel
          by_cases hjl : j < i
          · have hjs : j < s.size := by omega
            have hns := noneB_succ s.data.toList i j (by simpa using hjs)
            rw [← HY.out.1, get_bs s i hlt, show s.data.toList[j]'(by simpa using hjs) = s[j] from by simp; rfl] at hns
            cases f with
            | false =>
              rw [Bool.false_and] at hns
              have HNS := Lib.hid hns
              clear hns
              go_wp2_with fail
              go_quiet (fail)
              go_wp2_with fail
              go_roundw
              case rel => exact ⟨j + 1, false, by omega, by go_num, rfl, HNS.out.symm, HY.out.2.trans (belowN _ _ _)⟩
              case measure => simp [intOf] <;> omega
            | true =>
              rw [Bool.true_and] at hns
              by_cases hq : s[j] = s[i]
              · have hz : (((s[j].toNat : Nat) : Int) != ((s[i].toNat : Nat) : Int)) = false := by rw [hq]; simp
                rw [decide_eq_false (fun e => e hq)] at hns
                have HNS := Lib.hid hns
                clear hns hq
                go_wp2_with fail
                go_quiet (fail)
                go_wp2_with fail
                go_roundw
                case rel => exact ⟨j + 1, false, by omega, by go_num, rfl, HNS.out.symm, HY.out.2.trans (belowN _ _ _)⟩
                case measure => simp [intOf] <;> omega
              · have hz : (((s[j].toNat : Nat) : Int) != ((s[i].toNat : Nat) : Int)) = true := by
                  have : ¬ ((s[j].toNat : Nat) : Int) = ((s[i].toNat : Nat) : Int) := fun e => hq (UInt8.toNat_inj.1 (by omega))
                  simpa using this
                rw [decide_eq_true hq] at hns
                have HNS := Lib.hid hns
                clear hns hq
                go_wp2_with fail
                go_quiet (fail)
                go_wp2_with fail
                go_roundw
                case rel => exact ⟨j + 1, true, by omega, by go_num, rfl, HNS.out.symm, HY.out.2.trans (belowN _ _ _)⟩
                case measure => simp [intOf] <;> omega
          · obtain rfl : j = i := by omega
            have hfk := fstK_none s.data.toList j
            rw [← HX.out.1, ← HY.out.1] at hfk
            cases f with
            | false =>
              have HFK := Lib.hid (show m = fstK s.data.toList (j + 1) by rw [hfk]; rfl)
              clear hfk
              go_wp2_with fail
              go_roundw
              case rel => exact ⟨j + 1, m, by omega, by go_num, rfl, by omega, HFK.out, HY.out.2⟩
              case measure => simp [intOf] <;> omega
            | true =>
              have HFK := Lib.hid (show m + 1 = fstK s.data.toList (j + 1) by rw [hfk]; rfl)
              clear hfk
              go_wp2_with fail
              go_roundw
              case rel => exact ⟨j + 1, m + 1, by omega, by go_num, by go_num, by omega, HFK.out, HY.out.2⟩
              case measure => simp [intOf] <;> omega
      · obtain rfl : i = s.size := by omega
        have hm2 : m = R := by rw [HX.out.1, HR.out]
        subst hm2
        go_wp2_with fail
        go_ret2
        exact ⟨rfl, HX.out.2⟩
end Go.Proofs.YtlcbdmmmafpchaaDoor
