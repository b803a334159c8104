/- What a text tells: the program's toldBy, the model's taIs; IsInventory, IsOwnInventory and their laws. -/
import Derived.Test.YtkdoghopbefjfaaT6
namespace Go.Proofs.Ytkdoghopbefjfaa
open Go.RowKit Go.BigFrame
set_option linter.unusedSimpArgs false
set_option linter.unusedVariables false
set_option maxRecDepth 4000

theorem results_tallyT2 {fn : Func} {p t : Tmp} (h : fn.results = #[.cell p 65, .tmp t]) (tmps : Array Value) (w : World) (g : Nat) (ts : List Nat)
    (hp : tmps.getD p undef = .pointer (some ⟨g, 0, none⟩)) (hg : BlkT w g ts) : (results fn tmps).run Try.prog w = .ok (.tuple #[aggT ts, tmps.getD t undef]) w := by
  have hp' : tmps[p]?.getD undef = .pointer (some ⟨g, 0, none⟩) := by simpa using hp
  have hl := run_loadVar_row (P := Try.prog) w g 65 65 (tvA ts) (0, 0) _ hg.1 under_tally rfl (by rw [tvA_size, hg.2]; exact info_tally)
  simp [results, h, hp', asAddr, hl, aggT]
theorem toldF_len : ∀ (l : List UInt8) (b : Nat) (acc ts : List Nat), toldF b acc l = some ts → ts.length = acc.length
  | [], b, acc, ts, h => by simp [toldF] at h; rw [h]
  | [_], b, acc, ts, h => by simp [toldF] at h
  | x :: y :: r, b, acc, ts, h => by
    unfold toldF at h
    split at h
    · cases h
    · have := toldF_len r _ _ _ h
      simpa using this
theorem drop2 (s : ByteArray) (j : Nat) (h : j + 1 < s.size) : s.data.toList.drop j = s[j] :: s[j + 1] :: s.data.toList.drop (j + 2) := by
  rw [drop_at s j (by omega), drop_at s (j + 1) h]
theorem toldF_odd : ∀ (l : List UInt8) (b : Nat) (acc : List Nat), l.length % 2 = 1 → toldF b acc l = none
  | [], _, _, h => by simp at h
  | [_], _, _, _ => rfl
  | x :: y :: r, b, acc, h => by
    unfold toldF
    split
    · rfl
    · exact toldF_odd r _ _ (by simp at h; omega)
theorem zeros9_len : zeros9.length = 9 := rfl

set_option maxHeartbeats 2000000 in
theorem toldBy_any (s : ByteArray) (w : World) (hs : s.size ≤ maxLen) :
    Calls Try.prog 63 #[.string s] w fun e w' => e = .returned (.tuple #[aggT ((toldL s.data.toList).getD zeros9), .bool (toldL s.data.toList).isSome]) ∧ Below w.heap.size w w' := by
  have hz : ∀ (W : World) (w0 : World), W = w0.alloc (.cells #[.int .i64 0, .int .i64 0, .int .i64 0, .int .i64 0, .int .i64 0, .int .i64 0, .int .i64 0, .int .i64 0, .int .i64 0] 65) → BlkT W w0.heap.size zeros9 := by
    rintro W w0 rfl
    exact ⟨heap_alloc_new _ _, rfl⟩
  have HZ := Lib.hid hz; clear hz
  cases hg : goodL s.data.toList with
  | false =>
    have hi : toldL s.data.toList = none := by unfold toldL; rw [if_neg (by rw [hg]; simp)]
    have HG := Lib.hid hg; clear hg
    rw [hi]
    go_enter Try.func63, Try.ntmps63
    go_wp2_with fail
    refine (implIsWord_any s _ hs).mono ?_
    rintro e w1 ⟨rfl, rfl⟩
    rw [HG.out]
    go_wp2_with fail
    refine bodyPost_ret (results_tallyT2 rfl _ _ _ zeros9 rfl (HZ.out _ _ rfl)) rfl ?_
    exact ⟨rfl, below_alloc _ _⟩
  | true =>
    obtain ⟨h1, hl, hd⟩ := goodL_parts (s := s) hg
    have hlen : s.size = s.data.toList.length := by simp
    by_cases hev : s.size % 2 = 0
    · have hev2 : ((s.size : Int) % 2) = 0 := by omega
      have hev3 : ((s.size : Int).tmod 2) = 0 := by rw [Int.tmod_eq_emod_of_nonneg (by omega)]; omega
      have hR : toldL s.data.toList = toldF 0 zeros9 s.data.toList := by unfold toldL; rw [if_pos hg]
      obtain ⟨R, hRR⟩ : ∃ R, R = toldL s.data.toList := ⟨_, rfl⟩
      rw [← hRR] at hR ⊢
      have hRl : ∀ ts, R = some ts → ts.length = 9 := fun ts h => by rw [hR] at h; exact toldF_len _ _ _ _ h
      have HG := Lib.hid hg; have HD := Lib.hid hd; have HR := Lib.hid hR; have HRL := Lib.hid hRl; have HEV := Lib.hid hev
      clear hg hd hR hlen hRR hRl hev
      go_enter Try.func63, Try.ntmps63
      go_wp2_with fail
      refine (implIsWord_any s _ hs).mono ?_
      rintro e w1 ⟨rfl, rfl⟩
      rw [HG.out]
      go_wp2_with fail
      go_loopw [5, 6] (fun bv iv wr => ∃ (j b : Nat) (acc : List Nat), j % 2 = 0 ∧ j ≤ s.size ∧ b ≤ 9 ∧ iv = .int .i64 (j : Int) ∧ bv = .int .i64 (b : Int) ∧ Hid (BlkT wr (w.heap.size + 1) acc ∧ BlkT wr w.heap.size zeros9 ∧ toldF b acc (s.data.toList.drop j) = R ∧ Below w.heap.size w wr)) (fun _ i _ => s.size - (intOf i).toNat)
      case atStart =>
        exact ⟨0, 0, zeros9, rfl, Nat.zero_le _, by omega, rfl, rfl, ⟨heap_alloc2_new _ _ _, rfl⟩, ⟨heap_alloc2_old _ _ _, rfl⟩, by rw [HR.out]; rfl, below_trans (below_alloc _ _) (below_alloc _ _)⟩
      case round =>
        obtain ⟨j, b, acc, hj, hjs, hb, rfl, rfl, HX⟩ := hrel
        by_cases hlt : j + 1 < s.size
        · have hlt0 : j < s.size := by omega
          obtain ⟨a1, a2⟩ := digs_at HD.out (j + 1) hlt
          obtain ⟨b1, b2⟩ := digs_at HD.out j hlt0
          have hst := HX.out.2.2.1
          rw [drop2 s j hlt] at hst
          unfold toldF at hst
          have t3 : ((j : Int) + 1).toNat = j + 1 := by omega
          have g3 : (0 : Int) ≤ (j : Int) + 1 := by omega
          have g5 : IntKind.i64.wrap ((j : Int) + 1) = (j : Int) + 1 := IntWalk.i64_in _ (by omega)
          have hd1 : ∀ W, Calls Try.prog 94 #[.int .u8 (s[j + 1].toNat : Int)] W fun e w' => e = .returned (.int .i64 ((s[j + 1].toNat : Int) - 48)) ∧ W = w' := fun W => digitOf_is _ W (by omega) (by omega)
          have hd2 : ∀ W, Calls Try.prog 94 #[.int .u8 (s[j].toNat : Int)] W fun e w' => e = .returned (.int .i64 ((s[j].toNat : Int) - 48)) ∧ W = w' := fun W => digitOf_is _ W (by omega) (by omega)
          obtain ⟨d, hdd⟩ : ∃ d, s[j + 1].toNat = d + 49 := ⟨s[j + 1].toNat - 49, by omega⟩
          obtain ⟨n, hnn⟩ : ∃ n, s[j].toNat = n + 48 := ⟨s[j].toNat - 48, by omega⟩
          have hi0 : s[j + 1].toNat - 49 = d := by omega
          rw [show s[j + 1].toNat - 48 = d + 1 from by omega, show s[j].toNat - 48 = n from by omega, hi0] at hst
          rw [show ((s[j + 1].toNat : Int) - 48) = (d : Int) + 1 from by omega] at hd1
          rw [show ((s[j].toNat : Int) - 48) = (n : Int) from by omega] at hd2
          have hd9 : d < 9 := by omega
          have hn9 : n ≤ 9 := by omega
          have H1 := Lib.hid hd1; have H2 := Lib.hid hd2; have HJ := Lib.hid hj
          clear hd1 hd2 hdd hnn hi0 a1 a2 b1 b2 hj
          by_cases hc : d + 1 ≤ b
          · rw [if_pos hc] at hst
            have HST := Lib.hid hst; clear hst
            go_wp2_with fail
            refine (H1.out _).mono ?_
            rintro e w2 ⟨rfl, rfl⟩
            go_wp2_with (refine wpList_putT rfl _ _ rfl w.heap.size rfl zeros9 zeros9 rfl HX.out.2.1 rfl ?_; intro w2 hB2 _ hbb _; have hbel := HX.out.2.2.2.trans (hbb _ (Nat.le_refl _)))
            rw [← HST.out]
            refine bodyPost_ret (results_tallyT2 rfl _ _ _ zeros9 rfl hB2) rfl ?_
            exact ⟨rfl, hbel⟩
          · rw [if_neg hc] at hst
            have HST := Lib.hid hst; clear hst
            obtain ⟨x, hx⟩ : ∃ x, acc[d]? = some x := ⟨_, List.getElem?_eq_getElem (by have := HX.out.1.2; omega)⟩
            have h1 : wr.cell? ⟨w.heap.size + 1, d, none⟩ = some (.int .i64 (x : Int)) := blkT_cell HX.out.1 hx
            have h2 : wr.frozen? ⟨w.heap.size + 1, d, none⟩ = false := blkT_frozen HX.out.1 d
            clear hx
            go_wp2_with fail
            refine (H1.out _).mono ?_
            rintro e w2 ⟨rfl, rfl⟩
            go_wp2_with fail
            refine (H2.out _).mono ?_
            rintro e w2 ⟨rfl, rfl⟩
            go_wp2_with fail
            go_roundw
            case rel =>
              refine ⟨j + 2, d + 1, acc.set d n, by have := HJ.out; omega, by omega, by omega, by go_num, by go_num, blkT_set HX.out.1 d n, ⟨(Below.heap_setCell _ _ _ _ (by simp)).trans HX.out.2.1.1, rfl⟩, HST.out, HX.out.2.2.2.setCell (by simp) _⟩
            case measure => simp [intOf] <;> omega
        · have hend : j = s.size := by have := HEV.out; omega
          subst hend
          have hst := HX.out.2.2.1
          rw [List.drop_of_length_le (by simp)] at hst
          unfold toldF at hst
          have hx9 := HRL.out acc hst.symm
          have HST := Lib.hid hst
          clear hst
          have hne : w.heap.size ≠ w.heap.size + 1 := by omega
          go_wp2_with (first
            | refine wpList_getT rfl _ rfl (w.heap.size + 1) rfl acc HX.out.1 ?_
            | (refine wpList_putT rfl _ _ rfl w.heap.size rfl zeros9 acc rfl HX.out.2.1 hx9 ?_; intro w2 hB2 _ hbb _; have hbel := HX.out.2.2.2.trans (hbb _ (Nat.le_refl _))))
          refine bodyPost_ret (results_tallyT2 rfl _ _ _ acc rfl hB2) rfl ?_
          exact ⟨by rw [← HST.out]; rfl, hbel⟩
    · have hev2 : ((s.size : Int) % 2) = 1 := by omega
      have hev3 : ((s.size : Int).tmod 2) = 1 := by rw [Int.tmod_eq_emod_of_nonneg (by omega)]; omega
      have hi : toldL s.data.toList = none := by unfold toldL; rw [if_pos hg]; exact toldF_odd _ _ _ (by simp; omega)
      have HG := Lib.hid hg; clear hg
      rw [hi]
      clear hlen hev
      go_enter Try.func63, Try.ntmps63
      go_wp2_with fail
      refine (implIsWord_any s _ hs).mono ?_
      rintro e w1 ⟨rfl, rfl⟩
      rw [HG.out]
      go_wp2_with fail
      refine bodyPost_ret (results_tallyT2 rfl _ _ _ zeros9 rfl (HZ.out _ _ rfl)) rfl ?_
      exact ⟨rfl, below_alloc _ _⟩

theorem getD_at (s : ByteArray) (i : Nat) (h : i < s.size) : s.data.toList.getD i 0 = s[i] := by
  rw [List.getD_eq_getElem?_getD, List.getElem?_eq_getElem (by simpa using h)]; simp; rfl
theorem incF_odd : ∀ (l : List UInt8) (b : Nat), l.length % 2 = 1 → incF b l = false
  | [], _, h => by simp at h
  | [_], _, _ => rfl
  | x :: y :: r, b, h => by
    unfold incF
    split
    · rfl
    · exact incF_odd r _ (by simp at h; omega)

set_option maxHeartbeats 1000000 in
theorem taIs_any (s : ByteArray) (w : World) (hs : s.size ≤ maxLen) :
    Calls Try.prog 68 #[.string s] w fun e w' => e = .returned (.bool (isInvL s.data.toList)) ∧ Below w.heap.size w w' := by
  cases hg : goodL s.data.toList with
  | false =>
    have hi : isInvL s.data.toList = false := by unfold isInvL; rw [hg]; rfl
    have HG := Lib.hid hg; clear hg
    rw [hi]
    go_enter Try.func68, Try.ntmps68
    go_wp2_with fail
    refine (woGood_any s _ hs).mono ?_
    rintro e w1 ⟨rfl, rfl⟩
    rw [HG.out]
    go_wp2_with fail
    go_ret
    exact ⟨rfl, below_refl _⟩
  | true =>
    obtain ⟨h1, hl, hd⟩ := goodL_parts (s := s) hg
    by_cases hev : s.size % 2 = 0
    · have hev2 : ((s.size : Int) % 2) = 0 := by omega
      have hev3 : ((s.size : Int).tmod 2) = 0 := by rw [Int.tmod_eq_emod_of_nonneg (by omega)]; omega
      have hi : isInvL s.data.toList = incF 0 s.data.toList := by unfold isInvL; rw [hg]; rfl
      obtain ⟨R, hR⟩ : ∃ R, R = isInvL s.data.toList := ⟨_, rfl⟩
      rw [← hR] at hi ⊢
      have h2s : 1 < s.size := by omega
      have hfirst : incF (s[1].toNat - 48) (s.data.toList.drop 2) = R := by
        obtain ⟨a1, a2⟩ := digs_at hd 1 h2s
        rw [hi]
        have hh : s.data.toList = s[0] :: s[1] :: s.data.toList.drop 2 := by have := drop2 s 0 h2s; rw [List.drop_zero] at this; exact this
        have e : incF 0 (s[0] :: s[1] :: s.data.toList.drop 2) = incF (s[1].toNat - 48) (s.data.toList.drop 2) := by
          show (if s[1].toNat - 48 ≤ 0 then false else _) = _
          rw [if_neg (by omega)]
        exact e.symm.trans (congrArg (incF 0) hh.symm)
      have HG := Lib.hid hg; have HD := Lib.hid hd; have HF := Lib.hid hfirst; have HEV := Lib.hid hev
      clear hg hd hi hR hfirst hev
      go_enter Try.func68, Try.ntmps68
      go_wp2_with fail
      refine (woGood_any s _ hs).mono ?_
      rintro e w1 ⟨rfl, rfl⟩
      rw [HG.out]
      go_wp2_with fail
      go_loopw [3] (fun iv wr => ∃ (m : Nat), m % 2 = 1 ∧ m < s.size ∧ iv = .int .i64 ((m : Int) + 2) ∧ Hid (incF ((s.data.toList.getD m 0).toNat - 48) (s.data.toList.drop (m + 1)) = R ∧ Below w.heap.size w wr)) (fun i _ => s.size + 2 - (intOf i).toNat)
      case atStart => exact ⟨1, rfl, h2s, rfl, by rw [getD_at s 1 h2s]; exact HF.out, below_refl _⟩
      case round =>
        obtain ⟨m, hm, hms, rfl, HX⟩ := hrel
        by_cases hlt : m + 2 < s.size
        · obtain ⟨a1, a2⟩ := digs_at HD.out (m + 2) hlt
          obtain ⟨b1, b2⟩ := digs_at HD.out m hms
          have hst := HX.out.1
          rw [drop2 s (m + 1) (by omega), getD_at s m hms] at hst
          unfold incF at hst
          simp only [Nat.add_assoc, Nat.reduceAdd] at hst
          have t3 : ((m : Int) + 2).toNat = m + 2 := by omega
          have g3 : (0 : Int) ≤ (m : Int) + 2 := by omega
          have g5 : IntKind.i64.wrap ((m : Int) + 2) = (m : Int) + 2 := IntWalk.i64_in _ (by omega)
          have g6 : (m : Int) + 2 - 2 = (m : Int) := by omega
          have g7 : IntKind.i64.wrap (m : Int) = (m : Int) := IntWalk.i64_in _ (by omega)
          have i2 : (m : Int) < (s.size : Int) := by omega
          have i3 : (m : Int) + 2 < (s.size : Int) := by omega
          have HM := Lib.hid hm; clear hm
          by_cases hc : s[m + 2].toNat - 48 ≤ s[m].toNat - 48
          · rw [if_pos hc] at hst
            have hle : decide (s[m + 2] ≤ s[m]) = true := by simp [UInt8.le_iff_toNat_le]; omega
            have hle2 : ((s[m + 2].toNat : Int) ≤ (s[m].toNat : Int)) := by omega
            have HST := Lib.hid hst; clear hst hc
            go_wp2_with fail
            go_quiet (fail)
            go_wp2_with fail
            go_ret
            exact ⟨by rw [← HST.out]; rfl, HX.out.2.trans (belowN _ _ _)⟩
          · rw [if_neg hc] at hst
            have hle2 : ¬ ((s[m + 2].toNat : Int) ≤ (s[m].toNat : Int)) := by omega
            have HST := Lib.hid hst; clear hst hc
            go_wp2_with fail
            go_quiet (fail)
            go_wp2_with fail
            go_roundw
            case rel =>
              refine ⟨m + 2, by have := HM.out; omega, hlt, by go_num, ?_, HX.out.2.trans (belowN _ _ _)⟩
              rw [getD_at s (m + 2) hlt]; exact HST.out
            case measure => simp [intOf] <;> omega
        · have hend : m + 1 = s.size := by have := HEV.out; omega
          have hst := HX.out.1
          rw [List.drop_of_length_le (by simp; omega)] at hst
          unfold incF at hst
          have HST := Lib.hid hst; clear hst
          go_wp2_with fail
          go_ret
          exact ⟨by rw [← HST.out]; rfl, HX.out.2⟩
    · have hev2 : ((s.size : Int) % 2) = 1 := by omega
      have hev3 : ((s.size : Int).tmod 2) = 1 := by rw [Int.tmod_eq_emod_of_nonneg (by omega)]; omega
      have hi : isInvL s.data.toList = false := by unfold isInvL; rw [incF_odd _ _ (by simp; omega)]; simp
      have HG := Lib.hid hg; clear hg
      rw [hi]
      clear hev
      go_enter Try.func68, Try.ntmps68
      go_wp2_with fail
      refine (woGood_any s _ hs).mono ?_
      rintro e w1 ⟨rfl, rfl⟩
      rw [HG.out]
      go_wp2_with fail
      go_ret
      exact ⟨rfl, below_refl _⟩
end Go.Proofs.Ytkdoghopbefjfaa
