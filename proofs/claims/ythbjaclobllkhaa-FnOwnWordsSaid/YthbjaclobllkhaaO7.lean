/- IsOwnBeginning: the model's, the program's, the law. -/
import Derived.Test.YthbjaclobllkhaaO5
namespace Go.Proofs.Ythbjaclobllkhaa
open Go.RowKit Go.BigFrame Go.Shelf
set_option linter.unusedSimpArgs false
set_option linter.unusedVariables false
set_option maxRecDepth 4000

/-- Is the text a word, and are the digits two? -/
def begB (l : List UInt8) (a b : Int) : Bool := goodL l && twoB a b
def begR (l : List UInt8) (a b : Int) : Bool := begB l a b && decide (l = sgL (ownW a b (l.length : Int)))
theorem beg_ask {l : List UInt8} {a b : Int} (hg : goodL l = true) (h2 : twoB a b = true) : askB a b (l.length : Int) 400 = true := by
  unfold goodL at hg
  simp only [Bool.and_eq_true, decide_eq_true_eq] at hg
  unfold askB
  rw [h2, Bool.true_and, decide_eq_true_eq]
  omega

set_option maxHeartbeats 1000000 in
theorem specIsOwnBeginning_any (s : ByteArray) (a b : Int) (w : World) (hs : s.size ≤ maxLen) :
    Calls Try.prog 19 #[.string s, .int .i64 a, .int .i64 b] w fun e w' => e = .returned (.tuple #[.bool (begR s.data.toList a b), .bool (begB s.data.toList a b)]) ∧ Below w.heap.size w w' := by
  cases h1 : goodL s.data.toList with
  | false =>
    have E : begB s.data.toList a b = false := by unfold begB; rw [h1]; rfl
    have E2 : begR s.data.toList a b = false := by unfold begR; rw [E]; rfl
    rw [E, E2]
    have H1 := Lib.hid h1; clear h1 E E2
    go_enter Try.func19, Try.ntmps19
    go_wp2_with fail
    refine (woGood_any s w hs).mono ?_
    rintro e w1 ⟨rfl, rfl⟩
    rw [H1.out]
    go_wp2_with fail
    go_ret2
    exact ⟨rfl, Below.refl _ _⟩
  | true =>
    cases h2 : twoB a b with
    | false =>
      have E : begB s.data.toList a b = false := by unfold begB; rw [h1, h2]; rfl
      have E2 : begR s.data.toList a b = false := by unfold begR; rw [E]; rfl
      rw [E, E2]
      have H1 := Lib.hid h1; have H2 := Lib.hid h2; clear h1 h2 E E2
      go_enter Try.func19, Try.ntmps19
      go_wp2_with fail
      refine (woGood_any s w hs).mono ?_
      rintro e w1 ⟨rfl, rfl⟩
      rw [H1.out]
      go_wp2_with fail
      refine (ruTwo_is _ _ _).mono ?_
      rintro e w1 ⟨rfl, rfl⟩
      rw [H2.out]
      go_wp2_with fail
      go_ret2
      exact ⟨rfl, Below.refl _ _⟩
    | true =>
      have hask := beg_ask h1 h2
      have E : begB s.data.toList a b = true := by unfold begB; rw [h1, h2]; rfl
      have hz : s.data.toList.length = s.size := by simp
      have HR := Lib.hid (fun (W : World) => ruOwn_ask a b (s.data.toList.length : Int) 400 W hask (by omega))
      have hl := ownW_len hask
      rw [Int.toNat_natCast] at hl
      have h9 := ownW_nine hask
      obtain ⟨xs, hxs⟩ : ∃ xs, xs = ownW a b (s.data.toList.length : Int) := ⟨_, rfl⟩
      have E2 : begR s.data.toList a b = decide (s.data.toList = sgL xs) := by unfold begR; rw [E, ← hxs]; rfl
      rw [← hxs] at HR hl h9
      rw [E, E2]
      rw [hz] at hl HR
      obtain ⟨hg1, hg2, hg3⟩ := goodL_parts h1
      have hdig := dig_at s hg3
      have HDG := Lib.hid hdig
      have H1 := Lib.hid h1; have H2 := Lib.hid h2; have H9 := Lib.hid h9; have HLL := Lib.hid hl
      clear h1 h2 E E2 hask hxs h9 hz hdig hg3
      go_enter Try.func19, Try.ntmps19
      go_wp2_with fail
      refine (woGood_any s w hs).mono ?_
      rintro e w1 ⟨rfl, rfl⟩
      rw [H1.out]
      go_wp2_with fail
      refine (ruTwo_is _ _ _).mono ?_
      rintro e w1 ⟨rfl, rfl⟩
      rw [H2.out]
      go_wp2_with fail
      refine (HR.out _).mono ?_
      rintro e w1 ⟨v, rfl, ⟨g, cap, rfl, _, hg, hc⟩, hb⟩
      have HB := Lib.hid hb; have HC := Lib.hid hc; clear hb hc
      rw [hl]
      clear hl
      go_wp2_with fail
      obtain ⟨N, hN⟩ : ∃ N, N = s.size := ⟨_, rfl⟩
      rw [← hN]
      have HN := Lib.hid hN; clear hN
      go_loopw [25] (fun i wr => ∃ (k : Nat), k ≤ N ∧ i = .int .i64 (k : Int) ∧ Hid (s.data.toList.take k = sgL (xs.take k) ∧ Below w1.heap.size w1 wr)) (fun i _ => N - (intOf i).toNat)
      case atStart => exact ⟨0, Nat.zero_le _, rfl, rfl, Below.refl _ _⟩
      case round =>
        obtain ⟨k, hk, rfl, HX⟩ := hrel
        by_cases hlt : k < N
        · have hks : k < s.size := by rw [← HN.out]; exact hlt
          have hlt' : k < xs.length := by rw [HLL.out]; exact hks
          have hcell := HC.out k hlt'
          obtain ⟨hd1, hd2⟩ := HDG.out k hks
          have hx9 := H9.out xs[k] (List.getElem_mem hlt')
          obtain ⟨x, hx⟩ : ∃ x, x = xs[k] := ⟨_, rfl⟩
          obtain ⟨c, hcc⟩ : ∃ c, c = s[k] := ⟨_, rfl⟩
          have hst : s.data.toList.take (k + 1) = s.data.toList.take k ++ [c] := by rw [hcc]; exact take_snoc s k hks
          have hsx : sgL (xs.take (k + 1)) = sgL (xs.take k) ++ [sgn x] := by
            rw [List.take_succ_eq_append_getElem hlt', hx]
            show (xs.take k ++ [xs[k]]).map sgn = _
            rw [List.map_append]; rfl
          rw [← hx] at hcell hx9
          have hcx : (c = sgn x) ↔ ((c.toNat : Int) - 48 = (x : Int)) := by
            constructor
            · intro e
              rw [e]; unfold sgn
              rw [UInt8.toNat_ofNat', Nat.mod_eq_of_lt (by omega)]; omega
            · intro e
              have : c.toNat = 48 + x := by rw [← hcc] at hd1; omega
              unfold sgn
              rw [← this]; exact UInt8.ofNat_toNat.symm
          rw [← hcc] at hd1 hd2
          have hcw : wr.cell? ⟨g, k, none⟩ = some (.int .i64 (x : Int)) := (HX.out.2.cell (p := ⟨g, k, none⟩) hg).trans hcell
          have HST := Lib.hid hst; have HSX := Lib.hid hsx; have HCX := Lib.hid hcx
          clear hst hsx hcx hx hcell
          by_cases hxc : c = sgn x
          · have hval : (((s[k].toNat : Nat) : Int) - 48) % 256 = (x : Int) := by
              have := HCX.out.1 hxc
              rw [hcc] at this; omega
            clear hcc
            go_wp2_with fail
            go_roundw
            case rel =>
              refine ⟨k + 1, by omega, by go_num, ?_, HX.out.2⟩
              rw [HST.out, HSX.out, HX.out.1, hxc]
            case measure => simp [intOf] <;> omega
          · have hval : ((((s[k].toNat : Nat) : Int) - 48) % 256 != (x : Int)) = true := by
              have h1 : ¬ ((c.toNat : Int) - 48 = (x : Int)) := fun e => hxc (HCX.out.2 e)
              have h3 : 49 ≤ (s[k]).toNat ∧ (s[k]).toNat ≤ 57 := by rw [← hcc]; exact ⟨hd1, hd2⟩
              rw [hcc] at h1
              rw [bne_iff_ne]; omega
            have hneq : decide (s.data.toList = sgL xs) = false := by
              apply decide_eq_false
              intro e
              have h2 : s.data.toList.take (k + 1) = sgL (xs.take (k + 1)) := by rw [e]; unfold sgL; rw [List.map_take]
              rw [HST.out, HSX.out, HX.out.1] at h2
              have := List.append_cancel_left h2
              exact hxc (by simpa using this)
            have HNQ := Lib.hid hneq
            clear hcc hneq
            go_wp2_with fail
            go_ret2
            exact ⟨by rw [HNQ.out]; rfl, HB.out.trans (HX.out.2.mono HB.out.size)⟩
        · obtain rfl : k = N := by omega
          have heq : decide (s.data.toList = sgL xs) = true := by
            apply decide_eq_true
            have h := HX.out.1
            rw [List.take_of_length_le (by rw [HN.out]; simp), List.take_of_length_le (by rw [HLL.out, HN.out]; exact Nat.le_refl _)] at h
            exact h
          have HEQ := Lib.hid heq; clear heq
          go_wp2_with fail
          go_ret2
          exact ⟨by rw [HEQ.out]; rfl, HB.out.trans (HX.out.2.mono HB.out.size)⟩
set_option maxHeartbeats 1000000 in
theorem implIsOwnBeginning_any (s : ByteArray) (a b : Int) (w : World) (hs : s.size ≤ maxLen) :
    Calls Try.prog 8 #[.string s, .int .i64 a, .int .i64 b] w fun e w' => e = .returned (.tuple #[.bool (begR s.data.toList a b), .bool (begB s.data.toList a b)]) ∧ Below w.heap.size w w' := by
  cases h1 : goodL s.data.toList with
  | false =>
    have E : begB s.data.toList a b = false := by unfold begB; rw [h1]; rfl
    have E2 : begR s.data.toList a b = false := by unfold begR; rw [E]; rfl
    rw [E, E2]
    have H1 := Lib.hid h1; clear h1 E E2
    go_enter Try.func8, Try.ntmps8
    go_wp2_with fail
    refine (implIsWord_any s w hs).mono ?_
    rintro e w1 ⟨rfl, rfl⟩
    rw [H1.out]
    go_wp2_with fail
    go_ret2
    exact ⟨rfl, Below.refl _ _⟩
  | true =>
    have hz : (s.data.toList.length : Int) = (s.size : Int) := by simp
    have HO := Lib.hid (fun (W : World) => ownBeginning_any a b (s.size : Int) 400 W (by omega))
    cases h2 : twoB a b with
    | false =>
      have E : begB s.data.toList a b = false := by unfold begB; rw [h1, h2]; rfl
      have E2 : begR s.data.toList a b = false := by unfold begR; rw [E]; rfl
      have E3 : ownO' a b (s.size : Int) 400 = none := by unfold ownO' askB; rw [h2]; rfl
      rw [E, E2]
      rw [E3] at HO
      simp only [strOk] at HO
      have H1 := Lib.hid h1; clear h1 h2 E E2 E3 hz
      go_enter Try.func8, Try.ntmps8
      go_wp2_with fail
      refine (implIsWord_any s w hs).mono ?_
      rintro e w1 ⟨rfl, rfl⟩
      rw [H1.out]
      go_wp2_with fail
      refine (HO.out _).mono ?_
      rintro e w1 ⟨rfl, hb⟩
      have HB := Lib.hid hb; clear hb
      go_wp2_with fail
      go_ret2
      exact ⟨rfl, HB.out⟩
    | true =>
      have hask := beg_ask h1 h2
      have E : begB s.data.toList a b = true := by unfold begB; rw [h1, h2]; rfl
      obtain ⟨xs, hxs⟩ : ∃ xs, xs = sgL (ownW a b (s.size : Int)) := ⟨_, rfl⟩
      have E2 : begR s.data.toList a b = decide (s.data.toList = xs) := by unfold begR; rw [E, hz, hxs]; rfl
      rw [hz] at hask
      have E3 : ownO' a b (s.size : Int) 400 = some xs := by unfold ownO'; rw [if_pos hask, hxs]
      rw [E, E2]
      rw [E3] at HO
      simp only [strOk] at HO
      have hdec : decide (s.data.toList = xs) = decide (bs xs = s) := by
        rw [decide_eq_decide]
        exact ⟨fun e => (bs_eq e).symm, fun e => by rw [← e, bs_list]⟩
      rw [hdec]
      have H1 := Lib.hid h1; clear h1 h2 E E2 E3 hz hask hxs hdec
      go_enter Try.func8, Try.ntmps8
      go_wp2_with fail
      refine (implIsWord_any s w hs).mono ?_
      rintro e w1 ⟨rfl, rfl⟩
      rw [H1.out]
      go_wp2_with fail
      refine (HO.out _).mono ?_
      rintro e w1 ⟨rfl, hb⟩
      have HB := Lib.hid hb; clear hb
      go_wp2_with fail
      go_ret2
      refine ⟨?_, HB.out⟩
      by_cases e : bs xs = s
      · simp [e]
      · have e2 : ¬ ((bs xs).toList = s.toList) := fun h => e (by
          rw [Go.Lib.toList_data, Go.Lib.toList_data] at h
          exact ByteArray.ext (Array.toList_inj.1 h))
        simp [e, e2]
end Go.Proofs.Ythbjaclobllkhaa
