/- OwnWord, OwnDigit: the model's, the program's, the laws. -/
import Derived.Test.YthbjaclobllkhaaO4
namespace Go.Proofs.Ythbjaclobllkhaa
open Go.RowKit Go.BigFrame Go.Shelf
set_option linter.unusedSimpArgs false
set_option linter.unusedVariables false
set_option maxRecDepth 4000

theorem sgL_num (x : Nat) (h : x ≤ 9) : numL x = [sgn x] := by rw [numL_one x (by omega)]; rfl
theorem ownW_nine {a b n most : Int} (h : askB a b n most = true) : ∀ x ∈ ownW a b n, 1 ≤ x ∧ x ≤ 9 := fun x hx => by
  obtain ⟨⟨h1, h2, _⟩, _⟩ := askB_iff.1 h
  rcases gOwn_mem a.toNat b.toNat n.toNat x hx with e | e <;> omega
theorem ownW_len {a b n most : Int} (h : askB a b n most = true) : (ownW a b n).length = n.toNat := by
  obtain ⟨⟨h1, h2, _⟩, _⟩ := askB_iff.1 h
  exact gOwn_len _ _ _ (by omega) (by omega)
theorem ruOwn_ask (a b n most : Int) (w : World) (h : askB a b n most = true) (hm : most ≤ 100000) :
    Calls Try.prog 30 #[.int .i64 a, .int .i64 b, .int .i64 n] w fun e w' => ∃ v, e = .returned v ∧ NumsAt w' w.heap.size v (ownW a b n) ∧ Below w.heap.size w w' := by
  obtain ⟨⟨h1, h2, _⟩, h3⟩ := askB_iff.1 h
  obtain ⟨A, rfl⟩ : ∃ A : Nat, a = (A : Int) := ⟨a.toNat, by omega⟩
  obtain ⟨B, rfl⟩ : ∃ B : Nat, b = (B : Int) := ⟨b.toNat, by omega⟩
  obtain ⟨N, rfl⟩ : ∃ N : Nat, n = (N : Int) := ⟨n.toNat, by omega⟩
  have := ruOwn_any A B N w (by omega) (by omega) (by omega) (by omega)
  simpa [ownW] using this

set_option maxHeartbeats 1000000 in
theorem specOwnWord_any (a b n : Int) (w : World) :
    Calls Try.prog 7 #[.int .i64 a, .int .i64 b, .int .i64 n] w fun e w' => e = .returned (strOk (ownO' a b n 400)) ∧ Below w.heap.size w w' := by
  cases h1 : twoB a b with
  | false =>
    have E : ownO' a b n 400 = none := by unfold ownO' askB; rw [h1]; rfl
    rw [E]
    have H1 := Lib.hid h1; clear h1 E
    go_enter Try.func7, Try.ntmps7
    go_wp2_with fail
    refine (ruTwo_is _ _ _).mono ?_
    rintro e w1 ⟨rfl, rfl⟩
    rw [H1.out]
    go_wp2_with fail
    go_ret2
    exact ⟨rfl, Below.refl _ _⟩
  | true =>
    cases h2 : decide (1 ≤ n ∧ n ≤ 400) with
    | false =>
      have E : ownO' a b n 400 = none := by unfold ownO' askB; rw [h1, h2]; rfl
      rw [E]
      have H1 := Lib.hid h1; have H2 := Lib.hid h2; clear h1 h2 E
      go_enter Try.func7, Try.ntmps7
      go_wp2_with fail
      refine (ruTwo_is _ _ _).mono ?_
      rintro e w1 ⟨rfl, rfl⟩
      rw [H1.out]
      go_wp2_with fail
      refine (l1In_is false _ _ _ _ H2.out).mono ?_
      rintro e w1 ⟨rfl, rfl⟩
      go_wp2_with fail
      go_ret2
      exact ⟨rfl, Below.refl _ _⟩
    | true =>
      have hask : askB a b n 400 = true := by unfold askB; rw [h1, h2]; rfl
      have E : ownO' a b n 400 = some (sgL (ownW a b n)) := by unfold ownO'; rw [if_pos hask]
      rw [E]
      have HR := Lib.hid (fun (W : World) => ruOwn_ask a b n 400 W hask (by omega))
      obtain ⟨xs, hxs⟩ : ∃ xs, xs = ownW a b n := ⟨_, rfl⟩
      have h9 : ∀ x ∈ xs, 1 ≤ x ∧ x ≤ 9 := by rw [hxs]; exact ownW_nine hask
      have hl : xs.length ≤ 400 := by rw [hxs, ownW_len hask]; have := askB_iff.1 hask; omega
      rw [← hxs] at HR ⊢
      have H1 := Lib.hid h1; have H2 := Lib.hid h2; have H9 := Lib.hid h9; clear h1 h2 E hask hxs h9
      go_enter Try.func7, Try.ntmps7
      go_wp2_with fail
      refine (ruTwo_is _ _ _).mono ?_
      rintro e w1 ⟨rfl, rfl⟩
      rw [H1.out]
      go_wp2_with fail
      refine (l1In_is true _ _ _ _ H2.out).mono ?_
      rintro e w1 ⟨rfl, rfl⟩
      go_wp2_with fail
      refine (HR.out _).mono ?_
      rintro e w1 ⟨v, rfl, ⟨g, cap, rfl, _, hg, hc⟩, hb⟩
      have HB := Lib.hid hb; have HC := Lib.hid hc; clear hb hc
      go_wp2_with fail
      obtain ⟨N, hN⟩ : ∃ N, N = xs.length := ⟨_, rfl⟩
      rw [← hN] at hl ⊢
      have HN := Lib.hid hN; clear hN
      go_loopw [8, 25] (fun o i wr => ∃ (k : Nat) (t : List UInt8), k ≤ N ∧ i = .int .i64 (k : Int) ∧ o = .string (bs t) ∧ t.length ≤ k ∧ Hid (t = sgL (xs.take k) ∧ Below w1.heap.size w1 wr)) (fun _ i _ => N - (intOf i).toNat)
      case atStart => exact ⟨0, [], Nat.zero_le _, rfl, rfl, by simp, rfl, Below.refl _ _⟩
      case round =>
        obtain ⟨k, t, hk, rfl, rfl, ht, HX⟩ := hrel
        by_cases hlt : k < N
        · have hlt' : k < xs.length := by rw [← HN.out]; exact hlt
          obtain ⟨x, hx⟩ : ∃ x, x = xs[k] := ⟨_, rfl⟩
          have hx9 := H9.out xs[k] (List.getElem_mem hlt')
          have hcell := HC.out k hlt'
          rw [← hx] at hx9 hcell
          have hcw : wr.cell? ⟨g, k, none⟩ = some (.int .i64 (x : Int)) := (HX.out.2.cell (p := ⟨g, k, none⟩) hg).trans hcell
          have hn1 := fun (W : World) => l1Num_any x (x : Int) W (by omega) (by omega) (by omega)
          rw [show ((x : Int)).toNat = x from by omega, sgL_num x hx9.2] at hn1
          have H1' := Lib.hid hn1; have HXX := Lib.hid hx
          have hbs1 : (bs t).size = t.length := bs_size _
          have hbs2 : (bs [sgn x]).size = 1 := bs_size _
          clear hn1 hx hcell
          go_wp2_with (go_at_call 31; refine (H1'.out _).mono ?_; rintro e w2 ⟨rfl, hb1⟩)
          go_roundw
          case rel =>
            refine ⟨k + 1, t ++ [sgn x], by omega, by go_num, by rw [bs_append], by simp; omega, ?_, below_trans HX.out.2 hb1⟩
            rw [List.take_succ_eq_append_getElem hlt', HX.out.1, HXX.out]
            show _ = (xs.take k ++ [xs[k]]).map sgn
            rw [List.map_append]; rfl
          case measure => simp [intOf] <;> omega
        · obtain rfl : k = N := by omega
          go_wp2_with fail
          go_ret2
          refine ⟨?_, HB.out.trans (HX.out.2.mono HB.out.size)⟩
          rw [HX.out.1, List.take_of_length_le (by rw [← HN.out]; exact Nat.le_refl _)]; rfl
theorem implOwnWord_any (a b n : Int) (w : World) :
    Calls Try.prog 6 #[.int .i64 a, .int .i64 b, .int .i64 n] w fun e w' => e = .returned (strOk (ownO' a b n 400)) ∧ Below w.heap.size w w' := by
  have hso : ∃ (x : ByteArray) (y : Bool), strOk (ownO' a b n 400) = .tuple #[.string x, .bool y] := by cases ownO' a b n 400 <;> exact ⟨_, _, rfl⟩
  obtain ⟨x, y, hxy⟩ := hso
  have HO := Lib.hid (fun (W : World) => ownBeginning_any a b n 400 W (by omega))
  rw [hxy] at HO ⊢
  clear hxy
  go_enter Try.func6, Try.ntmps6
  go_wp2_with fail
  refine (HO.out _).mono ?_
  rintro e w1 ⟨rfl, hb⟩
  have HB := Lib.hid hb; clear hb
  go_wp2_with fail
  go_ret2
  exact ⟨rfl, HB.out⟩
/-- The digit at the place that is asked. -/
def ownDg (a b n : Int) : Nat := (ownW a b n).getD (n.toNat - 1) 0
theorem specOwnDigit_any (a b n : Int) (w : World) :
    Calls Try.prog 12 #[.int .i64 a, .int .i64 b, .int .i64 n] w fun e w' => e = .returned (intOk (askB a b n 100000) (ownDg a b n)) ∧ Below w.heap.size w w' := by
  cases h1 : askB a b n 100000 with
  | false =>
    have H1 := Lib.hid h1; clear h1
    go_enter Try.func12, Try.ntmps12
    go_wp2_with fail
    refine (ruAsked_is _ _ _ _).mono ?_
    rintro e w1 ⟨rfl, rfl⟩
    rw [H1.out]
    go_wp2_with fail
    go_ret2
    exact ⟨rfl, Below.refl _ _⟩
  | true =>
    have HR := Lib.hid (fun (W : World) => ruOwn_ask a b n 100000 W h1 (by omega))
    have hn := (askB_iff.1 h1).2
    have hl := ownW_len h1
    obtain ⟨N, rfl⟩ : ∃ N : Nat, n = ((N + 1 : Nat) : Int) := ⟨n.toNat - 1, by omega⟩
    unfold ownDg
    rw [Int.toNat_natCast] at hl ⊢
    obtain ⟨xs, hxs⟩ : ∃ xs, xs = ownW a b ((N + 1 : Nat) : Int) := ⟨_, rfl⟩
    rw [← hxs] at HR hl ⊢
    have hsub : ((N + 1 : Nat) : Int) - 1 = (N : Int) := by omega
    have hlt : N < xs.length := by omega
    have hgd : xs.getD (N + 1 - 1) 0 = xs[N] := by rw [Nat.add_sub_cancel, List.getD_eq_getElem?_getD, List.getElem?_eq_getElem hlt]; rfl
    rw [hgd]
    have HR2 : Hid (∀ W : World, Calls Try.prog 30 #[.int .i64 a, .int .i64 b, .int .i64 ((N + 1 : Nat) : Int)] W fun e w' => ∃ g cap, e = .returned (.slice (some ⟨g, 0, none⟩) (N + 1) cap) ∧ w'.cell? ⟨g, N, none⟩ = some (.int .i64 (xs[N] : Int)) ∧ Below W.heap.size W w') := fun W => by
      refine (HR.out W).mono ?_
      rintro e w' ⟨v, rfl, ⟨g, cap, rfl, _, hg, hc⟩, hb⟩
      exact ⟨g, cap, by rw [hl], hc N hlt, hb⟩
    generalize xs[N] = x at *
    have H1 := Lib.hid h1; clear h1 hl hxs hgd hlt HR
    generalize hM : ((N + 1 : Nat) : Int) = M at *
    go_enter Try.func12, Try.ntmps12
    go_wp2_with fail
    refine (ruAsked_is _ _ _ _).mono ?_
    rintro e w1 ⟨rfl, rfl⟩
    rw [H1.out]
    go_wp2_with fail
    refine (HR2.out _).mono ?_
    rintro e w1 ⟨g, cap, rfl, hcell, hb⟩
    have HB := Lib.hid hb; clear hb
    go_wp2_with fail
    go_ret2
    exact ⟨rfl, HB.out⟩
theorem implOwnDigit_any (a b n : Int) (w : World) :
    Calls Try.prog 11 #[.int .i64 a, .int .i64 b, .int .i64 n] w fun e w' => e = .returned (intOk (askB a b n 100000) (ownDg a b n)) ∧ Below w.heap.size w w' := by
  have HO := Lib.hid (fun (W : World) => ownBeginning_any a b n 100000 W (by omega))
  unfold ownO' at HO
  cases h1 : askB a b n 100000 with
  | false =>
    rw [h1] at HO
    unfold strOk at HO
    clear h1
    go_enter Try.func11, Try.ntmps11
    go_wp2_with fail
    refine (HO.out _).mono ?_
    rintro e w1 ⟨rfl, hb⟩
    have HB := Lib.hid hb; clear hb
    go_wp2_with fail
    go_ret2
    exact ⟨rfl, HB.out⟩
  | true =>
    rw [h1, if_pos rfl] at HO
    simp only [strOk] at HO
    have hn := (askB_iff.1 h1).2
    have hl := ownW_len h1
    have h9 := ownW_nine h1
    obtain ⟨N, rfl⟩ : ∃ N : Nat, n = ((N + 1 : Nat) : Int) := ⟨n.toNat - 1, by omega⟩
    unfold ownDg
    rw [Int.toNat_natCast] at hl ⊢
    obtain ⟨xs, hxs⟩ : ∃ xs, xs = ownW a b ((N + 1 : Nat) : Int) := ⟨_, rfl⟩
    rw [← hxs] at HO hl h9 ⊢
    have hlt : N < xs.length := by omega
    have hgd : xs.getD (N + 1 - 1) 0 = xs[N] := by rw [Nat.add_sub_cancel, List.getD_eq_getElem?_getD, List.getElem?_eq_getElem hlt]; rfl
    rw [hgd]
    have hx9 := h9 xs[N] (List.getElem_mem hlt)
    obtain ⟨s, hs, hNs, hat⟩ : ∃ s : ByteArray, s = bs (sgL xs) ∧ ∃ h : N < s.size, (s[N]'h).toNat = 48 + xs[N] := by
      have hbsz : (bs (sgL xs)).size = N + 1 := by rw [bs_size]; simp [sgL, hl]
      refine ⟨_, rfl, by omega, ?_⟩
      have e : (bs (sgL xs))[N]'(by omega) = sgn xs[N] := by
        have : (bs (sgL xs)).data.toList[N]'(by rw [bs_list]; simp [sgL]; omega) = sgn xs[N] := by simp only [bs_list]; simp [sgL]
        exact this
      rw [e]; unfold sgn; simp; omega
    rw [← hs] at HO
    generalize xs[N] = x at *
    have hsub : ((N + 1 : Nat) : Int) - 1 = (N : Int) := by omega
    clear h1 hl h9 hxs hgd hlt hs
    generalize hM : ((N + 1 : Nat) : Int) = M at *
    go_enter Try.func11, Try.ntmps11
    go_wp2_with fail
    refine (HO.out _).mono ?_
    rintro e w1 ⟨rfl, hb⟩
    have HB := Lib.hid hb; clear hb
    go_wp2_with (go_at_call 37; refine (digitOf_is _ _ (by omega) (by omega)).mono ?_; rintro e w' ⟨rfl, rfl⟩)
    go_ret2
    refine ⟨?_, HB.out⟩
    unfold intOk
    rw [if_pos rfl]
    first | rfl | (congr 4; omega) | (simp; omega)
end Go.Proofs.Ythbjaclobllkhaa
