/- OwnCount: the model's, the program's, the law. -/
import Derived.Shelf.Bytes.SlCountOne
import Derived.Test.YthbjaclobllkhaaO5
namespace Go.Proofs.Ythbjaclobllkhaa
open Go.RowKit Go.BigFrame Go.Shelf
set_option linter.unusedSimpArgs false
set_option linter.unusedVariables false
set_option maxRecDepth 4000

def ownCt (a b n d : Int) : Nat := (ownW a b n).count d.toNat
def ctB (a b d n : Int) : Bool := askB a b n 100000 && digOk d
theorem count_sg {xs : List Nat} (h : ∀ x ∈ xs, x ≤ 9) (d : Nat) (hd : d ≤ 9) : (sgL xs).count (sgn d) = xs.count d := by
  induction xs with
  | nil => rfl
  | cons x t ih =>
    have hx := h x (by simp)
    have e : sgL (x :: t) = sgn x :: sgL t := rfl
    rw [e, List.count_cons, List.count_cons, ih (fun y hy => h y (by simp [hy]))]
    congr 1
    have : (sgn x == sgn d) = (x == d) := by
      by_cases he : x = d
      · subst he; simp
      · have hne : sgn x ≠ sgn d := by
          intro e
          have := congrArg UInt8.toNat e
          unfold sgn at this
          simp at this; omega
        rw [beq_eq_false_iff_ne.2 hne, beq_eq_false_iff_ne.2 he]
    rw [this]
theorem countByte_is (l : List UInt8) (c : UInt8) : Go.Lib.countByte l c = l.count c := rfl

theorem enc_all : ((List.range 10).all fun D => decide (Utf8.encode (48 + (D : Int)) = bs [sgn D])) = true := by kernel_rfl

set_option maxHeartbeats 1000000 in
theorem specOwnCount_any (a b d n : Int) (w : World) :
    Calls Try.prog 17 #[.int .i64 a, .int .i64 b, .int .i64 d, .int .i64 n] w fun e w' => e = .returned (intOk (ctB a b d n) (ownCt a b n d)) ∧ Below w.heap.size w w' := by
  cases h1 : askB a b n 100000 with
  | false =>
    have E : ctB a b d n = false := by unfold ctB; rw [h1]; rfl
    rw [E]
    have H1 := Lib.hid h1; clear h1 E
    go_enter Try.func17, Try.ntmps17
    go_wp2_with fail
    refine (ruAsked_is _ _ _ _).mono ?_
    rintro e w1 ⟨rfl, rfl⟩
    rw [H1.out]
    go_wp2_with fail
    go_ret2
    exact ⟨rfl, Below.refl _ _⟩
  | true =>
    cases h2 : digOk d with
    | false =>
      have E : ctB a b d n = false := by unfold ctB; rw [h1, h2]; rfl
      rw [E]
      have H1 := Lib.hid h1; have H2 : Hid (decide (1 ≤ d ∧ d ≤ 9) = false) := h2
      clear h1 h2 E
      go_enter Try.func17, Try.ntmps17
      go_wp2_with fail
      refine (ruAsked_is _ _ _ _).mono ?_
      rintro e w1 ⟨rfl, rfl⟩
      rw [H1.out]
      go_wp2_with fail
      refine (l1In_is false _ _ _ _ H2.out).mono ?_
      rintro e w1 ⟨rfl, rfl⟩
      go_wp2_with fail
      go_ret2
      exact ⟨rfl, Below.refl _ _⟩
    | true =>
      have E : ctB a b d n = true := by unfold ctB; rw [h1, h2]; rfl
      rw [E]
      have HR := Lib.hid (fun (W : World) => ruOwn_ask a b n 100000 W h1 (by omega))
      have hd9 : 1 ≤ d ∧ d ≤ 9 := of_decide_eq_true h2
      have hl : (ownW a b n).length ≤ 100000 := by rw [ownW_len h1]; have := askB_iff.1 h1; omega
      unfold ownCt
      obtain ⟨D, rfl⟩ : ∃ D : Nat, d = (D : Int) := ⟨d.toNat, by omega⟩
      rw [Int.toNat_natCast]
      obtain ⟨xs, hxs⟩ : ∃ xs, xs = ownW a b n := ⟨_, rfl⟩
      rw [← hxs] at HR hl ⊢
      have H1 := Lib.hid h1; have H2 : Hid (decide (1 ≤ (D : Int) ∧ (D : Int) ≤ 9) = true) := h2
      clear h1 h2 E hxs
      go_enter Try.func17, Try.ntmps17
      go_wp2_with fail
      refine (ruAsked_is _ _ _ _).mono ?_
      rintro e w1 ⟨rfl, rfl⟩
      rw [H1.out]
      go_wp2_with fail
      refine (l1In_is true _ _ _ _ H2.out).mono ?_
      rintro e w1 ⟨rfl, rfl⟩
      go_wp2_with fail
      refine (HR.out _).mono ?_
      rintro e w1 ⟨v, rfl, ⟨g, cap, rfl, _, hg, hc⟩, hb⟩
      have HB := Lib.hid hb; have HC := Lib.hid hc; clear hb hc
      go_wp2_with fail
      obtain ⟨N, hN⟩ : ∃ N, N = xs.length := ⟨_, rfl⟩
      rw [← hN] at hl ⊢
      have HN := Lib.hid hN; clear hN
      go_loopw [10, 28] (fun o i wr => ∃ (k m : Nat), k ≤ N ∧ i = .int .i64 (k : Int) ∧ o = .int .i64 (m : Int) ∧ m ≤ k ∧ Hid (m = (xs.take k).count D ∧ Below w1.heap.size w1 wr)) (fun _ i _ => N - (intOf i).toNat)
      case atStart => exact ⟨0, 0, Nat.zero_le _, rfl, rfl, Nat.le_refl _, rfl, Below.refl _ _⟩
      case round =>
        obtain ⟨k, m, hk, rfl, rfl, hm, HX⟩ := hrel
        by_cases hlt : k < N
        · have hlt' : k < xs.length := by rw [← HN.out]; exact hlt
          have hcell := HC.out k hlt'
          have hcn : (xs.take (k + 1)).count D = (xs.take k).count D + if xs[k] = D then 1 else 0 := by
            rw [List.take_succ_eq_append_getElem hlt', List.count_append, List.count_singleton]
            simp
          obtain ⟨x, hx⟩ : ∃ x, x = xs[k] := ⟨_, rfl⟩
          rw [← hx] at hcell hcn
          have HCN := Lib.hid hcn
          have hcw : wr.cell? ⟨g, k, none⟩ = some (.int .i64 (x : Int)) := (HX.out.2.cell (p := ⟨g, k, none⟩) hg).trans hcell
          clear hx hcell hcn
          by_cases hxd : x = D
          · subst hxd
            go_wp2_with fail
            go_roundw
            case rel => exact ⟨k + 1, m + 1, by omega, by go_num, by go_num, by omega, by rw [HCN.out, if_pos rfl, HX.out.1], HX.out.2⟩
            case measure => simp [intOf] <;> omega
          · have hxd2 : ¬ ((x : Int) = (D : Int)) := by omega
            go_wp2_with fail
            go_roundw
            case rel => exact ⟨k + 1, m, by omega, by go_num, rfl, by omega, by rw [HCN.out, if_neg hxd, HX.out.1]; rfl, HX.out.2⟩
            case measure => simp [intOf] <;> omega
        · obtain rfl : k = N := by omega
          go_wp2_with fail
          go_ret2
          refine ⟨?_, HB.out.trans (HX.out.2.mono HB.out.size)⟩
          rw [HX.out.1, List.take_of_length_le (by rw [← HN.out]; exact Nat.le_refl _)]; rfl
set_option maxHeartbeats 1000000 in
theorem implOwnCount_any (a b d n : Int) (w : World) :
    Calls Try.prog 15 #[.int .i64 a, .int .i64 b, .int .i64 d, .int .i64 n] w fun e w' => e = .returned (intOk (ctB a b d n) (ownCt a b n d)) ∧ Below w.heap.size w w' := by
  cases h2 : digOk d with
  | false =>
    have E : ctB a b d n = false := by unfold ctB; rw [h2]; simp
    rw [E]
    have H2 := Lib.hid h2; clear h2 E
    go_enter Try.func15, Try.ntmps15
    go_wp2_with fail
    refine (isDigit_is false _ _ H2.out).mono ?_
    rintro e w1 ⟨rfl, rfl⟩
    go_wp2_with fail
    go_ret2
    exact ⟨rfl, Below.refl _ _⟩
  | true =>
    have hd9 : 1 ≤ d ∧ d ≤ 9 := of_decide_eq_true h2
    obtain ⟨D, rfl⟩ : ∃ D : Nat, d = (D : Int) := ⟨d.toNat, by omega⟩
    have HO := Lib.hid (fun (W : World) => ownBeginning_any a b n 100000 W (by omega))
    obtain ⟨s, y, hsy, hct⟩ : ∃ (s : List UInt8) (y : Bool), strOk (ownO' a b n 100000) = .tuple #[.string (bs s), .bool y] ∧ intOk (ctB a b (D : Int) n) (ownCt a b n (D : Int)) = .tuple #[.int .i64 ((s.count (sgn D) : Nat) : Int), .bool y] := by
      unfold ownO' ctB ownCt
      rw [h2, Bool.and_true, Int.toNat_natCast]
      cases h1 : askB a b n 100000 with
      | false => exact ⟨[], false, rfl, rfl⟩
      | true =>
        refine ⟨sgL (ownW a b n), true, rfl, ?_⟩
        rw [count_sg (fun x hx => (ownW_nine h1 x hx).2) D (by omega)]; rfl
    rw [hsy] at HO
    rw [hct]
    have H2 := Lib.hid h2; clear h2 hsy hct
    have hcon := fun (W : World) => Try.strings_Count_one (bs s) (sgn D) W
    rw [bs_list] at hcon
    have hone : (⟨#[sgn D]⟩ : ByteArray) = bs [sgn D] := rfl
    simp only [countByte_is] at hcon
    have HCON := Lib.hid hcon; clear hcon
    go_enter Try.func15, Try.ntmps15
    go_wp2_with fail
    refine (isDigit_is true _ _ H2.out).mono ?_
    rintro e w1 ⟨rfl, rfl⟩
    go_wp2_with fail
    refine (HO.out _).mono ?_
    rintro e w1 ⟨rfl, hb⟩
    have HB := Lib.hid hb; clear hb
    go_wp2_with (go_at_call 42; refine (signOf_is _ _ (by omega) (by omega)).mono ?_; rintro e w' ⟨rfl, rfl⟩)
    have henc : Utf8.encode (48 + (D : Int)) = ⟨#[sgn D]⟩ := of_decide_eq_true (List.all_eq_true.1 enc_all D (List.mem_range.2 (by omega)))
    rw [henc]
    refine (HCON.out _).mono ?_
    rintro e w2 ⟨rfl, rfl⟩
    go_wp2_with fail
    go_ret2
    exact ⟨rfl, HB.out⟩
end Go.Proofs.Ythbjaclobllkhaa
