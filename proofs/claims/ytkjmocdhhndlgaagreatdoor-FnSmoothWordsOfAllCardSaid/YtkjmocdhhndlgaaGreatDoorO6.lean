/- OwnCount: the model's, the program's, the law. -/
import Derived.Shelf.Bytes.SlCountOne
import Derived.Test.YtkjmocdhhndlgaaGreatDoorO5
namespace Go.Proofs.YtkjmocdhhndlgaaGreatDoor
open Go.RowKit Go.BigFrame Go.Shelf
set_option linter.unusedSimpArgs false
set_option linter.unusedVariables false
set_option maxRecDepth 4000

def ownCt (a b n d : Int) : Nat := (ownW a b n).count d.toNat
def ctB (a b d n : Int) : Bool := askB a b n 100000 && digOk d
theorem count_sg {xs : List Nat} (h : ∀ x ∈ xs, x ≤ 9) (d : Nat) (hd : d ≤ 9) : (sgL xs).count (sgn d) = xs.count d := by
  induction xs with
  | nil => rfl
  | cons x t ih =>
    have hx := h x (by simp)
    have e : sgL (x :: t) = sgn x :: sgL t := rfl
    rw [e, List.count_cons, List.count_cons, ih (fun y hy => h y (by simp [hy]))]
    congr 1
    have : (sgn x == sgn d) = (x == d) := by
      by_cases he : x = d
      · subst he; simp
      · have hne : sgn x ≠ sgn d := by
          intro e
          have := congrArg UInt8.toNat e
          unfold sgn at this
          simp at this; omega
        rw [beq_eq_false_iff_ne.2 hne, beq_eq_false_iff_ne.2 he]
    rw [this]
theorem countByte_is (l : List UInt8) (c : UInt8) : Go.Lib.countByte l c = l.count c := rfl

theorem enc_all : ((List.range 10).all fun D => decide (Utf8.encode (48 + (D : Int)) = bs [sgn D])) = true := by kernel_rfl

set_option maxHeartbeats 1000000 in
theorem implOwnCount_any (a b d n : Int) (w : World) :
    Calls Tryz.prog 27 #[.int .i64 a, .int .i64 b, .int .i64 d, .int .i64 n] w fun e w' => e = .returned (intOk (ctB a b d n) (ownCt a b n d)) ∧ Below w.heap.size w w' := by
  cases h2 : digOk d with
  | false =>
    have E : ctB a b d n = false := by unfold ctB; rw [h2]; simp
    rw [E]
    have H2 := Lib.hid h2; clear h2 E
    go_enter Tryz.func27, Tryz.ntmps27
    go_wp2_with fail
    refine (isDigit_is false _ _ H2.out).mono ?_
    rintro e w1 ⟨rfl, rfl⟩
    go_wp2_with fail
    go_ret2
    exact ⟨rfl, Below.refl _ _⟩
  | true =>
    have hd9 : 1 ≤ d ∧ d ≤ 9 := of_decide_eq_true h2
    obtain ⟨D, rfl⟩ : ∃ D : Nat, d = (D : Int) := ⟨d.toNat, by omega⟩
    have HO := Lib.hid (fun (W : World) => ownBeginning_any a b n 100000 W (by omega))
    obtain ⟨s, y, hsy, hct⟩ : ∃ (s : List UInt8) (y : Bool), strOk (ownO' a b n 100000) = .tuple #[.string (bs s), .bool y] ∧ intOk (ctB a b (D : Int) n) (ownCt a b n (D : Int)) = .tuple #[.int .i64 ((s.count (sgn D) : Nat) : Int), .bool y] := by
      unfold ownO' ctB ownCt
      rw [h2, Bool.and_true, Int.toNat_natCast]
      cases h1 : askB a b n 100000 with
      | false => exact ⟨[], false, rfl, rfl⟩
      | true =>
        refine ⟨sgL (ownW a b n), true, rfl, ?_⟩
        rw [count_sg (fun x hx => (ownW_nine h1 x hx).2) D (by omega)]; rfl
    rw [hsy] at HO
    rw [hct]
    have H2 := Lib.hid h2; clear h2 hsy hct
    have hcon := fun (W : World) => Tryz.strings_Count_one (bs s) (sgn D) W
    rw [bs_list] at hcon
    have hone : (⟨#[sgn D]⟩ : ByteArray) = bs [sgn D] := rfl
    simp only [countByte_is] at hcon
    have HCON := Lib.hid hcon; clear hcon
    go_enter Tryz.func27, Tryz.ntmps27
    go_wp2_with fail
    refine (isDigit_is true _ _ H2.out).mono ?_
    rintro e w1 ⟨rfl, rfl⟩
    go_wp2_with fail
    refine (HO.out _).mono ?_
    rintro e w1 ⟨rfl, hb⟩
    have HB := Lib.hid hb; clear hb
    go_wp2_with (go_at_call 63; refine (signOf_is _ _ (by omega) (by omega)).mono ?_; rintro e w' ⟨rfl, rfl⟩)
    have henc : Utf8.encode (48 + (D : Int)) = ⟨#[sgn D]⟩ := of_decide_eq_true (List.all_eq_true.1 enc_all D (List.mem_range.2 (by omega)))
    rw [henc]
    refine (HCON.out _).mono ?_
    rintro e w2 ⟨rfl, rfl⟩
    go_wp2_with fail
    go_ret2
    exact ⟨rfl, HB.out⟩
end Go.Proofs.YtkjmocdhhndlgaaGreatDoor
