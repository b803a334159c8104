/- A map that holds a sequence by its places: read at any place, and gone on by one number. -/
import Derived.Test.YtakmmoplepghjaaA1
import Derived.Test.YtakmmoplepghjaaG1
import Derived.Maps.OwnOps
import Derived.Maps.OwnSet
import Derived.Maps.RangeWalk
namespace Go.Proofs.Ytakmmoplepghjaa
open Go.RowKit Go.BigFrame Go.Maps
set_option linter.unusedSimpArgs false
set_option linter.unusedVariables false
set_option maxRecDepth 4000

theorem lawI : Keyed Try.prog 3 := int_keyed Try.underlying3
theorem zeroI (w : World) : (zeroValue 3).run Try.prog w = .ok (.int .i64 0) w := by kernel_rfl
abbrev kI (i : Int) : Lit := .int .i64 i
theorem keyI (i : Int) : WideAt.IsKeyLit (kI i) := trivial
abbrev zI : DataW Unit := .lit (.int .i64 0)
abbrev OwnI (w : World) (b n : Nat) (D : DataW Unit) : Prop := w.ownsMap Try.prog 3 (plainElem Try.prog 3) b n D

theorem kI_ne {i j : Int} (h : i ≠ j) : kI i ≠ kI j := fun e => h (by injection e)
theorem wfI {i : Int} (h0 : -1000000000000 ≤ i) (h : i ≤ 1000000000000) : (Lit.int .i64 i).wf = true := WalkArith.wf_i64 (by omega)

/-- The map holds k numbers, from the place `first` on. -/
structure SeqD (D : DataW Unit) (first k : Nat) (f : Nat → Nat) : Prop where
  tidy : Tidy D
  keys : ∀ i : Int, Maps.has D (kI i) = decide ((first : Int) ≤ i ∧ i < (first : Int) + (k : Int))
  at_ : ∀ i : Nat, first ≤ i → i < first + k → D.atKey (kI i) zI = .lit (.int .i64 (f i : Nat))
  size : Maps.size D = k

theorem seqD_empty (first : Nat) (f : Nat → Nat) : SeqD (.map []) first 0 f :=
  ⟨tidy_empty, fun i => by rw [has_eq]; simp, fun i h1 h2 => by omega, rfl⟩

theorem SeqD.look {D : DataW Unit} {first k : Nat} {f : Nat → Nat} (h : SeqD D first k f) (i : Int) (h0 : 0 ≤ i) :
    D.atKey (kI i) zI = .lit (.int .i64 ((if first ≤ i.toNat ∧ i.toNat < first + k then f i.toNat else 0 : Nat) : Int)) := by
  by_cases hc : first ≤ i.toNat ∧ i.toNat < first + k
  · rw [if_pos hc, ← h.at_ i.toNat hc.1 hc.2, Int.toNat_of_nonneg h0]
  · rw [if_neg hc]
    exact atKey_of_not_has (by rw [h.keys]; simp; omega) _

theorem SeqD.put {D : DataW Unit} {first k : Nat} {f : Nat → Nat} (h : SeqD D first k f) (x : Int) (hx : x = (f (first + k) : Nat)) :
    SeqD (D.put (kI ((first : Int) + (k : Int))) (.lit (.int .i64 x))) first (k + 1) f := by
  have hno : Maps.has D (kI ((first : Int) + (k : Int))) = false := by rw [h.keys]; simp
  refine ⟨h.tidy.put (keyI _) _, fun i => ?_, fun i h1 h2 => ?_, ?_⟩
  · by_cases e : i = (first : Int) + (k : Int)
    · subst e
      rw [has_put_same h.tidy.isMap (keyI _)]
      simp; omega
    · rw [has_put_other (kI_ne e), h.keys, Bool.eq_iff_iff]
      simp; omega
  · by_cases e : i = first + k
    · subst e
      have := atKey_put_same h.tidy.isMap (k := kI ((first : Int) + (k : Int))) (keyI _) (.lit (.int .i64 x)) zI
      rw [hx] at this ⊢
      rw [show kI ((first + k : Nat) : Int) = kI ((first : Int) + (k : Int)) from by simp]
      exact this
    · rw [atKey_put_other (kI_ne (by omega))]
      exact h.at_ i h1 (by omega)
  · rw [size_put h.tidy, hno, if_neg (by simp), h.size]

theorem run_makeMap_hint {P : Program} (t : TypeId) {k e : TypeId} (ht : P.underlying t = some (.map k e)) (q : IntKind) (n : Int) (w : World) :
    (Instr.makeMap t (some (.int q n))).run P w = .ok (.map (some w.heap.size)) (w.alloc (.map #[] 0)) := by
  simp [Instr.makeMap, run_underlying ht, asInt, asIntOf, Result.andThen]

theorem SeqD.at_eq {D : DataW Unit} {first k : Nat} {f : Nat → Nat} (h : SeqD D first k f) {i c : Int} (hat : D.atKey (kI i) zI = .lit (.int .i64 c)) (m : Nat) (hi : i = m) (hm : first ≤ m) (hm2 : m < first + k) : c = (f m : Nat) := by
  subst hi
  rw [h.at_ m hm hm2] at hat
  injection hat with e
  injection e with _ e2
  exact e2.symm

set_option maxHeartbeats 1000000 in
theorem golomb_any (w : World) (b n k : Nat) (D : DataW Unit) (hown : OwnI w b n D) (hD : SeqD D 1 k gol) (hk : k + 1 ≤ 3000) :
    Calls Try.prog 56 #[.map (some b), .int .i64 ((k : Int) + 1)] w fun e w' => e = .returned (.int .i64 (gol (k + 1) : Nat)) ∧ w = w' := by
  have HO := Lib.hid hown; have HD := Lib.hid hD
  by_cases h0 : k = 0
  · subst h0
    go_enter Try.func56, Try.ntmps56
    go_wp2
    go_ret
    exact ⟨by rw [gol_two.2.1]; rfl, rfl⟩
  · have h1 := gol_le k (by omega)
    have h1p := gol_pos k (by omega) (by omega)
    have h2 := gol_le (gol k) (by omega)
    have h2p := gol_pos (gol k) (by omega) (by omega)
    have hr := gol_rec (k + 1) (by omega) (by omega)
    have h3 := gol_le (k + 1 - gol (gol k)) (by omega)
    rw [Nat.add_sub_cancel] at hr
    obtain ⟨x, hx⟩ : ∃ x, x = gol k := ⟨_, rfl⟩
    obtain ⟨y, hy⟩ : ∃ y, y = gol (gol k) := ⟨_, rfl⟩
    obtain ⟨z, hz⟩ : ∃ z, z = gol (k + 1 - gol (gol k)) := ⟨_, rfl⟩
    rw [← hy] at h2 h2p h3 hr hz
    rw [← hz] at h3 hr
    rw [← hx] at h1 h1p h2 hy
    have HX := Lib.hid hx; have HY := Lib.hid hy; have HZ := Lib.hid hz; have HR := Lib.hid hr
    clear hx hy hz hr hown hD
    go_enter Try.func56, Try.ntmps56
    go_wp2_with (at_lookup; refine wpList_lookup_own_int _ rfl _ _ 43 rfl 3 3 .i64 lawI Try.underlying43 Try.underlying3 (zeroI _) b n _ rfl HO.out _ _ rfl (keyOf_int_mk Try.underlying3 (wfI (by omega) (by omega))) ?_; intro c hat hwc; (first
      | (obtain rfl := (HD.out.at_eq hat k rfl (by omega) (by omega)).trans (by rw [← HX.out]); clear hat hwc)
      | (obtain rfl := (HD.out.at_eq hat x rfl (by omega) (by omega)).trans (by rw [← HY.out]); clear hat hwc)
      | (obtain rfl := (HD.out.at_eq hat (k + 1 - y) (by omega) (by omega) (by omega)).trans (by rw [← HZ.out]); clear hat hwc)))
    go_ret
    exact ⟨by rw [HR.out]; simp, rfl⟩
end Go.Proofs.Ytakmmoplepghjaa
