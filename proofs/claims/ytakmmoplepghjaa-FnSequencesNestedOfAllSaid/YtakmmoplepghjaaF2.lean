/- A map that holds the figures ahead of the step; the program's next step. -/
import Derived.Test.YtakmmoplepghjaaA1
import Derived.Test.YtakmmoplepghjaaF1
import Derived.Maps.OwnOps
import Derived.Maps.OwnSet
import Derived.WalkSpells
import Derived.RegionTactic
import Derived.BigRegion
import Derived.BigQuiet
import Derived.Deep.QuietTactic
import Derived.Deep.RegionWith
namespace Go.Proofs.Ytakmmoplepghjaa
open Go.RowKit Go.BigFrame Go.Maps
set_option linter.unusedSimpArgs false
set_option linter.unusedVariables false
set_option maxRecDepth 4000

theorem lawF : Keyed Try.prog 3 := int_keyed Try.underlying3
theorem zeroB (w : World) : (zeroValue 4).run Try.prog w = .ok (.bool false) w := by kernel_rfl
abbrev kF (i : Int) : Lit := .int .i64 i
theorem keyF (i : Int) : WideAt.IsKeyLit (kF i) := trivial
abbrev bL (b : Bool) : DataW Unit := .lit (.bool b)
abbrev OwnB (w : World) (b n : Nat) (D : DataW Unit) : Prop := w.ownsMap Try.prog 3 (plainElem Try.prog 4) b n D
theorem kF_ne {i j : Int} (h : i ≠ j) : kF i ≠ kF j := fun e => h (by injection e)
theorem wfF {i : Int} (h0 : -1000000000000 ≤ i) (h : i ≤ 1000000000000) : (Lit.int .i64 i).wf = true := WalkArith.wf_i64 (by omega)

theorem plainElem_bool_inv {H : Type} {P : Program} {e : TypeId} (he : P.underlying e = some .bool) {v : Value} {z : DataW H × List MemPlace} (h : plainElem P e v = some z) : ∃ x, v = .bool x ∧ z = (.lit (.bool x), []) := by
  unfold plainElem at h
  rw [he] at h
  cases v <;> simp at h
  exact ⟨_, rfl, h.symm⟩

/-- A look-up in a map of bools that the call owns. -/
theorem look_bool {w : World} {b n : Nat} {D : DataW Unit} (h : OwnB w b n D) {i : Int} (hw : (Lit.int .i64 i).wf = true) :
    ∃ x, (Instr.lookup 57 (.map (some b)) (.int .i64 i) false).run Try.prog w = .ok (.bool x) w ∧ D.atKey (kF i) (bL false) = bL x := by
  obtain ⟨v, ps, hrun, hv⟩ := h.lookup lawF Try.underlying57 (zeroB w) (plainElem_bool Try.underlying4 false) (keyOf_int_mk Try.underlying3 hw)
  obtain ⟨x, rfl, e⟩ := plainElem_bool_inv Try.underlying4 hv
  simp only [Prod.mk.injEq] at e
  exact ⟨x, hrun, e.1⟩

/-- The map holds just the figures ahead, after k steps. -/
structure AhD (D : DataW Unit) (P : Nat → Prop) : Prop where
  tidy : Tidy D
  keys : ∀ i : Int, Maps.has D (kF i) = true ↔ ∃ m : Nat, i = m ∧ P m
  at_ : ∀ i : Int, Maps.has D (kF i) = true → D.atKey (kF i) (bL false) = bL true

theorem AhD.look {D : DataW Unit} {P : Nat → Prop} (h : AhD D P) {m : Nat} {x : Bool} (hat : D.atKey (kF m) (bL false) = bL x) : x = true ↔ P m := by
  cases hh : Maps.has D (kF m) with
  | true =>
    have h1 := h.at_ _ hh
    rw [hat] at h1
    have hx : x = true := by injection h1 with h1; injection h1
    obtain ⟨m', e, hp⟩ := (h.keys m).1 hh
    have : m = m' := by omega
    subst this
    simp [hx, hp]
  | false =>
    have h1 := atKey_of_not_has hh (bL false)
    rw [hat] at h1
    have hx : x = false := by injection h1 with h1; injection h1
    have hp : ¬ P m := fun hp => by have := (h.keys m).2 ⟨m, rfl, hp⟩; rw [hh] at this; cases this
    simp [hx, hp]
theorem AhD.put {D : DataW Unit} {P : Nat → Prop} (h : AhD D P) (m : Nat) : AhD (D.put (kF m) (bL true)) (fun x => x = m ∨ P x) := by
  refine ⟨h.tidy.put (keyF _) _, fun i => ?_, fun i hi => ?_⟩
  · by_cases e : i = (m : Int)
    · subst e
      rw [has_put_same h.tidy.isMap (keyF _)]
      exact ⟨fun _ => ⟨m, rfl, .inl rfl⟩, fun _ => rfl⟩
    · rw [has_put_other (kF_ne e), h.keys]
      constructor
      · rintro ⟨j, e2, hp⟩; exact ⟨j, e2, .inr hp⟩
      · rintro ⟨j, e2, rfl | hp⟩
        · exact absurd e2 e
        · exact ⟨j, e2, hp⟩
  · by_cases e : i = (m : Int)
    · subst e
      exact atKey_put_same h.tidy.isMap (keyF _) _ _
    · rw [has_put_other (kF_ne e)] at hi
      rw [atKey_put_other (kF_ne e)]
      exact h.at_ i hi
theorem AhD.del {D : DataW Unit} {P : Nat → Prop} (h : AhD D P) (m : Nat) : AhD (D.del (kF m)) (fun x => x ≠ m ∧ P x) := by
  refine ⟨h.tidy.del _, fun i => ?_, fun i hi => ?_⟩
  · by_cases e : i = (m : Int)
    · subst e
      rw [has_del_same]
      constructor
      · intro h; cases h
      · rintro ⟨j, e, hne, _⟩; exact absurd (by omega) hne
    · rw [has_del_other (kF_ne e), h.keys]
      constructor
      · rintro ⟨j, e2, hp⟩; exact ⟨j, e2, fun e3 => e (by rw [e2, e3]), hp⟩
      · rintro ⟨j, e2, _, hp⟩; exact ⟨j, e2, hp⟩
  · by_cases e : i = (m : Int)
    · subst e
      rw [has_del_same] at hi; cases hi
    · rw [has_del_other (kF_ne e)] at hi
      rw [atKey_del_other (kF_ne e)]
      exact h.at_ i hi
theorem AhD.same {D : DataW Unit} {P Q : Nat → Prop} (h : AhD D P) (hpq : ∀ x, P x ↔ Q x) : AhD D Q :=
  ⟨h.tidy, fun i => by rw [h.keys]; constructor <;> (rintro ⟨m, e, hp⟩; exact ⟨m, e, by first | exact (hpq m).1 hp | exact (hpq m).2 hp⟩), h.at_⟩

theorem ahd_fin {k t : Nat} {P : Nat → Prop} (h : (t = stp k + 1 ∧ P = ahd k) ∨ (t = stp k + 2 ∧ ahd k (stp k + 1) ∧ P = fun x => x ≠ stp k + 1 ∧ ahd k x)) (hn : ¬ P t) : stp (k + 1) = t ∧ ∀ x, (x = fig (k + 1) ∨ P x) ↔ ahd (k + 1) x := by
  rcases h with ⟨rfl, rfl⟩ | ⟨rfl, hh, rfl⟩
  · have e := ahd_miss hn
    refine ⟨e, fun x => ?_⟩
    rw [ahd_next, e]
    constructor
    · rintro (rfl | h)
      · exact .inl rfl
      · refine .inr ⟨h, ?_⟩
        have h1 := h.1
        have : x ≠ stp k + 1 := fun e => hn (e ▸ h)
        omega
    · rintro (rfl | ⟨h, _⟩)
      · exact .inl rfl
      · exact .inr h
  · obtain ⟨e, hno⟩ := ahd_hit hh
    refine ⟨e, fun x => ?_⟩
    rw [ahd_next, e]
    constructor
    · rintro (rfl | ⟨h1, h⟩)
      · exact .inl rfl
      · refine .inr ⟨h, ?_⟩
        have h2 := h.1
        have : x ≠ stp k + 2 := fun e => hno (e ▸ h)
        omega
    · rintro (rfl | ⟨h, h3⟩)
      · exact .inl rfl
      · exact .inr ⟨by omega, h⟩

/-- The struct behind the pointer: figure, step, and the map of the figures ahead. -/
def CAt (w : World) (B tp mb n : Nat) (D : DataW Unit) (fg st : Nat) : Prop :=
  OwnB w mb n D ∧ (B ≤ tp ∧ B ≤ mb ∧ tp ≠ mb ∧ tp < w.heap.size) ∧ w.cell? ⟨tp, 0, none⟩ = some (.int .i64 (fg : Nat)) ∧ w.cell? ⟨tp, 1, none⟩ = some (.int .i64 (st : Nat)) ∧ w.cell? ⟨tp, 2, none⟩ = some (.map (some mb)) ∧ (∀ i, w.frozen? ⟨tp, i, none⟩ = false)
theorem CAt.turn {w w' : World} {B tp mb n n' : Nat} {D D' : DataW Unit} {fg st : Nat} (h : CAt w B tp mb n D fg st) (hg : w.grownBy w' (some mb)) (ho : OwnB w' mb n' D') : CAt w' B tp mb n' D' fg st := by
  obtain ⟨_, ⟨h1, h2, h3, h4⟩, c0, c1, c2, hf⟩ := h
  have hb : w'.heap[tp]? = w.heap[tp]? := hg.block tp h4 (fun e => h3 (Option.some.inj e))
  have hc : ∀ i, w'.cell? ⟨tp, i, none⟩ = w.cell? ⟨tp, i, none⟩ := fun i => by simp only [World.cell?, hb]
  have hz : ∀ i, w'.frozen? ⟨tp, i, none⟩ = w.frozen? ⟨tp, i, none⟩ := fun i => by simp only [World.frozen?, hb]
  exact ⟨ho, ⟨h1, h2, h3, Nat.lt_of_lt_of_le h4 hg.size⟩, by rw [hc]; exact c0, by rw [hc]; exact c1, by rw [hc]; exact c2, fun i => by rw [hz]; exact hf i⟩
theorem CAt.step {w : World} {B tp mb n : Nat} {D : DataW Unit} {fg st : Nat} (h : CAt w B tp mb n D fg st) (st' : Nat) : CAt (w.setCell ⟨tp, 1, none⟩ (.int .i64 (st' : Nat))) B tp mb n D fg st' := by
  obtain ⟨h0, ⟨h1, h2, h3, h4⟩, c0, c1, c2, hf⟩ := h
  exact ⟨h0.setCell (fun e => h3 e.symm) _, ⟨h1, h2, h3, by simpa using h4⟩, by rw [World.cell?_setCell_other w ⟨tp, 1, none⟩ ⟨tp, 0, none⟩ _ (by simp)]; exact c0, World.cell?_setCell_same _ _ _ c1, by rw [World.cell?_setCell_other w ⟨tp, 1, none⟩ ⟨tp, 2, none⟩ _ (by simp)]; exact c2, fun i => by rw [World.frozen?_setCell]; exact hf i⟩
theorem CAt.figure {w : World} {B tp mb n : Nat} {D : DataW Unit} {fg st : Nat} (h : CAt w B tp mb n D fg st) (fg' : Nat) : CAt (w.setCell ⟨tp, 0, none⟩ (.int .i64 (fg' : Nat))) B tp mb n D fg' st := by
  obtain ⟨h0, ⟨h1, h2, h3, h4⟩, c0, c1, c2, hf⟩ := h
  exact ⟨h0.setCell (fun e => h3 e.symm) _, ⟨h1, h2, h3, by simpa using h4⟩, World.cell?_setCell_same _ _ _ c0, by rw [World.cell?_setCell_other w ⟨tp, 0, none⟩ ⟨tp, 1, none⟩ _ (by simp)]; exact c1, by rw [World.cell?_setCell_other w ⟨tp, 0, none⟩ ⟨tp, 2, none⟩ _ (by simp)]; exact c2, fun i => by rw [World.frozen?_setCell]; exact hf i⟩

def ClimbAt (w : World) (B tp mb k : Nat) : Prop := ∃ n D, n ≤ k + 1 ∧ AhD D (ahd k) ∧ CAt w B tp mb n D (fig k) (stp k)

set_option maxHeartbeats 1000000 in
theorem next_any (w : World) (B tp mb k : Nat) (h : ClimbAt w B tp mb k) (hk : k ≤ 1000) (hB : B ≤ w.heap.size) :
    Calls Try.prog 77 #[.pointer (some ⟨tp, 0, none⟩)] w fun e w' => e = .returned (.tuple #[]) ∧ ClimbAt w' B tp mb (k + 1) ∧ Below B w w' := by
  obtain ⟨n, D, hn, hA, hC⟩ := h
  have hs9 := (stp_ge k).2.1
  have hf9 := fig_le6 (k := k) (by omega)
  have hup := stp_up k
  have HA := Lib.hid hA; have HC := Lib.hid hC
  obtain ⟨_, ⟨hb1, hb2, hb3, hb4⟩, c0, c1, c2, hf⟩ := hC
  have hf1 := hf 1
  obtain ⟨s, hs⟩ : ∃ s, s = stp k := ⟨_, rfl⟩
  rw [← hs] at hs9 hup c1 HC
  have HS := Lib.hid hs
  clear hA hf hs
  go_enter Try.func77, Try.ntmps77
  go_wp2_with fail
  go_loopw [17] (fun _ wr => ∃ (t m : Nat) (E : DataW Unit) (P : Nat → Prop), (t = s + 1 ∨ t = s + 2) ∧ m ≤ n ∧ Hid (AhD E P ∧ ((t = s + 1 ∧ P = ahd k) ∨ (t = s + 2 ∧ ahd k (s + 1) ∧ P = fun x => x ≠ s + 1 ∧ ahd k x)) ∧ CAt wr B tp mb m E (fig k) t ∧ Below B w wr)) (fun _ wr => s + 3 - (intOf ((wr.cell? ⟨tp, 1, none⟩).getD undef)).toNat)
  case atStart => exact ⟨s + 1, n, D, ahd k, .inl rfl, Nat.le_refl _, HA.out, .inl ⟨rfl, rfl⟩, HC.out.step (s + 1), (Below.refl _ _).setCell hb1 _⟩
  case round =>
    obtain ⟨t, m, E, P, ht, hm, HH⟩ := hrel
    obtain ⟨hA, hP, ⟨hO, ⟨_, _, _, d4⟩, d0, d1, d2, df⟩, hbw⟩ := HH.out
    obtain ⟨x, hrun, hat⟩ := look_bool hO.drew (i := t) (wfF (by omega) (by omega))
    have hxP := hA.look hat
    have g1 := df 1
    have HP := Lib.hid hP; have HO := Lib.hid hO; have HD := Lib.hid (show CAt wr B tp mb m E (fig k) t from HH.out.2.2.1)
    have HEA := Lib.hid hA
    have g0 := df 0
    clear hO hat df hA hP
    cases x with
    | true =>
      have hPt := hxP.1 rfl
      have ht1 : t = s + 1 ∧ ahd k (s + 1) ∧ P = ahd k := by
        rcases HP.out with ⟨h1, h2⟩ | ⟨h1, h2, h3⟩
        · subst h2; rw [h1] at hPt; exact ⟨h1, hPt, rfl⟩
        · rw [h3, h1, HS.out] at hPt
          rw [HS.out] at h2
          exact absurd hPt.2 (ahd_hit h2).2
      obtain ⟨ht1, hhit, rfl⟩ := ht1
      have HHIT := Lib.hid hhit
      have HT := Lib.hid ht1
      obtain ⟨w2, hdel, hown2, hturn⟩ := HO.out.drew.drew.drop lawF Try.underlying57 (keyOf_int_mk Try.underlying3 (wfF (i := (t : Int)) (by omega) (by omega))) 0
      have hC2 : CAt w2 B tp mb m _ (fig k) t := CAt.turn (w := wr.drew.drew) HD.out hturn.grown hown2
      have HC2 := Lib.hid hC2
      obtain ⟨_, ⟨_, _, _, f4⟩, f0, f1, f2, ff⟩ := hC2
      have k1 := ff 1
      have HB2 := Lib.hid (hbw.drew.drew.grown hturn.grown (Nat.le_trans hB hbw.size) (fun j hj => by cases hj; exact hb2))
      have HEA2 := Lib.hid (HEA.out.del t)
      clear hxP hPt hhit hown2 hturn ff ht1
      go_wp2_with fail
      go_region
      go_wp2_with fail
      go_region
      go_wp2_with fail
      go_roundw
      case rel =>
        have e1 : t + 1 = s + 2 := by rw [HT.out]
        refine ⟨t + 1, m, E.del (kF (t : Int)), (fun x => x ≠ s + 1 ∧ ahd k x), .inr e1, hm, ?_⟩
        refine Lib.hid ⟨?_, .inr ⟨e1, HHIT.out, rfl⟩, HC2.out.step (t + 1), HB2.out.setCell hb1 _⟩
        have := HEA2.out
        rw [HT.out] at this ⊢
        exact this
      case measure =>
        have := HT.out
        rw [d1]
        simp [go_sem, f1, intOf]
        omega
    | false =>
      have hPt : ¬ P t := fun h => by have := hxP.2 h; cases this
      have hPP := HP.out
      rw [HS.out] at hPP
      obtain ⟨hst, hfin⟩ := ahd_fin hPP hPt
      have hown5 := HO.out.setCell (a := ⟨tp, 0, none⟩) (fun e => hb3 e.symm) (.int .i64 ((fig k : Int) + (t : Int)))
      obtain ⟨w5, hupd, hown6, hgr6⟩ := World.ownsMap.update (w := ((wr.setCell ⟨tp, 0, none⟩ (.int .i64 ((fig k : Int) + (t : Int)))).drew.drew).drew) hown5 lawF Try.underlying57 (by unfold maxLen; omega) (keyOf_int_mk Try.underlying3 (wfF (i := (fig k : Int) + (t : Int)) (by omega) (by omega))) (plainElem_bool Try.underlying4 true)
      have hfs : fig (k + 1) = fig k + t := by rw [fig_succ, hst]
      have hC5 : CAt (wr.setCell ⟨tp, 0, none⟩ (.int .i64 ((fig k : Int) + (t : Int)))) B tp mb m E (fig (k + 1)) (stp (k + 1)) := by
        rw [hst, hfs]
        exact HD.out.figure (fig k + t)
      have hC6 := CAt.turn (w := ((wr.setCell ⟨tp, 0, none⟩ (.int .i64 ((fig k : Int) + (t : Int)))).drew.drew).drew) hC5 hgr6 hown6
      have hB6 := ((hbw.setCell (p := ⟨tp, 0, none⟩) hb1 (.int .i64 ((fig k : Int) + (t : Int)))).drew.drew.drew).grown hgr6 (by simpa using Nat.le_trans hB hbw.size) (fun j hj => by cases hj; exact hb2)
      have hA6 : AhD (E.put (kF ((fig k : Int) + (t : Int))) (bL true)) (ahd (k + 1)) := by
        have := (HEA.out.put (fig (k + 1))).same hfin
        rw [hfs] at this
        exact this
      have HC6 := Lib.hid hC6; have HB6 := Lib.hid hB6; have HA6 := Lib.hid hA6
      clear hxP hPt hPP hst hfin hown5 hown6 hgr6 hfs hC5 hC6 hB6 hA6
      go_wp2_with fail
      go_region
      go_wp2_with fail
      go_region
      go_wp2_with fail
      go_region
      go_end0
      exact ⟨rfl, ⟨m + 1, _, by omega, HA6.out, HC6.out⟩, HB6.out⟩
end Go.Proofs.Ytakmmoplepghjaa
