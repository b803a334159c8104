/- A map whose key is a decay: its keys. -/
import Derived.Test.YtgmknehioadjhaaMW
import Derived.Test.YtgmknehioadjhaaMG
import Derived.DeepKeys4
import Derived.WideKeyPair
namespace Go.Proofs.Ytgmknehioadjhaa
open Go.RowKit Go.BigFrame Go.Maps
set_option linter.unusedSimpArgs false
set_option linter.unusedVariables false
set_option maxRecDepth 4000

theorem laidX : laidOutB Try.prog = true := by kernel_rfl
theorem rowX : (78 : TypeId) < Try.prog.types.size := of_decide_eq_true (by kernel_rfl)
theorem wideX : (match Try.prog.underlying 78 with | some (.array _ _) | some (.struct _) => true | _ => false) = true := by rw [Try.underlying78]
theorem lawX : Keyed Try.prog 78 := Keyed.of_law (deep_law_laid laidX (m := 2) (by omega) rowX (by kernel_rfl) wideX)
theorem typX : Try.prog.keyType 78 = true := by kernel_rfl
theorem cellsX : Try.prog.cellsOf 78 = 2 := by kernel_rfl
theorem cellsI : Try.prog.cellsOf 3 = 1 := by kernel_rfl
abbrev kX (f z : Nat) : Lit := .string (keyBytes [.int .i64 (f : Nat), .int .i64 (z : Nat)])
abbrev dvX (f z : Nat) : Value := .agg #[.int .i64 (f : Nat), .int .i64 (z : Nat)]
theorem keyX (f z : Nat) : WideAt.IsKeyLit (kX f z) := trivial
theorem keyOfX {f z : Nat} (hf : f ≤ 1000) (hz : z ≤ 1000) : keyOf Try.prog 78 (dvX f z) = some (kX f z) := by
  have w1 : (Lit.int .i64 (f : Nat)).wf = true := WalkArith.wf_i64 (by omega)
  have w2 : (Lit.int .i64 (z : Nat)).wf = true := WalkArith.wf_i64 (by omega)
  obtain ⟨m, hm⟩ : ∃ m, Try.prog.types.size = m + 1 := ⟨_, (Nat.succ_pred_eq_of_pos (Nat.lt_of_le_of_lt (Nat.zero_le _) rowX)).symm⟩
  unfold keyOf
  simp only [Try.underlying78]
  rw [if_pos (by simp [typX, Value.formed, Try.underlying78, cellsX]), hm]
  unfold Program.keyLits
  simp only [Try.underlying78, Value.cells]
  rw [if_pos (by refine ⟨by rw [cellsX]; rfl, by kernel_rfl⟩)]
  simp [cellsI, Program.keyLits, Try.underlying3, w1, w2]

theorem kX_inj {f z f' z' : Nat} (hf : f ≤ 1000) (hz : z ≤ 1000) (hf' : f' ≤ 1000) (hz' : z' ≤ 1000) (h : kX f z = kX f' z') : f = f' ∧ z = z' := by
  have e := lawX.inj (keyOfX hf hz) (by rw [h]; exact keyOfX hf' hz')
  simp only [Value.agg.injEq] at e
  have e2 := congrArg Array.toList e
  simp only [List.cons.injEq, Value.int.injEq, true_and, and_true] at e2
  omega
theorem zeroBX (w : World) : (zeroValue 4).run Try.prog w = .ok (.bool false) w := by kernel_rfl
abbrev bLX (b : Bool) : DataW Unit := .lit (.bool b)
abbrev OwnX (w : World) (b n : Nat) (D : DataW Unit) : Prop := w.ownsMap Try.prog 78 (plainElem Try.prog 4) b n D
theorem plainElem_bool_invX {H : Type} {P : Program} {e : TypeId} (he : P.underlying e = some .bool) {v : Value} {z : DataW H × List MemPlace} (h : plainElem P e v = some z) : ∃ x, v = .bool x ∧ z = (.lit (.bool x), []) := by
  unfold plainElem at h
  rw [he] at h
  cases v <;> simp at h
  exact ⟨_, rfl, h.symm⟩
theorem lookX {w : World} {b n : Nat} {D : DataW Unit} (h : OwnX w b n D) {f z : Nat} (hf : f ≤ 1000) (hz : z ≤ 1000) :
    ∃ x, (Instr.lookup 82 (.map (some b)) (dvX f z) false).run Try.prog w = .ok (.bool x) w ∧ D.atKey (kX f z) (bLX false) = bLX x := by
  obtain ⟨v, ps, hrun, hv⟩ := h.lookup lawX Try.underlying82 (zeroBX w) (plainElem_bool Try.underlying4 false) (keyOfX hf hz)
  obtain ⟨x, rfl, e⟩ := plainElem_bool_invX Try.underlying4 hv
  simp only [Prod.mk.injEq] at e
  exact ⟨x, hrun, e.1⟩
/-- The map holds just the links that were followed. -/
structure FolD (D : DataW Unit) (P : Nat → Nat → Prop) : Prop where
  tidy : Tidy D
  keys : ∀ f z, f ≤ 1000 → z ≤ 1000 → (Maps.has D (kX f z) = true ↔ P f z)
  at_ : ∀ f z, f ≤ 1000 → z ≤ 1000 → Maps.has D (kX f z) = true → D.atKey (kX f z) (bLX false) = bLX true
theorem FolD.empty : FolD (.map []) (fun _ _ => False) := ⟨tidy_empty, fun f z _ _ => by rw [has_eq]; simp, fun f z _ _ h => by rw [has_eq] at h; simp at h⟩
theorem FolD.look {D : DataW Unit} {P : Nat → Nat → Prop} (h : FolD D P) {f z : Nat} (hf : f ≤ 1000) (hz : z ≤ 1000) {x : Bool} (hat : D.atKey (kX f z) (bLX false) = bLX x) : x = true ↔ P f z := by
  cases hh : Maps.has D (kX f z) with
  | true =>
    have h1 := h.at_ f z hf hz hh
    rw [hat] at h1
    have hx : x = true := by injection h1 with h1; injection h1
    simp [hx, (h.keys f z hf hz).1 hh]
  | false =>
    have h1 := atKey_of_not_has hh (bLX false)
    rw [hat] at h1
    have hx : x = false := by injection h1 with h1; injection h1
    have hp : ¬ P f z := fun hp => by have := (h.keys f z hf hz).2 hp; rw [hh] at this; cases this
    simp [hx, hp]
theorem FolD.put {D : DataW Unit} {P : Nat → Nat → Prop} (h : FolD D P) {f z : Nat} (hf : f ≤ 1000) (hz : z ≤ 1000) : FolD (D.put (kX f z) (bLX true)) (fun f' z' => (f' = f ∧ z' = z) ∨ P f' z') := by
  refine ⟨h.tidy.put (keyX f z) _, fun f' z' hf' hz' => ?_, fun f' z' hf' hz' hi => ?_⟩
  · by_cases e : kX f' z' = kX f z
    · obtain ⟨rfl, rfl⟩ := kX_inj hf' hz' hf hz e
      rw [has_put_same h.tidy.isMap (keyX _ _)]; simp
    · rw [has_put_other e, h.keys f' z' hf' hz']
      constructor
      · intro hp; exact .inr hp
      · rintro (⟨rfl, rfl⟩ | hp)
        · exact absurd rfl e
        · exact hp
  · by_cases e : kX f' z' = kX f z
    · rw [e]; exact atKey_put_same h.tidy.isMap (keyX _ _) _ _
    · rw [has_put_other e] at hi
      rw [atKey_put_other e]
      exact h.at_ f' z' hf' hz' hi
end Go.Proofs.Ytgmknehioadjhaa
