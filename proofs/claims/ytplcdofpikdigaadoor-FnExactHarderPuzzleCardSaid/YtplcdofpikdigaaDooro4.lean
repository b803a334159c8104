/- Chapter 9: checkDigits. -/
import Derived.Test.YtplcdofpikdigaaDooro3
import Derived.StillTailTactics
namespace Go.Proofs.YtplcdofpikdigaaDoor
open Go.RowKit Go.BigFrame Go.Shelf
set_option linter.unusedSimpArgs false
set_option linter.unusedVariables false
set_option maxRecDepth 4000

/-- A digit fits. -/
def dgOk (W : List UInt8) (D : Int) (l : List UInt8) (k : Nat) : Prop := ((l.getD k 0).toNat : Int) - 48 ≤ D ∧ agB (W.getD k 0) (l.getD k 0) = true
theorem dig_range {l : List UInt8} (h : l.all digB = true) {k : Nat} (hk : k < l.length) : 49 ≤ (l.getD k 0).toNat ∧ (l.getD k 0).toNat ≤ 57 := by
  have := List.all_eq_true.1 h _ (List.getElem_mem hk)
  rw [getD_lt hk]
  unfold digB at this
  simpa using this
set_option maxHeartbeats 4000000 in
theorem checkDigits_any (l W S : List UInt8) (D : Int) (w : World) (h1 : 1 ≤ l.length) (h8 : l.length ≤ 8) (hW : W.length = l.length) (hd : l.all digB = true) :
    Calls Tryd.prog 72 #[pzV W S D, .string (bs l)] w fun e w' =>
      ((e = .returned (.tuple #[]) ∧ ∀ k, k < l.length → dgOk W D l k) ∨ (∃ k, k < l.length ∧ ¬ dgOk W D l k ∧ e = .panicked (misV k))) ∧ Below w.heap.size w w' := by
  obtain ⟨n, hn⟩ : ∃ n, n = l.length := ⟨_, rfl⟩
  obtain ⟨t, ht⟩ : ∃ t, t = bs l := ⟨_, rfl⟩
  obtain ⟨u, hu⟩ : ∃ u, u = bs W := ⟨_, rfl⟩
  have htn : t.size = n := by rw [ht, bs_size, hn]
  have hun : u.size = n := by rw [hu, bs_size, hn, hW]
  have htk : ∀ k (h : k < t.size), t[k] = l.getD k 0 := fun k h => by
    subst ht; rw [getD_lt (by rw [bs_size] at h; exact h)]; rfl
  have huk : ∀ k (h : k < u.size), u[k] = W.getD k 0 := fun k h => by
    subst hu; rw [getD_lt (by rw [bs_size] at h; exact h)]; rfl
  have hdk : ∀ k, k < n → 49 ≤ (l.getD k 0).toNat ∧ (l.getD k 0).toNat ≤ 57 := fun k h => dig_range hd (by omega)
  unfold pzV
  rw [← ht, ← hu, ← hn]
  rw [← hn] at h1 h8
  have HTK := Lib.hid htk; have HUK := Lib.hid huk; have HDK := Lib.hid hdk
  clear htk huk hdk ht hu hn hW hd
  go_enter Tryd.func72, Tryd.ntmps72
  go_wp2_with fail
  go_loopw [7] (fun i wr => ∃ k : Nat, k ≤ n ∧ i = .int .i64 k ∧ Hid (BoxP w (.string u) (.string (bs S)) (.int .i64 D) 28 wr ∧ ∀ j, j < k → dgOk W D l j)) (fun i _ => n - (intOf i).toNat)
  case atStart => exact ⟨0, Nat.zero_le _, rfl, boxP_new _ _ _ _ _, fun j hj => by omega⟩
  case round =>
    obtain ⟨k, hk, rfl, HX⟩ := hrel
    by_cases hlt : k < n
    · obtain ⟨y, hy⟩ : ∃ y, y = l.getD k 0 := ⟨_, rfl⟩
      obtain ⟨x, hx⟩ : ∃ x, x = W.getD k 0 := ⟨_, rfl⟩
      have hyr := HDK.out k hlt
      have hkt : k < t.size := by omega
      have hku : k < u.size := by omega
      have ey : t[k] = y := by rw [hy]; exact HTK.out k hkt
      have ex : u[k] = x := by rw [hx]; exact HUK.out k hku
      rw [← hy] at hyr
      have ha := HX.out.1.at
      obtain ⟨c0, c1, c2, _, _, _⟩ := ThreeAt.cells ha
      have k0 : World.cell? { wr with drawn := wr.drawn + 1 } ⟨w.heap.size, 0, none⟩ = some (.string u) := c0
      have k2 : World.cell? { wr with drawn := wr.drawn + 1 } ⟨w.heap.size, 2, none⟩ = some (.int .i64 D) := c2
      have HDG := Lib.hid (fun (W0 : World) => (digitOf_is (y.toNat : Int) W0 (by omega) (by omega)).mono (R' := fun e w' => e = .returned (.int .i64 ((y.toNat : Int) - 48)) ∧ w' = W0) (fun e w' h => ⟨h.1, h.2.symm⟩))
      obtain ⟨d2, hd2⟩ : ∃ d2, d2 = agB x y := ⟨_, rfl⟩
      have HAG := Lib.hid (fun (W0 : World) => (agrees_any x y W0).mono (R' := fun e w' => e = .returned (.bool d2) ∧ w' = W0) (fun e w' h => ⟨by rw [hd2]; exact h.1, h.2.symm⟩))
      obtain ⟨d1, hd1⟩ : ∃ d1, d1 = decide ((y.toNat : Int) - 48 ≤ D) := ⟨_, rfl⟩
      have HOK : Hid (dgOk W D l k ↔ d1 = true ∧ d2 = true) := Lib.hid (by unfold dgOk; rw [← hy, ← hx, hd1, hd2]; simp)
      have hd1' := hd1.symm
      clear hd1 hd2 hy hx ha c1
      cases d1 with
      | false =>
        go_wp2_with fail
        go_still_tail 8, (by kernel_rfl)
        still_call (HDG.out _)
        repeat still_step
        refine wpStill_nil ?_
        change wpList _ _ _ _ _ wr.drew
        have HB2 : Hid (BoxP w (.string u) (.string (bs S)) (.int .i64 D) 28 wr.drew) := HX.out.1.drewN 1
        have e0 : wr.drew.cell? ⟨w.heap.size, 0, none⟩ = some (.string u) := c0
        generalize wr.drew = w2 at *
        go_wp2_with fail
        refine (mustFit_false k _).mono ?_
        rintro e w5 ⟨rfl, rfl⟩
        exact ⟨rfl, .inr ⟨k, hlt, fun h => by have := (HOK.out.1 h).1; simp at this, rfl⟩, HB2.out.below⟩
      | true =>
        go_wp2_with fail
        go_still_tail 8, (by kernel_rfl)
        still_call (HDG.out _)
        repeat still_step
        refine wpStill_nil ?_
        change wpList _ _ _ _ _ wr.drew
        have HB2 : Hid (BoxP w (.string u) (.string (bs S)) (.int .i64 D) 28 wr.drew) := HX.out.1.drewN 1
        have e0 : wr.drew.cell? ⟨w.heap.size, 0, none⟩ = some (.string u) := c0
        generalize wr.drew = w2 at *
        go_wp2_with fail
        refine (mustFit_true k _).mono ?_
        rintro e w5 ⟨rfl, rfl⟩
        clear k0 k2 c0 c2
        have k0 : World.cell? { w2 with drawn := w2.drawn + 1 } ⟨w.heap.size, 0, none⟩ = some (.string u) := e0
        cases d2 with
        | false =>
          go_wp2_with fail
          go_still_tail 9, (by kernel_rfl)
          still_call (HAG.out _)
          repeat still_step
          refine wpStill_nil ?_
          change wpList _ _ _ _ _ w2.drew
          have HB3 : Hid (BoxP w (.string u) (.string (bs S)) (.int .i64 D) 28 w2.drew) := HB2.out.drewN 1
          generalize w2.drew = w3 at *
          go_wp2_with fail
          refine (mustFit_false k _).mono ?_
          rintro e w5 ⟨rfl, rfl⟩
          exact ⟨rfl, .inr ⟨k, hlt, fun h => by have := (HOK.out.1 h).2; simp at this, rfl⟩, HB3.out.below⟩
        | true =>
          have HNX : Hid (∀ j, j < k + 1 → dgOk W D l j) := Lib.hid (fun j hj => by
            by_cases h : j < k
            · exact HX.out.2 j h
            · have e : j = k := by omega
              rw [e]; exact HOK.out.2 (by simp))
          go_wp2_with fail
          go_still_tail 9, (by kernel_rfl)
          still_call (HAG.out _)
          repeat still_step
          refine wpStill_nil ?_
          change wpList _ _ _ _ _ w2.drew
          have HB3 : Hid (BoxP w (.string u) (.string (bs S)) (.int .i64 D) 28 w2.drew) := HB2.out.drewN 1
          generalize w2.drew = w3 at *
          go_wp2_with fail
          refine (mustFit_true k _).mono ?_
          rintro e w5 ⟨rfl, rfl⟩
          go_wp2_with fail
          go_roundw
          case rel => exact ⟨k + 1, by omega, by go_num, HB3.out, HNX.out⟩
          case measure => simp [intOf] <;> omega
    · have hkn : k = n := by omega
      subst hkn
      have HR : Hid ((∀ j, j < k → dgOk W D l j) ∧ Below w.heap.size w wr) := Lib.hid ⟨HX.out.2, HX.out.1.below⟩
      clear HX
      go_wp2_with fail
      go_end0
      exact ⟨.inl ⟨rfl, HR.out.1⟩, HR.out.2⟩
end Go.Proofs.YtplcdofpikdigaaDoor
