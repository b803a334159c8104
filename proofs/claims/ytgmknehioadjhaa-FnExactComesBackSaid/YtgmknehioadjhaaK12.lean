/- The model's table of elements: its search. -/
import Derived.Test.YtgmknehioadjhaaK8
import Derived.Lib.Strings
namespace Go.Proofs.Ytgmknehioadjhaa
open Go.RowKit Go.BigFrame Go.Shelf
set_option linter.unusedSimpArgs false
set_option linter.unusedVariables false
set_option maxRecDepth 4000

theorem bytes_toListX (x : ByteArray) : x.toList = x.data.toList := by
  exact Go.Lib.toList_data x
/-- The place of a text in a list of texts; behind all of them if it is not there. -/
def posB (w : ByteArray) : List ByteArray → Nat
  | [] => 0
  | a :: r => if a = w then 0 else posB w r + 1
theorem posB_at (w : ByteArray) : ∀ (ns : List ByteArray) (k : Nat) (hk : k < ns.length), (∀ j (hj : j < ns.length), j < k → ns[j] ≠ w) → ns[k] = w → posB w ns = k
  | [], k, hk, _, _ => by simp at hk
  | a :: r, 0, _, _, he => by
    have he : a = w := he
    show (if a = w then 0 else posB w r + 1) = 0
    rw [if_pos he]
  | a :: r, k + 1, hk, h, he => by
    have ha : a ≠ w := h 0 (by simp) (by omega)
    show (if a = w then 0 else posB w r + 1) = k + 1
    rw [if_neg ha, posB_at w r k (by simpa using hk) (fun j hj hjk => h (j + 1) (by simpa using hj) (by omega)) he]
theorem posB_none (w : ByteArray) : ∀ (ns : List ByteArray), (∀ j (hj : j < ns.length), ns[j] ≠ w) → posB w ns = ns.length
  | [], _ => rfl
  | a :: r, h => by
    have ha : a ≠ w := h 0 (by simp)
    show (if a = w then 0 else posB w r + 1) = r.length + 1
    rw [if_neg ha, posB_none w r (fun j hj => h (j + 1) (by simpa using hj))]
set_option maxHeartbeats 400000 in
theorem elFind_look (W : World) (n₀ tp : Nat) (v0 v1 v2 : Value) (ns : List ByteArray) (w : ByteArray) (hobj : W.heap[tp]? = some (.cells #[v0, v1, v2] 50 (0, 0)))
    (hrow : W.ownsRow n₀ 9 1 v0 ns.length (ns.map .string)) (hn : ns.length ≤ 100000) (hm : posB w ns < ns.length) :
    Calls Try.prog 69 #[.pointer (some ⟨tp, 0, none⟩), .string w] W fun e W' => e = .returned (.int .i64 (posB w ns : Nat)) ∧ W = W' := by
  obtain ⟨av, cv, rfl⟩ := own_slice hrow
  obtain ⟨N, hN⟩ : ∃ N, N = ns.length := ⟨_, rfl⟩
  have HN := Lib.hid hN
  have HR := Lib.hid hrow
  have HM := Lib.hid hm
  have hc0 : W.cell? ⟨tp, 0, none⟩ = some (.slice av N cv) := by simp [World.cell?, hobj, hN]
  rw [← hN] at hn
  clear hrow hm hN
  go_enter Try.func69, Try.ntmps69
  go_wp2_with fail
  go_loopw [5, 6, 12] (fun _ _ kv wr => ∃ k : Nat, kv = .int .i64 k ∧ k ≤ N ∧ Hid (W = wr ∧ ∀ j (hj : j < ns.length), j < k → ns[j] ≠ w)) (fun _ _ kv _ => N - (intOf kv).toNat)
  case atStart => exact ⟨0, rfl, Nat.zero_le _, rfl, fun j _ h => by omega⟩
  case round =>
    obtain ⟨k, rfl, hk, HX⟩ := hrel
    obtain rfl := HX.out.1
    have HX2 := Lib.hid HX.out.2
    clear HX
    by_cases hlt : k < N
    · have hltn : k < ns.length := by rw [← HN.out]; exact hlt
      obtain ⟨g, hg, hcell⟩ : ∃ g, av = some ⟨g, 0, none⟩ ∧ W.cell? ⟨g, k, none⟩ = some (.string ns[k]) := by
        rcases own_open HR.out with ⟨_, h0, _⟩ | ⟨g, cap, e, _, _, _, _, _, hc, _⟩
        · omega
        · have e1 : av = some ⟨g, 0, none⟩ := by
            simp only [Value.slice.injEq] at e; exact e.1
          exact ⟨g, e1, by have := hc k (by simpa using hltn); simpa using this⟩
      subst hg
      obtain ⟨x, hx⟩ : ∃ x, x = ns[k] := ⟨_, rfl⟩
      rw [← hx] at hcell
      by_cases he : x = w
      · have hpos : Hid (posB w ns = k) := posB_at w ns k hltn HX2.out (by rw [← hx]; exact he)
        subst he
        clear hx
        go_wp2_with fail
        go_ret
        exact ⟨by rw [hpos.out]; rfl, rfl⟩
      · have hnew : Hid (∀ j (hj : j < ns.length), j < k + 1 → ns[j] ≠ w) := fun j hj h => by
          by_cases e : j = k
          · subst e; rw [← hx]; exact he
          · exact HX2.out j hj (by omega)
        have hbe : (x.toList == w.toList) = false := by
          rw [beq_eq_false_iff_ne]
          intro e
          rw [bytes_toListX, bytes_toListX] at e
          exact he (ByteArray.ext (Array.toList_inj.1 e))
        clear hx
        go_wp2_with fail
        go_roundw
        case rel => exact ⟨k + 1, by go_num, by omega, trivial, hnew.out⟩
        case measure => simp [intOf] <;> omega
    · have h1 := posB_none w ns (fun j hj => HX2.out j hj (by have := HN.out; omega))
      have h2 := HM.out
      omega

theorem info_strK : (Try.prog.info? 9).map (fun i => (i.zero, i.size, i.bytes)) = some (some (.string ⟨#[]⟩), 1, 16) := by kernel_rfl
/-- A block of another type is not the row that a slice owns. -/
theorem not_row3 {W : World} {p : Nat} {t e : TypeId} {cs : Array Value} {fr : Nat × Nat} (hobj : W.heap[p]? = some (.cells cs t fr)) (hte : t ≠ e) {base k : Nat} {v : Value} {xs : List Value} (hr : W.ownsRow base e 1 v k xs) : v.ownBlock ≠ some p := by
  rcases hr.2 with ⟨rfl, _⟩ | ⟨g, cap, cur, rfl, _, hgb, _⟩
  · simp [Value.ownBlock]
  · intro e'
    obtain rfl : g = p := by simpa [Value.ownBlock] using e'
    have := hobj.symm.trans hgb
    simp at this
    exact hte this.2.1
/-- All but two blocks lie as they lay. -/
structure GrewBut (W W' : World) (tp : Nat) (ob : Option Nat) : Prop where
  os : W'.os = W.os
  tape : W'.tape = W.tape
  output : W'.output = W.output
  size : W.heap.size ≤ W'.heap.size
  block : ∀ k, k < W.heap.size → k ≠ tp → ob ≠ some k → W'.heap[k]? = W.heap[k]?

set_option maxHeartbeats 400000 in
theorem elFind_new (W : World) (n₀ tp : Nat) (v0 v1 v2 : Value) (ns : List ByteArray) (w : ByteArray) (hobj : W.heap[tp]? = some (.cells #[v0, v1, v2] 50 (0, 0)))
    (hrow : W.ownsRow n₀ 9 1 v0 ns.length (ns.map .string)) (hn₀ : n₀ ≤ W.heap.size) (hn : ns.length ≤ 100000) (hm : ¬ posB w ns < ns.length) :
    Calls Try.prog 69 #[.pointer (some ⟨tp, 0, none⟩), .string w] W fun e W' => e = .returned (.int .i64 (ns.length : Nat)) ∧
      ∃ v0', W'.heap[tp]? = some (.cells #[v0', v1, v2] 50 (0, 0)) ∧ W'.ownsRow n₀ 9 1 v0' (ns ++ [w]).length ((ns ++ [w]).map .string) ∧ (v0'.ownBlock = v0.ownBlock ∨ ∃ g, v0'.ownBlock = some g ∧ W.heap.size ≤ g) ∧ GrewBut W W' tp v0.ownBlock := by
  obtain ⟨i0, hi, hz0, hz1, hz2⟩ := info_parts info_strK
  obtain ⟨av, cv, rfl⟩ := own_slice hrow
  obtain ⟨N, hN⟩ : ∃ N, N = ns.length := ⟨_, rfl⟩
  have HN := Lib.hid hN
  have HR := Lib.hid hrow
  have HM := Lib.hid hm
  have HOBJ := Lib.hid hobj
  have hc0 : W.cell? ⟨tp, 0, none⟩ = some (.slice av N cv) := by simp [World.cell?, hobj, hN]
  rw [← hN] at hn
  clear hrow hm hN hobj
  go_enter Try.func69, Try.ntmps69
  go_wp2_with fail
  go_loopw [5, 6, 12] (fun _ _ kv wr => ∃ k : Nat, kv = .int .i64 k ∧ k ≤ N ∧ Hid (W = wr ∧ ∀ j (hj : j < ns.length), j < k → ns[j] ≠ w)) (fun _ _ kv _ => N - (intOf kv).toNat)
  case atStart => exact ⟨0, rfl, Nat.zero_le _, rfl, fun j _ h => by omega⟩
  case round =>
    obtain ⟨k, rfl, hk, HX⟩ := hrel
    obtain rfl := HX.out.1
    have HX2 := Lib.hid HX.out.2
    clear HX
    by_cases hlt : k < N
    · have hltn : k < ns.length := by rw [← HN.out]; exact hlt
      obtain ⟨g, hg, hcell⟩ : ∃ g, av = some ⟨g, 0, none⟩ ∧ W.cell? ⟨g, k, none⟩ = some (.string ns[k]) := by
        rcases own_open HR.out with ⟨_, h0, _⟩ | ⟨g, cap, e, _, _, _, _, _, hc, _⟩
        · omega
        · have e1 : av = some ⟨g, 0, none⟩ := by
            simp only [Value.slice.injEq] at e; exact e.1
          exact ⟨g, e1, by have := hc k (by simpa using hltn); simpa using this⟩
      subst hg
      obtain ⟨x, hx⟩ : ∃ x, x = ns[k] := ⟨_, rfl⟩
      rw [← hx] at hcell
      by_cases he : x = w
      · have hpos : posB w ns = k := posB_at w ns k hltn HX2.out (by rw [← hx]; exact he)
        have := HM.out
        omega
      · have hnew : Hid (∀ j (hj : j < ns.length), j < k + 1 → ns[j] ≠ w) := fun j hj h => by
          by_cases e : j = k
          · subst e; rw [← hx]; exact he
          · exact HX2.out j hj (by omega)
        have hbe : (x.toList == w.toList) = false := by
          rw [beq_eq_false_iff_ne]
          intro e
          rw [bytes_toListX, bytes_toListX] at e
          exact he (ByteArray.ext (Array.toList_inj.1 e))
        clear hx he
        go_wp2_with fail
        go_roundw
        case rel => exact ⟨k + 1, by go_num, by omega, trivial, hnew.out⟩
        case measure => simp [intOf] <;> omega
    · obtain rfl : k = N := by omega
      have hr2 : W.ownsRow n₀ 9 1 (.slice av k cv) k (ns.map .string) := by have := HR.out; rw [← HN.out] at this; exact this
      have HR2 := Lib.hid hr2
      clear hr2
      have hob : (Value.slice av k cv).ownBlock ≠ some tp := not_row3 HOBJ.out (by decide) HR2.out
      have hltp : tp < W.heap.size := (Array.getElem?_eq_some_iff.1 HOBJ.out).1
      have HOB := Lib.hid hob
      clear hob
      have hw : IntKind.i64.wrap (((k + 1 : Nat) : Int) - 1) = (k : Int) := by rw [IntWalk.i64_in _ (by omega)]; omega
      have hw' : IntKind.i64.wrap ((k : Int) + 1 - 1) = (k : Int) := by rw [IntWalk.i64_in _ (by omega)]; omega
      go_wp2_with (refine wpList_app _ rfl (.tmp 26) (.tmp 28) 22 rfl n₀ 9 i0 (.string ⟨#[]⟩) 16 Try.underlying22 hi hz0 hz1 hz2 rfl (.slice av k cv) k (ns.map .string) rfl (own_below HR2.out (below_alloc _ _)) ⟨W.heap.size, 0, none⟩ 1 1 [.string w] rfl rfl (by intro j u hu; cases j with | zero => (simp at hu; subst hu; simp [go_sem, Addr.add]) | succ j => simp at hu) (by simp [Value.oneCell']) (by unfold maxLen; omega) (by omega) (by simp; omega) ?_)
      intro v' w1 hown hgr hwh
      obtain ⟨g', cap', rfl⟩ := ownsRow_succ hown
      have ho1 : w1.heap[tp]? = some (.cells #[.slice av k cv, v1, v2] 50 (0, 0)) := by
        refine (hgr.block tp (by simp; omega) (fun e => HOB.out e.symm)).trans (((below_alloc W _).block tp hltp).trans ?_)
        have h7 := HOBJ.out
        rw [← HN.out] at h7; exact h7
      have hc1 : w1.cell? ⟨tp, 0, none⟩ = some (.slice av k cv) := by simp [World.cell?, ho1]
      have hf1 : w1.frozen? ⟨tp, 0, none⟩ = false := by simp [World.frozen?, ho1]
      have HO1 := Lib.hid ho1; have HOWN := Lib.hid hown; have HGR := Lib.hid hgr; have HWH := Lib.hid hwh
      clear hown hgr hwh ho1
      go_wp2_with fail
      go_ret
      have hN2 := HN.out
      have hsame : (Value.slice av k cv).ownBlock = (Value.slice av ns.length cv).ownBlock := by rw [← hN2]
      refine ⟨by rw [← hN2]; rfl, .slice (some ⟨g', 0, none⟩) (k + 1) cap', ?_, ?_, ?_, ?_⟩
      · obtain ⟨hlt, hk⟩ := Array.getElem?_eq_some_iff.1 HO1.out
        show (w1.heap.modify tp _)[tp]? = _
        rw [Array.getElem?_eq_getElem (by rw [Array.size_modify]; exact hlt), Array.getElem_modify_self, hk]
        rfl
      · have := HOWN.out.kept (grownBy_setCell' w1 tp (.slice (some ⟨g', 0, none⟩) (k + 1) cap')) (.inr (not_row3 HO1.out (by decide) HOWN.out))
        rw [List.length_append, List.map_append, ← hN2]
        exact this
      · rcases HWH.out with e | e
        · exact .inl (e.trans hsame)
        · exact .inr ⟨_, e, Nat.le_succ _⟩
      · refine ⟨HGR.out.os, HGR.out.tape, HGR.out.output, ?_, fun p hp h1 h2 => ?_⟩
        · have h3 := HGR.out.size
          have h4 : (W.alloc (.cells #[.string w] 9)).heap.size = W.heap.size + 1 := by simp
          have h5 := (KeepsWalks.setCell w1 ⟨tp, 0, none⟩ (.slice (some ⟨g', 0, none⟩) (k + 1) cap')).size
          omega
        · refine (Below.heap_setCell _ _ _ _ h1).trans ((HGR.out.block p (by simp; omega) (fun e => h2 (hsame.symm.trans e.symm))).trans ((below_alloc W _).block p hp))
end Go.Proofs.Ytgmknehioadjhaa
