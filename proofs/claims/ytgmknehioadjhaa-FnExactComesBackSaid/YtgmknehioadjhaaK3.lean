/- The first digits of a text said again and again, told one by one: the program's firstSigns. -/
import Derived.Test.YtgmknehioadjhaaI2
namespace Go.Proofs.Ytgmknehioadjhaa
open Go.RowKit Go.BigFrame Go.Shelf
set_option linter.unusedSimpArgs false
set_option linter.unusedVariables false
set_option maxRecDepth 4000
attribute [local go_sem] Oper.semAt_some

/-- The first digit behind k times. -/
def signEnc (l : List UInt8) (k : Fin 10) : Array Value := #[.int .u8 (((sayN k l).headD 0).toNat : Int)]
theorem head_at {t : ByteArray} {l : List UInt8} (h : t.data.toList = l) (h0 : 0 < t.size) : l.headD 0 = t[0] := by
  subst h
  have := drop_at t 0 h0
  rw [List.drop_zero] at this
  rw [this]; rfl
theorem sayN_size {l : List UInt8} (h : sayB l = true) (hl : l.length ≤ 120) {k : Nat} (hk : k ≤ 9) : (sayN k l).length ≤ 61440 := by
  refine Nat.le_trans (sayN_len h k) ?_
  have : 2 ^ k ≤ 2 ^ 9 := Nat.pow_le_pow_right (by omega) hk
  exact Nat.le_trans (Nat.mul_le_mul this hl) (by decide)

set_option maxRecDepth 100000 in
set_option maxHeartbeats 2000000 in
theorem firstSigns1_in (nn : Nat) (hnn : 1 ≤ nn) (s : ByteArray) (hsp : sayB s.data.toList = true) (hl : s.size ≤ 120) (lp Bs : Nat) (J Jx : List (Fin 10) → World → Prop)
    (hY : ∀ pre x W, J pre W → pre.length < 10 → YieldAt Fence.wide (nn - 1) Try.prog lp (signEnc s.data.toList x) W fun e W' =>
      (e = .returned (.bool true) ∧ J (pre ++ [x]) W' ∧ True) ∨ (e = .returned (.bool false) ∧ Jx (pre ++ [x]) W'))
    (W : World) (hBs : W.cell? ⟨Bs, 0, none⟩ = some (.string s)) (hJb : ∀ q A B, J q A → Below A.heap.size A B → J q B) (h0 : J [] W) :
    CallsIn Fence.wide nn Try.prog 96 #[.func (.yield lp) #[] #[], .pointer (some ⟨Bs, 0, none⟩)] W fun e W' => (∃ v, e = .returned v) ∧
      ((∃ ys, ys = upF 10 10 ∧ J ys W') ∨ (∃ pre, (∃ k, k ≤ 10 ∧ pre = upF 10 k) ∧ Jx pre W')) := by
  refine callsIn_wide.2 ?_
  have HSP := Lib.hid hsp; clear hsp
  go_enter Try.func96, Try.ntmps96
  go_wp2_with fail
  go_loopw [3, 4] (fun sv i wr => ∃ (k : Nat) (t : ByteArray), sv = .string t ∧ i = .int .i64 k ∧ k < 10 ∧ 0 < t.size ∧ t.size ≤ 61440 ∧ Hid (t.data.toList = sayN k s.data.toList) ∧ Hid (J (upF 10 k) wr)) (fun _ i _ => 10 - (intOf i).toNat)
  case atStart =>
    refine ⟨0, s, rfl, rfl, by omega, ?_, by omega, rfl, h0⟩
    have := (sayB_iff.1 HSP.out).1
    rw [← size_list]
    exact Nat.pos_of_ne_zero (fun e => this (List.eq_nil_of_length_eq_zero e))
  case round =>
    obtain ⟨k, t, rfl, rfl, hk, ht0, htl, HT, HJ⟩ := hrel
    have hhd := head_at HT.out ht0
    have henc : signEnc s.data.toList ⟨k, hk⟩ = #[.int .u8 (t[0].toNat : Int)] := by unfold signEnc; rw [hhd]
    obtain ⟨fn, tmps, assign, body, hy, hR⟩ := hY (upF 10 k) ⟨k, hk⟩ wr HJ.out (by rw [upF_len (by omega)]; exact hk)
    rw [henc] at hy
    have HU := Lib.hid (upF_succ hk)
    have hok := sayN_ok HSP.out k
    rw [← HT.out] at hok
    have hst := Lib.hid (fun (W : World) => sayText_long t W hok (by omega))
    clear hhd henc hok
    by_cases hk9 : k < 9
    · have hlen := sayN_size HSP.out (by simpa using hl) (show k + 1 ≤ 9 by omega)
      have hne := (sayB_iff.1 (sayN_ok HSP.out (k + 1))).1
      have HN : Hid (sayN (k + 1) s.data.toList = sayL t.data.toList) := by rw [HT.out]; rfl
      have hp1 : 0 < (bs (sayL t.data.toList)).size := by rw [bs_size, ← HN.out]; exact Nat.pos_of_ne_zero (fun e => hne (List.eq_nil_of_length_eq_zero e))
      have hp2 : (bs (sayL t.data.toList)).size ≤ 61440 := by rw [bs_size, ← HN.out]; exact hlen
      clear hlen hne
      refine (wpIn_wide (n := nn)).1 ?_
      gi_wp2
      refine hR.mono ?_
      rintro e W3 (⟨rfl, hJ3, _⟩ | ⟨rfl, hJx3⟩)
      · have HJ3 := Lib.hid hJ3; clear hJ3 hR hy
        gi_wp2
        refine ⟨trivial, ?_⟩
        refine (callsIn_wide.2 (hst.out W3)).mono ?_
        rintro e W4 ⟨rfl, hb4⟩
        have HB4 := Lib.hid hb4; clear hb4
        gi_wp2
        go_roundw
        case rel => exact ⟨k + 1, _, rfl, by go_num, by omega, hp1, hp2, by rw [bs_list]; exact HN.out.symm, hJb _ _ _ (by have := HJ3.out; rw [← HU.out] at this; exact this) HB4.out⟩
        case measure => simp [intOf] <;> omega
      · have HJ3 := Lib.hid hJx3; clear hJx3 hR hy
        gi_wp2
        go_end0
        exact ⟨⟨_, rfl⟩, .inr ⟨_, ⟨k + 1, by omega, HU.out.symm⟩, HJ3.out⟩⟩
    · obtain rfl : k = 9 := by omega
      refine (wpIn_wide (n := nn)).1 ?_
      gi_wp2
      refine hR.mono ?_
      rintro e W3 (⟨rfl, hJ3, _⟩ | ⟨rfl, hJx3⟩)
      · have HJ3 := Lib.hid hJ3; clear hJ3 hR hy
        gi_wp2
        go_end0
        exact ⟨⟨_, rfl⟩, .inl ⟨_, rfl, by have := HJ3.out; rw [← HU.out] at this; exact this⟩⟩
      · have HJ3 := Lib.hid hJx3; clear hJx3 hR hy
        gi_wp2
        go_end0
        exact ⟨⟨_, rfl⟩, .inr ⟨_, ⟨9 + 1, by omega, HU.out.symm⟩, HJ3.out⟩⟩

theorem firstSigns_is (s : ByteArray) (w : World) :
    Calls Try.prog 88 #[.string s] w fun e w' => e = .returned (.func (.func 96) #[] #[.pointer (some ⟨w.heap.size, 0, none⟩)]) ∧ w' = w.alloc (.cells #[.string s] 9) := by
  go_enter Try.func88, Try.ntmps88
  go_wp2
  go_ret
  exact ⟨rfl, rfl⟩

/-- Nothing is asked of a round. -/
def KeepsNil (_ _ : World) : Prop := True
/-- What firstSigns hands back tells the first digits behind 0 to 9 times, or the first of them. -/
theorem firstSigns_stops (nn : Nat) (hnn : 1 ≤ nn) (s : ByteArray) (hsp : sayB s.data.toList = true) (hl : s.size ≤ 120) (Bs : Nat) (w : World) (hB : Bs < w.heap.size) (hBs : w.cell? ⟨Bs, 0, none⟩ = some (.string s)) :
    SeqStopsK Fence.wide nn Try.prog 96 #[.pointer (some ⟨Bs, 0, none⟩)] (signEnc s.data.toList) KeepsNil (fun ys => ys = upF 10 10) (fun pre => ∃ k, k ≤ 10 ∧ pre = upF 10 k) 10 w := fun lp J Jx W hW hJ _ hY h0 =>
  firstSigns1_in nn hnn s hsp hl lp Bs J Jx hY W ((hW.cell (p := ⟨Bs, 0, none⟩) hB).trans hBs)
    (fun q A B hs hb => hJ q A B none hs ⟨hb.os, hb.tape, hb.output, hb.size, fun k hk _ => hb.block k hk⟩ (fun r e => by cases e)) h0

/-- The first digits that have come. -/
def gotS (l : List UInt8) (pre : List (Fin 10)) : List UInt8 := pre.map (fun (k : Fin 10) => (sayN (k : Nat) l).headD 0)
theorem gotS_snoc (l : List UInt8) (pre : List (Fin 10)) (x : Fin 10) : gotS l (pre ++ [x]) = gotS l pre ++ [(sayN x l).headD 0] := by simp [gotS]
theorem gotS_all (l : List UInt8) : gotS l (upF 10 10) = firstsL l := by
  unfold gotS upF firstsL
  rw [List.take_of_length_le (by simp)]
  apply List.ext_getElem
  · simp
  · intro i h1 h2
    simp
theorem gotS_upF (l : List UInt8) {k : Nat} (hk : k ≤ 10) : gotS l (upF 10 k) = (firstsL l).take k := by
  unfold gotS upF firstsL
  rw [List.map_take]
  congr 1
/-- A loop over first digits whose body may leave. -/
theorem wp_signs {Q : Exit → Act → World → Prop} {a : Act} {W0 : World} {g : Operand} {t : Tmp} {assign body : Code} (s : ByteArray) (hsp : sayB s.data.toList = true) (hl : s.size ≤ 120) (Bs : Nat)
    (hB : Bs < W0.heap.size) (hBs : W0.cell? ⟨Bs, 0, none⟩ = some (.string s)) (hg : a.eval g = .func (.func 96) #[] #[.pointer (some ⟨Bs, 0, none⟩)])
    (I : List UInt8 → World → Prop) (hI : OwnFrom W0.heap.size I) (h0 : I [] W0) (Ix : Code → List UInt8 → World → Prop) (hIx : ∀ c, OwnFrom W0.heap.size (Ix c)) (a₁ : Fin 10 → Act)
    (hassign : ∀ (lp : Nat) (x : Fin 10) (W : World) (K : Act → World → Prop), K (a₁ x) W →
      assign.wpIn (Fence.wide.inRound lp) 7 Try.prog (Exit.then K (fun _ _ _ => False)) { tmps := a.tmps.setIfInBounds t (.int .u8 (((sayN x s.data.toList).headD 0).toNat : Int)), defers := [] } W)
    (hbody : ∀ (lp : Nat) (pre : List (Fin 10)) (x : Fin 10) (W : World) (Q2 : Exit → Act → World → Prop), (¬ LetsOut Q2 ∧ ∀ c a w, ¬ Q2 (.panic c) a w) →
      (∀ a' W', KeepsFrom W0.heap.size W W' → I (gotS s.data.toList pre ++ [(sayN x s.data.toList).headD 0]) W' → Q2 .normal a' W') →
      (∀ a' W', KeepsFrom W0.heap.size W W' → Ix .ret (gotS s.data.toList pre ++ [(sayN x s.data.toList).headD 0]) W' → Q2 .ret a' W') →
      (∀ a' W' id, KeepsFrom W0.heap.size W W' → Ix (.exit id) (gotS s.data.toList pre ++ [(sayN x s.data.toList).headD 0]) W' → Q2 (.exit id) a' W') →
      (∀ a' W' id, KeepsFrom W0.heap.size W W' → Ix (.goto id) (gotS s.data.toList pre ++ [(sayN x s.data.toList).headD 0]) W' → Q2 (.goto id) a' W') →
      I (gotS s.data.toList pre) W → pre.length < 10 → body.wpIn (Fence.wide.inRound lp) 7 Try.prog Q2 (a₁ x) W)
    (hdone : ∀ (D : Nat) (W : World), W0.heap.size ≤ D → I (firstsL s.data.toList) W → W.heap[D]? = some (.deferred (some [])) → Q .normal { a with defers := { target := .collected D, args := #[] } :: a.defers } W)
    (hstop : ∀ (D : Nat) (c : Code) (k : Nat) (W : World), W0.heap.size ≤ D → k ≤ 10 → Ix c ((firstsL s.data.toList).take k) W → W.heap[D]? = some (.deferred (some [])) → c.wp Try.prog Q { a with defers := { target := .collected D, args := #[] } :: a.defers } W) :
    (Code.rangeFunc g #[t] assign body).wp Try.prog Q a W0 := by
  refine (wpIn_wide (n := 9)).1 ?_
  refine wpIn_rangeFunc_ownG rfl (by omega) (gf := 96) (lb := #[.pointer (some ⟨Bs, 0, none⟩)]) hg trivial (enters_of Try.func96 (by kernel_rfl) rfl)
    (firstSigns_stops 8 (by omega) s hsp hl Bs W0 hB hBs) (fun _ _ => trivial) (fun _ _ _ _ _ _ _ _ => trivial) (Below.refl _ _) (fun _ => rfl)
    (fun pre W => I (gotS s.data.toList pre) W) (fun c pre W => Ix c (gotS s.data.toList pre) W) (fun q W W' row hs hg hr => hI _ W W' row hs hg hr) (fun c q W W' row hs hg hr => hIx c _ W W' row hs hg hr) h0 a₁ ?_
    (fun lp pre x W hi hlt => hbody lp pre x W _ ⟨fun ⟨a, w, h⟩ => h, fun c a w h => h⟩
      (fun a' W' k1 k3 => ⟨k1, trivial, by show I (gotS s.data.toList (pre ++ [x])) W'; rw [gotS_snoc]; exact k3⟩)
      (fun a' W' k1 k3 => ⟨k1, by show Ix .ret (gotS s.data.toList (pre ++ [x])) W'; rw [gotS_snoc]; exact k3⟩)
      (fun a' W' id k1 k3 => ⟨k1, by show Ix (.exit id) (gotS s.data.toList (pre ++ [x])) W'; rw [gotS_snoc]; exact k3⟩)
      (fun a' W' id k1 k3 => ⟨k1, by show Ix (.goto id) (gotS s.data.toList (pre ++ [x])) W'; rw [gotS_snoc]; exact k3⟩) hi hlt) ?_ ?_
  · intro lp x W K hK
    have h := hassign lp x W K hK
    unfold signEnc
    simpa using h
  · rintro D ys W hD rfl hi hK
    rw [gotS_all] at hi
    exact hdone D W hD hi hK
  · rintro D c pre W hD ⟨k, hk, rfl⟩ hi hK
    rw [gotS_upF _ hk] at hi
    exact wpIn_wide.2 (hstop D c k W hD hk hi hK)
end Go.Proofs.Ytgmknehioadjhaa
