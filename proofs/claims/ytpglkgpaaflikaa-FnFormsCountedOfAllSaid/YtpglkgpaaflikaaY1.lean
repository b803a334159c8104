/- Chapter 6: rows of numbers as arguments, the list's bounds on both sides, distances back (pure), and the closure that keeps last places. -/
import Derived.Test.YtpglkgpaaflikaaE4
import Derived.Test.YtpglkgpaaflikaaA1
import Derived.Carry
import Derived.Deep.Matrix
import Derived.Maps.OwnOps
import Derived.Maps.OwnSet
import Derived.WalkSpells
namespace Go.Proofs.Ytpglkgpaaflikaa
open Go.RowKit Go.BigFrame Go.Maps
set_option linter.unusedSimpArgs false
set_option linter.unusedVariables false
set_option maxRecDepth 4000

theorem info_intT : (Try.prog.info? 3).map (fun i => (i.zero, i.size, i.bytes)) = some (some (.int .i64 0), 1, 8) := by kernel_rfl
theorem lawI : Keyed Try.prog 3 := int_keyed Try.underlying3
theorem zeroI (w : World) : (zeroValue 3).run Try.prog w = .ok (.int .i64 0) w := by kernel_rfl
abbrev kI (i : Int) : Lit := .int .i64 i
theorem keyI (i : Int) : WideAt.IsKeyLit (kI i) := trivial
abbrev zI : DataW Unit := .lit (.int .i64 0)
abbrev OwnI (w : World) (b n : Nat) (D : DataW Unit) : Prop := w.ownsMap Try.prog 3 (plainElem Try.prog 3) b n D

theorem kI_ne {i j : Int} (h : i ≠ j) : kI i ≠ kI j := fun e => h (by injection e)
theorem wfI {i : Int} (h0 : -1000000000000 ≤ i) (h : i ≤ 1000000000000) : (Lit.int .i64 i).wf = true := WalkArith.wf_i64 (by omega)

/-! ### Reading rows of numbers -/
theorem intsA_at {w : World} {B : Nat} {v : Value} {xs : List Int} (h : IntsA w B v xs) (h1 : 1 ≤ xs.length) :
    ∃ g cap, v = .slice (some ⟨g, 0, none⟩) xs.length cap ∧ xs.length ≤ cap ∧ cap ≤ 9223372036854775807 ∧ B ≤ g ∧ g < w.heap.size ∧ (∀ i (hi : i < xs.length), w.cell? ⟨g, i, none⟩ = some (.int .i64 xs[i])) := by
  rcases intsA_open h with ⟨rfl, rfl⟩ | ⟨g, cap, E, rest, rfl, hB, hg, _, _, hcp, hcc, hce⟩
  · simp at h1
  · exact ⟨g, cap, rfl, hcc, hcp, hB, hg, hce⟩
theorem intsA_slice {w : World} {B : Nat} {v : Value} {xs : List Int} (h : IntsA w B v xs) : ∃ a cap, v = .slice a xs.length cap ∧ cap ≤ 9223372036854775807 ∧ xs.length ≤ 9223372036854775807 := by
  rcases intsA_open h with ⟨rfl, rfl⟩ | ⟨g, cap, E, rest, rfl, hB, hg, _, hn, hcp, hcc, hce⟩
  · exact ⟨_, 0, rfl, by omega, by simp⟩
  · exact ⟨_, _, rfl, hcp, hn⟩
theorem allI_succ (p : Int → Bool) (xs : List Int) (k : Nat) (h : k < xs.length) : (xs.take (k + 1)).all p = ((xs.take k).all p && p xs[k]) := by
  rw [List.take_succ_eq_append_getElem h, List.all_append]; simp
theorem allI_false (p : Int → Bool) (xs : List Int) (k : Nat) (h : (xs.take k).all p = false) : xs.all p = false := by
  rw [← List.take_append_drop k xs, List.all_append, h]; rfl
def inB (lo hi : Int) (x : Int) : Bool := decide (lo ≤ x ∧ x ≤ hi)

set_option maxHeartbeats 1000000 in
theorem l1All_any (w : World) (B : Nat) (v : Value) (xs : List Int) (lo hi : Int) (ha : IntsA w B v xs) (h1 : 1 ≤ xs.length) :
    Calls Try.prog 83 #[v, .int .i64 lo, .int .i64 hi] w fun e w' => e = .returned (.bool (xs.all (inB lo hi))) ∧ w = w' := by
  obtain ⟨g, cap, rfl, hc1, hc2, _, hg, hce⟩ := intsA_at ha h1
  have HC := Lib.hid hce
  obtain ⟨N, hN⟩ : ∃ N, N = xs.length := ⟨_, rfl⟩
  have HN := Lib.hid hN
  rw [← hN] at hc1 h1 ⊢
  clear ha hce hN
  go_enter Try.func83, Try.ntmps83
  go_wp2_with fail
  go_loop [11] (fun i => ∃ k : Nat, i = .int .i64 k ∧ k ≤ N ∧ Hid ((xs.take k).all (inB lo hi) = true)) (fun i => N - (intOf i).toNat)
  case atStart => exact ⟨0, rfl, Nat.zero_le _, rfl⟩
  case round =>
    obtain ⟨k, rfl, hk, HX⟩ := hrel
    by_cases hlt : k < N
    · have hk' : k < xs.length := by rw [← HN.out]; exact hlt
      have h2 : w.cell? ⟨g, k, none⟩ = some (.int .i64 xs[k]) := HC.out k hk'
      have hs := allI_succ (inB lo hi) xs k hk'
      rw [HX.out, Bool.true_and] at hs
      obtain ⟨x, hx⟩ : ∃ x, x = xs[k] := ⟨_, rfl⟩
      rw [← hx] at h2 hs
      obtain ⟨b, hb⟩ : ∃ b, b = decide (lo ≤ x ∧ x ≤ hi) := ⟨_, rfl⟩
      rw [show inB lo hi x = b from hb.symm] at hs
      have HS := Lib.hid hs; have HB := Lib.hid hb; clear hs hx hb
      go_wp2_with fail
      refine (l1In_is b _ _ _ _ HB.out.symm).mono ?_
      rintro e w2 ⟨rfl, rfl⟩
      cases b with
      | true =>
        go_wp2_with fail
        go_round
        case rel => exact ⟨k + 1, by go_num, by omega, HS.out⟩
        case measure => simp [intOf] <;> omega
      | false =>
        have hf := allI_false (inB lo hi) xs (k + 1) HS.out
        have HF := Lib.hid hf; clear hf
        go_wp2_with fail
        go_ret
        exact ⟨by rw [HF.out]; rfl, rfl⟩
    · obtain rfl : k = N := by omega
      have hf : xs.all (inB lo hi) = true := by have := HX.out; rw [List.take_of_length_le (by rw [← HN.out]; exact Nat.le_refl _)] at this; exact this
      have HF := Lib.hid hf; clear hf
      go_wp2_with fail
      go_ret
      exact ⟨by rw [HF.out]; rfl, rfl⟩

/-- An argument's row of numbers. -/
def ArgL (w : World) (u : Value) (ns : List Int) : Prop :=
  ∃ A C, u = .slice A ns.length C ∧ ns.length ≤ C ∧ C ≤ 9223372036854775807 ∧
    ∀ c (hc : c < ns.length), ∃ b o, A = some ⟨b, o, none⟩ ∧ b < w.heap.size ∧ w.cell? ⟨b, o + c, none⟩ = some (.int .i64 ns[c])
theorem argL_below {w w' : World} {u : Value} {ns : List Int} (h : ArgL w u ns) (hb : Below w.heap.size w w') : ArgL w' u ns := by
  obtain ⟨A, C, h1, h2, h3, h4⟩ := h
  refine ⟨A, C, h1, h2, h3, fun c hc => ?_⟩
  obtain ⟨b, o, e1, e2, e3⟩ := h4 c hc
  exact ⟨b, o, e1, Nat.lt_of_lt_of_le e2 hb.size, (hb.cell (p := ⟨b, o + c, none⟩) e2).trans e3⟩
/-- The first k of a list, the others at rest. -/
def fillL {α : Type} (z : α) (l : List α) (k : Nat) : List α := (List.range l.length).map fun i => if i < k then l.getD i z else z
theorem fillL_len {α : Type} (z : α) (l : List α) (k : Nat) : (fillL z l k).length = l.length := by simp [fillL]
theorem fillL_zero {α : Type} (z : α) (l : List α) : fillL z l 0 = List.replicate l.length z := by
  refine List.ext_getElem (by simp [fillL]) fun i h1 h2 => ?_
  simp [fillL]
theorem fillL_all {α : Type} (z : α) (l : List α) : fillL z l l.length = l := by
  refine List.ext_getElem (by simp [fillL]) fun i h1 h2 => ?_
  simp [fillL, List.getD, h2]
theorem fillL_set {α : Type} (z : α) (l : List α) (k : Nat) (hk : k < l.length) : (fillL z l k).set k l[k] = fillL z l (k + 1) := by
  refine List.ext_getElem (by simp [fillL]) fun i h1 h2 => ?_
  have hi : i < l.length := by simpa [fillL] using h2
  rw [List.getElem_set]
  by_cases e : k = i
  · subst e
    simp [fillL, List.getD, hi]
  · rw [if_neg e]
    by_cases hlt : i < k
    · simp [fillL, hlt, show i < k + 1 by omega]
    · simp [fillL, hlt, show ¬ i < k + 1 by omega]

section
open Go.ChangeShapes Go.WideShapes Go.Deep
theorem add_plainL (b o r : Nat) : (⟨b, o, none⟩ : Addr).add r = ⟨b, o + r, none⟩ := by
  unfold Addr.add
  split
  · subst_vars; rfl
  · rfl
/-- The argument, opened. -/
theorem argL_of_trod {H : Type} {enc : TypeId × Value → H} {W : World} {a0 : Option Addr} {len cap : Nat} {d0 : DataW H} {p0 : List MemPlace}
    (h0 : DataW.Trod enc Try.prog W 0 (fun _ => true) true 22 (.slice a0 len cap) d0 p0) : ∃ ns, ArgL W (.slice a0 len cap) ns := by
  obtain ⟨fuel0, hf⟩ := h0
  rcases open_ints Try.underlying22 Try.underlying3 (by kernel_rfl) hf with ⟨hcs0, hx⟩ | ⟨a, len', cap', zs, hcs0, _, hl, hm, hlen, hx, hcell, _⟩
  · simp [Value.cells] at hcs0
    obtain ⟨rfl, rfl, rfl⟩ := hcs0
    exact ⟨[], none, 0, rfl, Nat.le_refl _, by omega, fun r hr => by simp at hr⟩
  · simp [Value.cells] at hcs0
    obtain ⟨rfl, rfl, rfl⟩ := hcs0
    simp at hlen
    unfold maxLen at hm
    refine ⟨zs.take len, some a, cap, by simp; omega, by simp; omega, by omega, fun c hc => ?_⟩
    have hcl : c < len := by simp at hc; omega
    obtain ⟨b, o, spot⟩ := a
    have hs2 : spot = none := by simpa [Addr.add] using World.cell?_spot (hcell 0 (by omega))
    subst hs2
    have h7 : W.cell? ⟨b, o + c, none⟩ = some (.int .i64 (zs.getD c 0)) := by rw [← hcell c (by omega), add_plainL]
    refine ⟨b, o, rfl, World.block_lt_of_cell? _ _ h7, ?_⟩
    rw [h7]
    simp [List.getD, show c < zs.length by omega]
end

/-- A row is as it was where its block is. -/
theorem intsA_other {w w' : World} {B : Nat} {v : Value} {xs : List Int} (h : IntsA w B v xs) (hk : ∀ k, B ≤ k → k < w.heap.size → w'.heap[k]? = w.heap[k]?) : IntsA w' B v xs := by
  rcases h with h | ⟨g, cap, E, rest, h1, h2, h3, h4⟩
  · exact .inl h
  · exact .inr ⟨g, cap, E, rest, h1, h2, (hk g h2 (Array.getElem?_eq_some_iff.1 h3).1).trans h3, h4⟩

/-! ### Last places and distances back (pure) -/
/-- The last place of a number among the first k of a sequence, from 1; 0 if it is not among them. -/
def lst (s : Nat → Int) (x : Int) : Nat → Nat
  | 0 => 0
  | k + 1 => if s k = x then k + 1 else lst s x k
theorem lst_le (s : Nat → Int) (x : Int) : ∀ k, lst s x k ≤ k
  | 0 => Nat.le_refl _
  | k + 1 => by
    unfold lst; split
    · exact Nat.le_refl _
    · exact Nat.le_succ_of_le (lst_le s x k)
theorem lst_congr {s t : Nat → Int} (x : Int) : ∀ k, (∀ i, i < k → s i = t i) → lst s x k = lst t x k
  | 0, _ => rfl
  | k + 1, h => by
    unfold lst
    rw [h k (Nat.lt_succ_self k), lst_congr x k (fun i hi => h i (Nat.lt_succ_of_lt hi))]
/-- The distance back of the place with an index. -/
def bk (s : Nat → Int) (i : Nat) : Nat := if lst s (s i) i = 0 then 0 else i + 1 - lst s (s i) i
theorem bk_le (s : Nat → Int) (i : Nat) : bk s i ≤ i := by unfold bk; split <;> omega
theorem bk_congr {s t : Nat → Int} (i : Nat) (h : ∀ j, j ≤ i → s j = t j) : bk s i = bk t i := by
  unfold bk
  rw [h i (Nat.le_refl i), lst_congr (t i) i (fun j hj => h j (Nat.le_of_lt hj))]
/-- A list as a sequence. -/
def sq (xs : List Int) (i : Nat) : Int := xs.getD i 0
theorem sq_at {xs : List Int} {i : Nat} (h : i < xs.length) : sq xs i = xs[i] := by simp [sq, List.getD, h]
/-- The first n of a sequence as a list. -/
def upL (s : Nat → Int) (n : Nat) : List Int := (List.range n).map s
theorem upL_len (s : Nat → Int) (n : Nat) : (upL s n).length = n := by simp [upL]
theorem upL_succ (s : Nat → Int) (n : Nat) : upL s (n + 1) = upL s n ++ [s n] := by simp [upL, List.range_succ]
theorem upL_at {s : Nat → Int} {n i : Nat} (h : i < n) : (upL s n)[i]'(by rw [upL_len]; exact h) = s i := by simp [upL]
theorem upL_sq (xs : List Int) : upL (sq xs) xs.length = xs := by
  refine List.ext_getElem (upL_len _ _) fun i h1 h2 => ?_
  rw [upL_at h2, sq_at h2]
theorem upL_congr {s t : Nat → Int} {n : Nat} (h : ∀ i, i < n → s i = t i) : upL s n = upL t n := by
  refine List.ext_getElem (by simp [upL_len]) fun i h1 h2 => ?_
  rw [upL_len] at h1
  rw [upL_at h1, upL_at h1, h i h1]
theorem sq_upL {s : Nat → Int} {n i : Nat} (h : i < n) : sq (upL s n) i = s i := by
  rw [sq_at (by rw [upL_len]; exact h), upL_at h]
/-- All distances back. -/
def bkS (xs : List Int) (i : Nat) : Int := ((bk (sq xs) i : Nat) : Int)
def bkL (xs : List Int) : List Int := upL (bkS xs) xs.length
theorem bkL_len (xs : List Int) : (bkL xs).length = xs.length := upL_len _ _

/-- The bounds of a list of the chapter. -/
def plL (xs : List Int) : Bool := decide (1 ≤ xs.length ∧ xs.length ≤ 60) && xs.all (inB 0 1000)
theorem plL_open {xs : List Int} (h : plL xs = true) : 1 ≤ xs.length ∧ xs.length ≤ 60 ∧ ∀ i (hi : i < xs.length), 0 ≤ xs[i] ∧ xs[i] ≤ 1000 := by
  unfold plL at h
  rw [Bool.and_eq_true, decide_eq_true_eq, List.all_eq_true] at h
  exact ⟨h.1.1, h.1.2, fun i hi => by simpa [inB] using h.2 _ (List.getElem_mem hi)⟩
theorem plL_sq {xs : List Int} (h : plL xs = true) (i : Nat) : 0 ≤ sq xs i ∧ sq xs i ≤ 1000 := by
  by_cases hi : i < xs.length
  · rw [sq_at hi]; exact (plL_open h).2.2 i hi
  · simp [sq, List.getD, List.getElem?_eq_none (Nat.le_of_not_lt hi)]

set_option maxHeartbeats 1000000 in
theorem plGood_any (w : World) (B : Nat) (v : Value) (xs : List Int) (ha : IntsA w B v xs) :
    Calls Try.prog 55 #[v] w fun e w' => e = .returned (.bool (plL xs)) ∧ w = w' := by
  obtain ⟨a, cap, hv, hcp, hn⟩ := intsA_slice ha
  by_cases h1 : 1 ≤ xs.length ∧ xs.length ≤ 60
  · have ht : plL xs = xs.all (inB 0 1000) := by unfold plL; rw [decide_eq_true h1]; rfl
    have hall := l1All_any w B v xs 0 1000 ha h1.1
    rw [← ht] at hall
    have hd : decide ((1 : Int) ≤ (xs.length : Int) ∧ (xs.length : Int) ≤ 60) = true := by simp; omega
    obtain ⟨N, hN⟩ : ∃ N, N = xs.length := ⟨_, rfl⟩
    rw [← hN] at hv hd
    subst hv
    have HALL := Lib.hid hall; have HD := Lib.hid hd; clear hall hd ht ha hN
    go_enter Try.func55, Try.ntmps55
    go_wp2_with fail
    refine (l1In_is true _ _ _ _ HD.out).mono ?_
    rintro e w2 ⟨rfl, rfl⟩
    go_wp2_with fail
    refine HALL.out.mono ?_
    rintro e w2 ⟨rfl, rfl⟩
    go_wp2_with fail
    go_ret
    exact ⟨rfl, rfl⟩
  · have ht : plL xs = false := by unfold plL; rw [decide_eq_false h1]; rfl
    have hd : decide ((1 : Int) ≤ (xs.length : Int) ∧ (xs.length : Int) ≤ 60) = false := by simp; omega
    obtain ⟨N, hN⟩ : ∃ N, N = xs.length := ⟨_, rfl⟩
    rw [← hN] at hv hd
    subst hv
    rw [ht]
    have HD := Lib.hid hd; clear hd ht ha hN
    go_enter Try.func55, Try.ntmps55
    go_wp2_with fail
    refine (l1In_is false _ _ _ _ HD.out).mono ?_
    rintro e w2 ⟨rfl, rfl⟩
    go_wp2_with fail
    go_ret
    exact ⟨rfl, rfl⟩

set_option maxHeartbeats 1000000 in
theorem isPlaceList_any (w : World) (B : Nat) (v : Value) (xs : List Int) (ha : IntsA w B v xs) :
    Calls Try.prog 53 #[v] w fun e w' => e = .returned (.bool (plL xs)) ∧ w = w' := by
  by_cases h1 : 1 ≤ xs.length ∧ xs.length ≤ 60
  · have ht : plL xs = xs.all (inB 0 1000) := by unfold plL; rw [decide_eq_true h1]; rfl
    rw [ht]
    have hd : decide ((1 : Int) ≤ (xs.length : Int) ∧ (xs.length : Int) ≤ 60) = true := by simp; omega
    obtain ⟨g, cap, rfl, hc1, hc2, _, hg, hce⟩ := intsA_at ha h1.1
    have HC := Lib.hid hce
    obtain ⟨N, hN⟩ : ∃ N, N = xs.length := ⟨_, rfl⟩
    have HN := Lib.hid hN
    rw [← hN] at hc1 h1 hd ⊢
    have HD := Lib.hid hd
    clear ha hce hN ht hd
    go_enter Try.func53, Try.ntmps53
    go_wp2_with fail
    refine (isWithin_is true _ _ _ _ HD.out).mono ?_
    rintro e w2 ⟨rfl, rfl⟩
    go_wp2_with fail
    go_loop [11] (fun i => ∃ k : Nat, i = .int .i64 k ∧ k ≤ N ∧ Hid ((xs.take k).all (inB 0 1000) = true)) (fun i => N - (intOf i).toNat)
    case atStart => exact ⟨0, rfl, Nat.zero_le _, rfl⟩
    case round =>
      obtain ⟨k, rfl, hk, HX⟩ := hrel
      by_cases hlt : k < N
      · have hk' : k < xs.length := by rw [← HN.out]; exact hlt
        have h2 : w.cell? ⟨g, k, none⟩ = some (.int .i64 xs[k]) := HC.out k hk'
        have hs := allI_succ (inB 0 1000) xs k hk'
        rw [HX.out, Bool.true_and] at hs
        obtain ⟨x, hx⟩ : ∃ x, x = xs[k] := ⟨_, rfl⟩
        rw [← hx] at h2 hs
        obtain ⟨b, hb⟩ : ∃ b, b = decide ((0 : Int) ≤ x ∧ x ≤ 1000) := ⟨_, rfl⟩
        rw [show inB 0 1000 x = b from hb.symm] at hs
        have HS := Lib.hid hs; have HB := Lib.hid hb; clear hs hx hb
        go_wp2_with fail
        refine (isWithin_is b _ _ _ _ HB.out.symm).mono ?_
        rintro e w2 ⟨rfl, rfl⟩
        cases b with
        | true =>
          go_wp2_with fail
          go_round
          case rel => exact ⟨k + 1, by go_num, by omega, HS.out⟩
          case measure => simp [intOf] <;> omega
        | false =>
          have hf := allI_false (inB 0 1000) xs (k + 1) HS.out
          have HF := Lib.hid hf; clear hf
          go_wp2_with fail
          go_ret
          exact ⟨by rw [HF.out]; rfl, rfl⟩
      · obtain rfl : k = N := by omega
        have hf : xs.all (inB 0 1000) = true := by have := HX.out; rw [List.take_of_length_le (by rw [← HN.out]; exact Nat.le_refl _)] at this; exact this
        have HF := Lib.hid hf; clear hf
        go_wp2_with fail
        go_ret
        exact ⟨by rw [HF.out]; rfl, rfl⟩
  · have ht : plL xs = false := by unfold plL; rw [decide_eq_false h1]; rfl
    obtain ⟨a, cap, hv, hcp, hn⟩ := intsA_slice ha
    have hd : decide ((1 : Int) ≤ (xs.length : Int) ∧ (xs.length : Int) ≤ 60) = false := by simp; omega
    obtain ⟨N, hN⟩ : ∃ N, N = xs.length := ⟨_, rfl⟩
    rw [← hN] at hv hd
    subst hv
    rw [ht]
    have HD := Lib.hid hd; clear hd ht ha hN
    go_enter Try.func53, Try.ntmps53
    go_wp2_with fail
    refine (isWithin_is false _ _ _ _ HD.out).mono ?_
    rintro e w2 ⟨rfl, rfl⟩
    go_wp2_with fail
    go_ret
    exact ⟨rfl, rfl⟩

/-! ### The closure that keeps last places -/
/-- The map tells the last place of each number among the first k of a sequence. -/
structure LstD (D : DataW Unit) (s : Nat → Int) (k : Nat) : Prop where
  tidy : Tidy D
  keys : ∀ x : Int, Maps.has D (kI x) = decide (lst s x k ≠ 0)
  at_ : ∀ x : Int, D.atKey (kI x) zI = .lit (.int .i64 ((lst s x k : Nat) : Int))
theorem lstD_empty (s : Nat → Int) : LstD (.map []) s 0 :=
  ⟨tidy_empty, fun x => by rw [has_eq]; simp [lst], fun x => atKey_of_not_has (by rw [has_eq]; simp) _⟩
theorem LstD.put {D : DataW Unit} {s : Nat → Int} {k : Nat} (h : LstD D s k) {x c : Int} (hx : s k = x) (hc : c = ((k + 1 : Nat) : Int)) : LstD (D.put (kI x) (.lit (.int .i64 c))) s (k + 1) := by
  subst hx; subst hc
  refine ⟨h.tidy.put (keyI _) _, fun y => ?_, fun y => ?_⟩
  · by_cases e : s k = y
    · subst e
      rw [has_put_same h.tidy.isMap (keyI _)]
      simp [lst]
    · rw [has_put_other (kI_ne (fun h => e h.symm)), h.keys]
      simp [lst, e]
  · by_cases e : s k = y
    · subst e
      rw [atKey_put_same h.tidy.isMap (keyI _)]
      simp [lst]
    · rw [atKey_put_other (kI_ne (fun h => e h.symm)), h.at_]
      simp [lst, e]
/-- The two variables of the closure and their map, behind k numbers. -/
def LastAt (w : World) (B pb vb mb k : Nat) (s : Nat → Int) : Prop := ∃ n D, n ≤ k ∧ LstD D s k ∧ OwnI w mb n D ∧
  (B ≤ pb ∧ B ≤ vb ∧ B ≤ mb ∧ pb ≠ mb ∧ vb ≠ mb ∧ pb ≠ vb ∧ pb < w.heap.size ∧ vb < w.heap.size) ∧ w.cell? ⟨pb, 0, none⟩ = some (.int .i64 k) ∧ w.cell? ⟨vb, 0, none⟩ = some (.map (some mb)) ∧ w.frozen? ⟨pb, 0, none⟩ = false
/-- The closure as a value. -/
abbrev lastV (pb vb : Nat) : Value := .func (.func 90) #[] #[.pointer (some ⟨pb, 0, none⟩), .pointer (some ⟨vb, 0, none⟩)]
end Go.Proofs.Ytpglkgpaaflikaa
