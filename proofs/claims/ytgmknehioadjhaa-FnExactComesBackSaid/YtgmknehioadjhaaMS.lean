/- SplitLater: pure; the model's copy of a list. -/
import Derived.Test.YtgmknehioadjhaaM4
import Derived.Test.YtgmknehioadjhaaN9
namespace Go.Proofs.Ytgmknehioadjhaa
open Go.RowKit Go.BigFrame
set_option linter.unusedSimpArgs false
set_option linter.unusedVariables false
set_option maxRecDepth 4000

def flatS (rows : Nat → List Nat) (l : List Nat) : List Nat := l.flatMap rows
def splF (rows : Nat → List Nat) : Nat → List Nat → Option (List Nat)
  | 0, l => some l
  | t + 1, l => if 400 < (flatS rows l).length then none else splF rows t (flatS rows l)
theorem flatS_take (rows : Nat → List Nat) {l : List Nat} {k : Nat} (hk : k < l.length) : flatS rows (l.take (k + 1)) = flatS rows (l.take k) ++ rows l[k] := by
  unfold flatS
  rw [List.take_succ_eq_append_getElem hk, List.flatMap_append]
  simp
theorem flatS_le (rows : Nat → List Nat) (l : List Nat) (k : Nat) : (flatS rows (l.take k)).length ≤ (flatS rows l).length := by
  have h : flatS rows l = flatS rows (l.take k) ++ flatS rows (l.drop k) := by unfold flatS; rw [← List.flatMap_append, List.take_append_drop]
  rw [h, List.length_append]; omega
def inS (n : Int) : Bool := decide (0 ≤ n ∧ n ≤ 12)
def outN (ns : List (List UInt8)) (is : List Nat) : List (List UInt8) := is.map fun i => ns.getD i []
def slQ (l : List UInt8) (n : Int) : Option (List (List UInt8)) :=
  if inS n = true then
    match tabQ l with
    | some ns => (splF (rowN ns) n.toNat (begN (partsL l) ns)).map (outN ns)
    | none => none
  else none
theorem slQ_some {l : List UInt8} {n : Int} {ns : List (List UInt8)} (h : tabQ l = some ns) (hn : inS n = true) : slQ l n = (splF (rowN ns) n.toNat (begN (partsL l) ns)).map (outN ns) := by
  unfold slQ; rw [if_pos hn, h]
theorem slQ_none {l : List UInt8} {n : Int} (h : tabQ l = none) : slQ l n = none := by
  unfold slQ; split
  · rw [h]
  · rfl
theorem slQ_out {l : List UInt8} {n : Int} (h : inS n = false) : slQ l n = none := by unfold slQ; rw [h]; rfl
theorem splF_le (rows : Nat → List Nat) : ∀ (t : Nat) (l r : List Nat), splF rows t l = some r → l.length ≤ 400 → r.length ≤ 400
  | 0, l, r, h, hl => by cases h; exact hl
  | t + 1, l, r, h, hl => by
    rw [splF] at h
    split at h
    · cases h
    · exact splF_le rows t _ r h (by omega)
theorem slQ_le {l : List UInt8} {n : Int} : ((slQ l n).getD []).length ≤ 1000 := by
  unfold slQ
  split
  · cases hq : tabQ l with
    | none => simp
    | some ns =>
      cases hs : splF (rowN ns) n.toNat (begN (partsL l) ns) with
      | none => simp [hs]
      | some r =>
        have hb := (tabQ_parts hq).2
        have := splF_le _ _ _ _ hs (by unfold begN; simp; omega)
        simp [hs, outN]; omega
  · simp
/-- All entries are places among the names. -/
def AllLt (n : Nat) (l : List Nat) : Prop := ∀ x ∈ l, x < n
theorem rowN_lt {W : World} {n₀ top K : Nat} {v : Value} {ns : List (List UInt8)} {T E : TypeId} {enc : Nat → List Nat → List Value} (h : RowsX T E enc W n₀ top v K ns) {k : Nat} (hk : k < K) : AllLt ns.length (rowN ns k) := by
  obtain ⟨xd, _, h2⟩ := h
  obtain ⟨p, u, e1, _, _, e4⟩ := h2 k hk
  rw [rowN_get e1]
  intro x hx
  unfold linkL at hx
  obtain ⟨q, hq, rfl⟩ := List.mem_map.1 hx
  exact posN_mem.2 (e4 q hq)
theorem flat_lt {n : Nat} {rows : Nat → List Nat} {l : List Nat} (h : ∀ k, k < n → AllLt n (rows k)) (hl : AllLt n l) : AllLt n (flatS rows l) := fun x hx => by
  unfold flatS at hx
  obtain ⟨k, hk, hx⟩ := List.mem_flatMap.1 hx
  exact h k (hl k hk) x hx
abbrev NR (W : World) (B : Nat) (v : Value) (T : Nat) (l : List Nat) : Prop := W.ownsRow B 3 1 v T ((natsI l).map (.int .i64))
theorem NR.ints {W : World} {B T : Nat} {v : Value} {l : List Nat} (h : NR W B v T l) (hT : T = l.length) : Ints W B v (natsI l) := by
  subst hT; unfold Ints; rw [natsI_len]; exact h
theorem NR.of {W : World} {B T : Nat} {v : Value} {l : List Nat} (h : Ints W B v (natsI l)) (hT : T = l.length) : NR W B v T l := by
  subst hT; unfold Ints at h; rw [natsI_len] at h; exact h
theorem NR.at_ {W : World} {B T k : Nat} {v : Value} {l : List Nat} (h : NR W B v T l) (hT : T = l.length) (hk : k < T) : ∃ g c, v = .slice (some ⟨g, 0, none⟩) T c ∧ W.cell? ⟨g, k, none⟩ = some (.int .i64 (l.getD k 0 : Nat)) ∧ g < W.heap.size ∧ B ≤ g := by
  obtain ⟨g, c, rfl, h1, h2⟩ := ints_posI (h.ints hT) (by intro e; have := congrArg List.length e; rw [natsI_len] at this; simp only [List.length_nil] at this; omega)
  have := (ints_at (h.ints hT) (j := k) (by rw [natsI_len]; omega)).1
  refine ⟨g, c, by rw [natsI_len, hT], ?_, h2, h1⟩
  rw [this]
  have hkl : k < l.length := by omega
  simp [natsI, List.getD, List.getElem?_eq_getElem hkl]
theorem NR.app {W : World} {B T m : Nat} {v : Value} {l r : List Nat} (h : W.ownsRow B 3 1 v (T + m) ((natsI l).map (.int .i64) ++ (natsI r).map (.int .i64))) : NR W B v (T + m) (l ++ r) := by
  unfold NR
  rw [show natsI (l ++ r) = natsI l ++ natsI r by simp [natsI], List.map_append]
  exact h
set_option maxHeartbeats 1000000 in
theorem l1OwnM_any (w : World) (g m c : Nat) (l : List Nat) (hm : m = l.length) (h9 : m ≤ 1000) (hc : ∀ j, j < m → w.cell? ⟨g, j, none⟩ = some (.int .i64 (l.getD j 0 : Nat))) :
    Calls Try.prog 52 #[.slice (some ⟨g, 0, none⟩) m c] w fun e w' => ∃ v, e = .returned v ∧ NR w' w.heap.size v m l ∧ Below w.heap.size w w' := by
  obtain ⟨i0, hi, hz0, hz1, hz2⟩ := info_parts info_int5
  have HC := Lib.hid hc; have HM := Lib.hid hm; clear hc hm
  go_enter Try.func52, Try.ntmps52
  go_wp2_with (at_builtin; refine wpList_app _ rfl _ _ 30 rfl w.heap.size 3 i0 (.int .i64 0) 8 Try.underlying30 hi hz0 hz1 hz2 rfl _ 0 [] rfl (own_lit w w.heap.size 3 [] (Nat.le_refl _) (by simp [maxLen])) ⟨g, 0, none⟩ m c ((natsI l).map (.int .i64)) rfl (by rw [HM.out]; simp [natsI]) ?c1 ?c2 ?c3 ?c4 ?c5 ?_)
  case c1 =>
    intro j u hj
    obtain ⟨hjl, e⟩ := List.getElem?_eq_some_iff.1 hj
    have hjl' : j < l.length := by simpa [natsI] using hjl
    have hcj := HC.out j (by rw [HM.out]; exact hjl')
    have hlt := World.block_lt_of_cell? w _ hcj
    have e2 : (⟨g, 0, none⟩ : Addr).add j = ⟨g, j, none⟩ := by
      cases j with
      | zero => rfl
      | succ j => simp [Addr.add]
    rw [e2, (below_alloc w _).cell (p := ⟨g, j, none⟩) hlt, hcj, ← e]
    simp [natsI, List.getD, List.getElem?_eq_getElem hjl']
  case c2 => intro u hu; obtain ⟨x, _, rfl⟩ := List.mem_map.1 hu; rfl
  case c3 => unfold maxLen; omega
  case c4 => omega
  case c5 => simp
  intro v' w1 hown hgr hwh
  have hown : NR w1 w.heap.size v' m l := by simpa using hown
  have HO := Lib.hid hown
  have HB := Lib.hid ((below_alloc w (.cells #[] 3)).grown hgr (by simp) (fun r e => by cases e; exact Nat.le_refl _))
  clear hown hgr hwh
  go_wp2_with fail
  go_ret
  exact ⟨_, rfl, HO.out, HB.out⟩
end Go.Proofs.Ytgmknehioadjhaa
