/- Chapter 7: loops of counting (pure); the model's LoopOfCounting. -/
import Derived.Test.YtampjipbemmicaaDoor80
import Derived.Deep.QuietTactic
import Derived.BigQuiet
namespace Go.Proofs.YtampjipbemmicaaDoor
open Go.RowKit Go.BigFrame Go.Deep
set_option linter.unusedSimpArgs false
set_option linter.unusedVariables false
set_option maxRecDepth 4000

theorem nodup_lt : ∀ (N : Nat) (l : List Nat), l.Nodup → (∀ x ∈ l, x < N) → l.length ≤ N
  | 0, l, _, h => by
    cases l with
    | nil => simp
    | cons a r => have := h a List.mem_cons_self; omega
  | N + 1, l, hn, h => by
    by_cases hm : N ∈ l
    · have h1 := nodup_lt N (l.erase N) (hn.erase N) (fun x hx => by
        have h2 := (List.Nodup.mem_erase_iff hn).1 hx
        have := h x h2.2
        have := h2.1
        omega)
      rw [List.length_erase_of_mem hm] at h1
      omega
    · have := nodup_lt N l hn (fun x hx => by
        have h1 := h x hx
        have : x ≠ N := fun e => hm (e ▸ hx)
        omega)
      omega
theorem nodup_map {α β : Type} (c : α → β) : ∀ (l : List α), l.Nodup → (∀ x ∈ l, ∀ y ∈ l, c x = c y → x = y) → (l.map c).Nodup
  | [], _, _ => by simp
  | a :: r, hn, h => by
    rw [List.nodup_cons] at hn
    rw [List.map_cons, List.nodup_cons]
    refine ⟨fun hm => ?_, nodup_map c r hn.2 (fun x hx y hy => h x (List.mem_cons_of_mem _ hx) y (List.mem_cons_of_mem _ hy))⟩
    obtain ⟨b, hb, e⟩ := List.mem_map.1 hm
    have := h b (List.mem_cons_of_mem _ hb) a List.mem_cons_self e
    subst this
    exact hn.1 hb
/-- Different things with different numbers below N are at most N. -/
theorem nodup_code {α : Type} (c : α → Nat) (N : Nat) (l : List α) (hn : l.Nodup) (hc : ∀ x ∈ l, ∀ y ∈ l, c x = c y → x = y) (hN : ∀ x ∈ l, c x < N) : l.length ≤ N := by
  have := nodup_lt N (l.map c) (nodup_map c l hn hc) (fun x hx => by
    obtain ⟨a, ha, rfl⟩ := List.mem_map.1 hx
    exact hN a ha)
  simpa using this

/-- Nine numbers below ten as one number. -/
def code9 (ts : List Nat) : Nat := ts.foldr (fun n r => n + 10 * r) 0
theorem code9_inj : ∀ (ps qs : List Nat), ps.length = qs.length → (∀ n ∈ ps, n ≤ 9) → (∀ n ∈ qs, n ≤ 9) → code9 ps = code9 qs → ps = qs
  | [], [], _, _, _, _ => rfl
  | [], b :: r, h, _, _, _ => by simp at h
  | a :: r, [], h, _, _, _ => by simp at h
  | a :: r, b :: s, h, ha, hb, hc => by
    have h1 := ha a List.mem_cons_self
    have h2 := hb b List.mem_cons_self
    simp only [code9, List.foldr_cons] at hc
    have e1 : a = b := by omega
    have e2 : code9 r = code9 s := by simp only [code9]; omega
    rw [e1, code9_inj r s (by simpa using h) (fun n hn => ha n (List.mem_cons_of_mem _ hn)) (fun n hn => hb n (List.mem_cons_of_mem _ hn)) e2]
theorem code9_lt : ∀ (ps : List Nat), (∀ n ∈ ps, n ≤ 9) → code9 ps < 10 ^ ps.length
  | [], _ => by simp [code9]
  | a :: r, h => by
    have h1 := h a List.mem_cons_self
    have h2 := code9_lt r (fun n hn => h n (List.mem_cons_of_mem _ hn))
    simp only [code9, List.foldr_cons, List.length_cons, Nat.pow_succ] at *
    omega

section
variable {α : Type}
/-- The place of a thing in a list; behind all if it is not there. -/
def posL [DecidableEq α] (x : α) : List α → Nat
  | [] => 0
  | a :: r => if a = x then 0 else posL x r + 1
/-- What comes until something comes again, and at which place that was; nothing if a change fails. -/
def loopF [DecidableEq α] (f : α → Option α) : Nat → List α → α → Option (List α × Nat)
  | 0, _, _ => none
  | n + 1, way, x => if x ∈ way then some (way, posL x way) else match f x with
    | none => none
    | some y => loopF f n (way ++ [x]) y
/-- The way so far: each is the change of the one before. -/
structure Way (f : α → Option α) (x0 : α) (way : List α) (x : α) : Prop where
  nodup : way.Nodup
  head : way = [] → x = x0
  first : ∀ a, way[0]? = some a → a = x0
  step : ∀ i a b, way[i]? = some a → way[i + 1]? = some b → f a = some b
  last : ∀ a, way.getLast? = some a → f a = some x
theorem way_nil (f : α → Option α) (x0 : α) : Way f x0 [] x0 := ⟨by simp, fun _ => rfl, by simp, by simp, by simp⟩
theorem way_snoc {f : α → Option α} {x0 x y : α} {way : List α} (h : Way f x0 way x) (hx : x ∉ way) (hf : f x = some y) : Way f x0 (way ++ [x]) y := by
  refine ⟨?_, by simp, ?_, ?_, by simpa using hf⟩
  · rw [List.nodup_append]
    exact ⟨h.nodup, by simp, fun a ha b hb e => by simp at hb; subst hb; subst e; exact hx ha⟩
  · intro a ha
    cases hw : way with
    | nil => rw [hw] at ha; simp at ha; rw [← ha]; exact h.head hw
    | cons b r => rw [hw] at ha; simp at ha; exact h.first a (by rw [hw]; simpa using ha)
  · intro i a b ha hb
    rcases snoc_get hb with hb | ⟨hi, rfl⟩
    · have := get_lt hb
      rw [List.getElem?_append_left (by omega)] at ha
      exact h.step i a b ha hb
    · rw [List.getElem?_append_left (by omega)] at ha
      refine h.last a ?_
      rw [List.getLast?_eq_getElem?, show way.length - 1 = i from by omega]
      exact ha
/-- All but the first one is what a change has made. -/
theorem way_made {f : α → Option α} {x0 x : α} {way : List α} (h : Way f x0 way x) : ∀ a ∈ way, a = x0 ∨ ∃ b, f b = some a := by
  intro a ha
  obtain ⟨i, hi⟩ := List.mem_iff_getElem?.1 ha
  cases i with
  | zero => exact .inl (h.first a hi)
  | succ i =>
    have := get_lt hi
    exact .inr ⟨way[i]'(by omega), h.step i _ a (List.getElem?_eq_getElem (by omega)) hi⟩
/-- Where all that changes make has numbers below N of its own, a way has at most N + 1. -/
theorem way_len {f : α → Option α} {x0 x : α} {way : List α} (h : Way f x0 way x) (c : α → Nat) (N : Nat)
    (hc : ∀ a b u v, f a = some u → f b = some v → c u = c v → u = v) (hN : ∀ a u, f a = some u → c u < N) : way.length ≤ N + 1 := by
  cases hw : way with
  | nil => simp
  | cons a r =>
    have hn := h.nodup
    rw [hw, List.nodup_cons] at hn
    have hr : ∀ u ∈ r, ∃ b, f b = some u := by
      intro u hu
      obtain ⟨i, hi⟩ := List.mem_iff_getElem?.1 hu
      have := get_lt hi
      refine ⟨way[i]'(by rw [hw]; simp; omega), h.step i _ u (List.getElem?_eq_getElem _) (by rw [hw]; simpa using hi)⟩
    have := nodup_code c N r hn.2 (fun u hu v hv e => by
      obtain ⟨x, hx⟩ := hr u hu
      obtain ⟨y, hy⟩ := hr v hv
      exact hc x y u v hx hy e) (fun u hu => by obtain ⟨x, hx⟩ := hr u hu; exact hN x u hx)
    simp
    omega
end

theorem posL_at {α : Type} [DecidableEq α] (x : α) : ∀ (l : List α) (k : Nat) (hk : k < l.length), l[k] = x → (∀ j (hj : j < l.length), j < k → l[j] ≠ x) → x ∈ l ∧ posL x l = k
  | [], k, hk, _, _ => by simp at hk
  | a :: r, 0, _, h, _ => by
    simp at h; subst h
    exact ⟨List.mem_cons_self, by simp [posL]⟩
  | a :: r, k + 1, hk, h, hn => by
    have h0 : a ≠ x := hn 0 (by simp) (by omega)
    obtain ⟨h1, h2⟩ := posL_at x r k (by simpa using hk) (by simpa using h) (fun j hj hjk => hn (j + 1) (by simpa using hj) (by omega))
    exact ⟨List.mem_cons_of_mem _ h1, by unfold posL; rw [if_neg h0, h2]⟩
theorem not_mem_of {α : Type} {x : α} {l : List α} (h : ∀ j (hj : j < l.length), l[j] ≠ x) : x ∉ l := by
  intro hm
  obtain ⟨i, hi, e⟩ := List.mem_iff_getElem.1 hm
  exact h i hi e
theorem loopF_step {α : Type} [DecidableEq α] {K m : Nat} {f : α → Option α} {way : List α} {x : α} (hK : K = m + 1) (hx : x ∉ way) : loopF f K way x = match f x with | none => none | some y => loopF f m (way ++ [x]) y := by
  subst hK; rw [loopF, if_neg hx]
theorem loopF_end {α : Type} [DecidableEq α] {K m : Nat} {f : α → Option α} {way : List α} {x : α} (hK : K = m + 1) (hx : x ∈ way) : loopF f K way x = some (way, posL x way) := by
  subst hK; rw [loopF, if_pos hx]
def tailQ (o : Option (List (List Int) × Nat)) : Int := ((o.getD ([], 0)).2 : Int)
def cycQ (o : Option (List (List Int) × Nat)) : Int := ((o.getD ([], 0)).1.length : Int) - ((o.getD ([], 0)).2 : Int)
def loopQV (o : Option (List (List Int) × Nat)) : Value := .tuple #[.int .i64 (tailQ o), .int .i64 (cycQ o), .bool o.isSome]
def lenQ : Value → Nat
  | .slice _ n _ => n
  | _ => 0
/-- What is counted of told numbers, if these are told ones. -/
def fQ (ns : List (List UInt8)) (fr : List UInt8) (xs : List Int) : Option (List Int) := if toldB ns fr xs = true then againO ns fr xs else none
theorem fQ_some {ns : List (List UInt8)} {fr : List UInt8} {xs ys : List Int} (h : fQ ns fr xs = some ys) : toldB ns fr ys = true ∧ ys.length = xs.length ∧ toldB ns fr xs = true := by
  unfold fQ at h
  by_cases ht : toldB ns fr xs = true
  · rw [if_pos ht] at h
    obtain ⟨_, h2, h3⟩ := againO_some ht h
    exact ⟨h2, h3, ht⟩
  · rw [if_neg ht] at h; cases h
def codeQ (xs : List Int) : Nat := code9 (1 :: xs.map Int.toNat)
theorem told_small {ns : List (List UInt8)} {fr : List UInt8} {xs : List Int} (h : toldB ns fr xs = true) : xs.length ≤ 4 ∧ ∀ x ∈ xs, 0 ≤ x ∧ x ≤ 9 := by
  obtain ⟨h1, _, h3, h4⟩ := toldB_parts h
  have h10 := (langB_parts h1).2.1
  refine ⟨h3, fun x hx => ?_⟩
  obtain ⟨i, hi, e⟩ := List.getElem_of_mem hx
  have := h4 i hi
  rw [e] at this
  omega
theorem code9_pad (ps qs : List Nat) (h : ps.length = qs.length) (hp : ∀ n ∈ ps, n ≤ 9) (hq : ∀ n ∈ qs, n ≤ 9) (e : code9 ps = code9 qs) : ps = qs := code9_inj ps qs h hp hq e
theorem wayQ_len {ns : List (List UInt8)} {fr : List UInt8} {M : Nat} {x0 x : List Int} {way : List (List Int)} (hM : x0.length = M) (h : Way (fun y => if y.length = M then fQ ns fr y else none) x0 way x) : way.length ≤ 10001 := by
  refine way_len h (fun y => code9 (y.map Int.toNat)) 10000 (fun a b u v ha hb e => ?_) (fun a u ha => ?_)
  · split at ha
    · split at hb
      · obtain ⟨a1, a2, _⟩ := fQ_some ha
        obtain ⟨b1, b2, _⟩ := fQ_some hb
        obtain ⟨c1, c2⟩ := told_small a1
        obtain ⟨d1, d2⟩ := told_small b1
        have := code9_inj _ _ (by simp; omega) (fun n hn => by
          obtain ⟨z, hz, rfl⟩ := List.mem_map.1 hn
          have := c2 z hz; omega) (fun n hn => by
          obtain ⟨z, hz, rfl⟩ := List.mem_map.1 hn
          have := d2 z hz; omega) e
        refine List.ext_getElem (by omega) fun i h1 h2 => ?_
        have e2 : (u.map Int.toNat)[i]? = (v.map Int.toNat)[i]? := by rw [this]
        simp only [List.getElem?_map, List.getElem?_eq_getElem h1, List.getElem?_eq_getElem h2, Option.map_some, Option.some.injEq] at e2
        have := c2 _ (List.getElem_mem h1)
        have := d2 _ (List.getElem_mem h2)
        omega
      · cases hb
    · cases ha
  · split at ha
    · obtain ⟨a1, a2, _⟩ := fQ_some ha
      obtain ⟨c1, c2⟩ := told_small a1
      have := code9_lt (u.map Int.toNat) (fun n hn => by
          obtain ⟨z, hz, rfl⟩ := List.mem_map.1 hn
          have := c2 z hz; omega)
      have h10 : 10 ^ (u.map Int.toNat).length ≤ 10 ^ 4 := Nat.pow_le_pow_right (by omega) (by simpa using c1)
      have h11 : (10 : Nat) ^ 4 = 10000 := by decide
      omega
    · cases ha
/-- The change of told numbers of a length. -/
def gQ (ns : List (List UInt8)) (fr : List UInt8) (M : Nat) (y : List Int) : Option (List Int) := if y.length = M then fQ ns fr y else none
theorem gQ_told {ns : List (List UInt8)} {fr : List UInt8} {M : Nat} {y : List Int} (h : toldB ns fr y = true) (hM : y.length = M) : gQ ns fr M y = againO ns fr y := by
  unfold gQ fQ; rw [if_pos hM, if_pos h]
theorem gQ_some {ns : List (List UInt8)} {fr : List UInt8} {M : Nat} {y z : List Int} (h : gQ ns fr M y = some z) : z.length = M ∧ toldB ns fr z = true := by
  unfold gQ at h
  split at h
  · rename_i e
    obtain ⟨h1, h2, _⟩ := fQ_some h
    exact ⟨by omega, h1⟩
  · cases h
theorem wayG_good {ns : List (List UInt8)} {fr : List UInt8} {M : Nat} {x0 x : List Int} {way : List (List Int)} (h : Way (gQ ns fr M) x0 way x) (h0 : x0.length = M ∧ toldB ns fr x0 = true) : ∀ a ∈ way, a.length = M ∧ toldB ns fr a = true := by
  intro a ha
  rcases way_made h a ha with rfl | ⟨b, hb⟩
  · exact h0
  · exact gQ_some hb
def loopO (ns : List (List UInt8)) (fr : List UInt8) (K : Nat) (xs : List Int) : Option (List (List Int) × Nat) := if toldB ns fr xs = true then loopF (gQ ns fr xs.length) K [] xs else none

set_option maxHeartbeats 2000000 in
theorem l1SameL_any (w : World) (u v : Value) (xs ys : List Int) (ha : ArgL w u xs) (hb : ArgL w v ys) (h9 : xs.length ≤ 1000000) (h9' : ys.length ≤ 1000000) :
    Calls Tryd.prog 70 #[u, v] w fun e w' => e = .returned (.bool (decide (xs = ys))) ∧ Below w.heap.size w w' := by
  obtain ⟨A, C, rfl, hC, hC9, hca⟩ := ha
  obtain ⟨A', C', rfl, hC', hC9', hcb⟩ := hb
  have HA := Lib.hid hca; have HB := Lib.hid hcb
  obtain ⟨N, hN⟩ : ∃ N, N = xs.length := ⟨_, rfl⟩
  obtain ⟨M, hM⟩ : ∃ M, M = ys.length := ⟨_, rfl⟩
  have HN := Lib.hid hN; have HM := Lib.hid hM
  rw [← hN] at hC h9 ⊢
  rw [← hM] at hC' h9' ⊢
  clear hca hcb hN hM
  by_cases hl : N = M
  · have HL := Lib.hid hl
    subst hl
    have hne : ((N : Int) != (N : Int)) = false := by simp
    clear HL
    go_enter Tryd.func70, Tryd.ntmps70
    go_wp2_with fail
    go_loopw [13] (fun i wr => ∃ (k : Nat), k ≤ N ∧ i = .int .i64 k ∧ Hid ((∀ j (hj : j < xs.length), j < k → xs[j] = ys.getD j 0) ∧ Below w.heap.size w wr)) (fun i _ => N - (intOf i).toNat)
    case atStart => exact ⟨0, Nat.zero_le _, rfl, fun j _ h => by omega, below_refl _⟩
    case round =>
      obtain ⟨k, hk, rfl, HW⟩ := hrel
      by_cases hlt : k < N
      · have hk1 : k < xs.length := by rw [← HN.out]; exact hlt
        have hk2 : k < ys.length := by rw [← HM.out]; exact hlt
        obtain ⟨b, o, rfl, hb1, hb2⟩ := HA.out k hk1
        obtain ⟨b', o', rfl, hb1', hb2'⟩ := HB.out k hk2
        have h1 : wr.cell? ⟨b, o + k, none⟩ = some (.int .i64 xs[k]) := (HW.out.2.cell (p := ⟨b, o + k, none⟩) hb1).trans hb2
        have h2 : wr.cell? ⟨b', o' + k, none⟩ = some (.int .i64 ys[k]) := (HW.out.2.cell (p := ⟨b', o' + k, none⟩) hb1').trans hb2'
        obtain ⟨x, hx⟩ : ∃ x, x = xs[k] := ⟨_, rfl⟩
        obtain ⟨y, hy⟩ : ∃ y, y = ys[k] := ⟨_, rfl⟩
        rw [← hx] at h1
        rw [← hy] at h2
        by_cases he : x = y
        · have hbe : (x != y) = false := by simpa using he
          have hnew : Hid (∀ j (hj : j < xs.length), j < k + 1 → xs[j] = ys.getD j 0) := fun j hj h => by
            by_cases e : j = k
            · subst e; rw [← hx, he, hy]; simp [List.getD_eq_getElem?_getD, hk2]
            · exact HW.out.1 j hj (by omega)
          clear hx hy he hb2 hb2'
          go_wp2_with fail
          go_quiet (fail)
          go_wp2_with fail
          go_roundw
          case rel => exact ⟨k + 1, by omega, by go_num, hnew.out, HW.out.2.trans (belowN _ _ _)⟩
          case measure => simp [intOf] <;> omega
        · have hbe : (x != y) = true := by simpa using he
          have hd : decide (xs = ys) = false := decide_eq_false (fun e => he (by rw [hx, hy]; subst e; rfl))
          have HD := Lib.hid hd
          clear hx hy he hd hb2 hb2'
          go_wp2_with fail
          go_quiet (fail)
          go_wp2_with fail
          go_ret
          exact ⟨by rw [HD.out]; rfl, HW.out.2.trans (belowN _ _ _)⟩
      · obtain rfl : k = N := by omega
        have hd : decide (xs = ys) = true := decide_eq_true (List.ext_getElem (HN.out.symm.trans HM.out) (fun j j1 j2 => by
          rw [HW.out.1 j j1 (by rw [HN.out]; exact j1)]
          simp [List.getD_eq_getElem?_getD, j2]))
        have HD := Lib.hid hd
        clear hd
        go_wp2_with fail
        go_ret
        exact ⟨by rw [HD.out]; rfl, HW.out.2⟩
  · have hne : ((N : Int) != (M : Int)) = true := by simp; omega
    have hd : decide (xs = ys) = false := decide_eq_false (fun e => hl (by rw [HN.out, HM.out, e]))
    have HD := Lib.hid hd
    clear hd
    go_enter Tryd.func70, Tryd.ntmps70
    go_wp2_with fail
    go_ret
    exact ⟨by rw [HD.out]; rfl, Below.refl _ _⟩


set_option maxHeartbeats 8000000 in
theorem specLoopOfCounting_good (w : World) (B : Nat) (u v : Value) (ns : List (List UInt8)) (fr : List UInt8) (xs : List Int) (K : Nat) (hK : 10010 ≤ K) (h : ArgS w u ns) (hf : fr.length ≤ 9223372036854775807) (ha : IntsA w B v xs) (ht : toldB ns fr xs = true) :
    Calls Tryd.prog 39 #[.agg #[u, .string (bs fr)], v] w fun e w' => e = .returned (loopQV (loopF (gQ ns fr xs.length) K [] xs)) ∧ Below w.heap.size w w' := by
  obtain ⟨i0, hi, hz0, hz1, hz2⟩ := info_parts info_rowT
  obtain ⟨_, h1, h4, _⟩ := toldB_parts ht
  have HTL := Lib.hid (fun (W : World) (hb : Below w.heap.size w W) => snTold_any W u v ns fr xs (argS_below h hb) hf (argL_below (argL_of ha) hb))
  have HOW := Lib.hid (fun (W : World) (hb : Below w.heap.size w W) => l1Own_any W B v xs (intsA_below ha hb) h1 (by omega))
  have HAG : Hid (∀ (W : World) (_ : Below w.heap.size w W) (v' : Value) (ys : List Int) (_ : ArgL W v' ys) (_ : toldB ns fr ys = true), Calls Tryd.prog 64 #[.agg #[u, .string (bs fr)], v'] W fun e w' => ∃ g q, e = .returned (.tuple #[.slice (some ⟨g, 0, none⟩) ys.length ys.length, .bool q]) ∧ (if q = true then some (cntL ns fr ys) else none) = againO ns fr ys ∧ Ints w' W.heap.size (.slice (some ⟨g, 0, none⟩) ys.length ys.length) (cntL ns fr ys) ∧ Below W.heap.size W w') :=
    Lib.hid (fun W hb v' ys hv hy => (snAgain_any W u v' ns fr ys (argS_below h hb) hv hy).mono fun e w' ⟨g, e1, e2, e3⟩ => ⟨g, _, e1, rfl, e2, e3⟩)
  rw [ht] at HTL
  obtain ⟨M, hM⟩ : ∃ M, M = xs.length := ⟨_, rfl⟩
  obtain ⟨a, cap, hv, _, _⟩ := intsA_slice ha
  rw [← hM] at HOW h1 h4 hv ⊢
  subst hv
  obtain ⟨R, hR⟩ : ∃ R, R = loopF (gQ ns fr M) K [] xs := ⟨_, rfl⟩
  rw [← hR]
  have HR := Lib.hid hR
  have HNS := Lib.hid (show xs.length = M ∧ toldB ns fr xs = true from ⟨hM.symm, ht⟩)
  clear h ha ht hM hR
  go_enter Tryd.func39, Tryd.ntmps39
  go_wp2_with fail
  refine (HTL.out _ (below_alloc _ _)).mono ?_
  rintro e w1 ⟨rfl, hb⟩
  have hx1 := (twoAt_new w u (.string (bs fr)) 27).below hb
  have HX1 := Lib.hid hx1
  have HB1 := Lib.hid (below_trans (below_alloc _ _) hb); clear hb hx1
  go_wp2_with fail
  refine (HOW.out _ HB1.out).mono ?_
  rintro e w2 ⟨g, c, rfl, ho, hb⟩
  have hx2 := HX1.out.below (below_trans hb (below_alloc w2 (.cells #[.slice (some ⟨g, 0, none⟩) M c] 31)))
  have hr1 := intsRA_one (intsA_mono ho (Nat.succ_le_of_lt HX1.out.lt)) (Nat.le_trans (Nat.succ_le_of_lt HX1.out.lt) hb.size)
  have H1 := Lib.hid hr1; have HB2 := Lib.hid (below_trans HB1.out (below_trans hb (below_alloc w2 (.cells #[.slice (some ⟨g, 0, none⟩) M c] 31))))
  have HX2 := Lib.hid hx2
  clear ho hb hr1 hx2 HTL HOW
  go_wp2_with fail
  go_loopw [7] (fun v wr => ∃ (way : List (List Int)) (x : List Int) (n : Nat) (vs : List Value) (q : Option Addr) (d : Nat), n = way.length ∧ v = .slice q (n + 1) d ∧ Hid (Way (gQ ns fr M) xs way x ∧ x ∉ way ∧ (x.length = M ∧ toldB ns fr x = true) ∧ loopF (gQ ns fr M) (K - n) way x = R ∧ IntsRA wr (w.heap.size + 1) (.slice q (n + 1) d) vs (way ++ [x]) ∧ Below w.heap.size w wr ∧ TwoAt wr w.heap.size u (.string (bs fr)) 27)) (fun v _ => K + 1 - lenQ v)
  case atStart => exact ⟨[], xs, 0, _, _, _, rfl, rfl, way_nil _ _, by simp, HNS.out, HR.out.symm, H1.out, HB2.out, HX2.out⟩
  case round =>
    obtain ⟨way, x, n, vs, q, d, hn, rfl, HX⟩ := hrel
    obtain ⟨hway, hxn, hxg, hloop, hra, hbl, htw⟩ := HX.out
    have hwl : way.length ≤ 10001 := wayQ_len HNS.out.1 hway
    have hn9 : n ≤ 10001 := by omega
    rcases intsRA_open hra with ⟨e, _⟩ | ⟨g', cap', e, _, hcp, hg', _, hce⟩
    · cases e
    have hgg : q = some ⟨g', 0, none⟩ ∧ d = cap' := by simp only [Value.slice.injEq] at e; exact ⟨e.1, e.2.2⟩
    obtain ⟨rfl, rfl⟩ := hgg
    obtain ⟨uu, hu0, hu, hcu⟩ := hce n (by simp; omega)
    have hrk : (way ++ [x])[n]'(by simp; omega) = x := by simp [hn]
    rw [hrk] at hu
    have hst := loopF_step (K := K - n) (m := K - (n + 1)) (f := gQ ns fr M) (way := way) (x := x) (by omega) hxn
    rw [hloop, gQ_told hxg.2 hxg.1] at hst
    have hvl := hra.len
    have hszr := hbl.size
    have hgf := gQ_told hxg.2 hxg.1
    obtain ⟨c0, c1, _, _⟩ := htw.cells
    have HST := Lib.hid hst; have HVL := Lib.hid hvl; have HNN := Lib.hid hn; have HCE := Lib.hid hce; have HU := Lib.hid hu; have HGF := Lib.hid hgf
    have i1 : (0 : Int) ≤ (n : Int) := by omega
    have i2 : (n : Int) < (n : Int) + 1 := by omega
    have i3 : ¬ ((n : Int) < 0) := by omega
    have i4 : (n : Int).toNat = n := by omega
    have i5 : n < n + 1 := by omega
    have i7 : IntKind.i64.wrap (n : Int) = (n : Int) := by rw [IntKind.wrap_i64]; omega
    clear hst hvl hrk hu hu0 hn hway hxn hxg hloop hra hbl hwl e hce hgf htw
    go_wp2_with fail
    go_region_with (go_at_call 64; ((with_reducible refine (HAG.out _ HX.out.2.2.2.2.2.1.drew _ x (argL_of (intsA_below HU.out (below_drew _))) HX.out.2.2.1.2).mono ?_); rintro e w2 ⟨gt, qb, rfl, hq2, hi2, hb2⟩; have HQ2 := Lib.hid hq2; have HI2 := Lib.hid hi2; have HB3 := Lib.hid (below_trans (below_drew _) hb2); clear hi2 hb2 hq2))
    all_goals
      have HB4 := Lib.hid (HX.out.2.2.2.2.2.1.trans (HB3.out.mono hszr))
      have hxl : x.length = M := HX.out.2.2.1.1
      rw [hxl] at HI2 ⊢
      cases qb with
      | false =>
        have hR0 : R = none := by rw [HST.out, ← HQ2.out]; rfl
        subst hR0
        go_wp2_with fail
        go_ret3
        exact ⟨rfl, HB4.out⟩
      | true =>
        obtain ⟨y, hy⟩ : ∃ y, y = cntL ns fr x := ⟨_, rfl⟩
        rw [← hy] at HI2 HQ2
        have hfy : againO ns fr x = some y := by rw [← HQ2.out]; rfl
        have hyg := gQ_some (M := M) (HGF.out.trans hfy)
        have hst2 : R = loopF (gQ ns fr M) (K - (n + 1)) (way ++ [x]) y := by rw [HST.out, hfy]
        have HFT := Lib.hid (HGF.out.trans hfy); have HYG := Lib.hid hyg; have HS2 := Lib.hid hst2
        have HNEW := Lib.hid (intsA_of HI2.out)
        have HZ2 := Lib.hid HB3.out.size
        clear hst2 hfy hyg hy hxl
        go_wp2_with fail
        go_loopw [34] (fun i wq => ∃ k : Nat, i = .int .i64 k ∧ k ≤ n + 1 ∧ Hid ((∀ j (hj : j < (way ++ [x]).length), j < k → (way ++ [x])[j] ≠ y) ∧ Below w2.heap.size w2 wq)) (fun i _ => n + 1 - (intOf i).toNat)
        case atStart => exact ⟨0, rfl, Nat.zero_le _, fun j _ h => by omega, below_refl _⟩
        case round =>
          obtain ⟨k, rfl, hk, HY⟩ := hrel
          have hbr := below_trans HB3.out HY.out.2
          by_cases hlt : k < n + 1
          · have hk' : k < (way ++ [x]).length := by have := HNN.out; simp; omega
            obtain ⟨uz, _, hu, hcu2⟩ := HCE.out k hk'
            have h1 : wr.cell? ⟨g', k, none⟩ = some uz := (hbr.cell (p := ⟨g', k, none⟩) hg').trans hcu2
            obtain ⟨z, hz⟩ : ∃ z, z = (way ++ [x])[k] := ⟨_, rfl⟩
            rw [← hz] at hu
            have hzl : z.length = M := by
              have hm : z ∈ way ++ [x] := by rw [hz]; exact List.getElem_mem _
              rw [List.mem_append] at hm
              rcases hm with hm | hm
              · exact (wayG_good HX.out.1 HNS.out z hm).1
              · simp at hm; subst hm; exact HX.out.2.2.1.1
            have hsm := l1SameL_any wr uz (.slice (some ⟨gt, 0, none⟩) M M) z y (argL_of (intsA_below hu hbr)) (argL_of (intsA_below HNEW.out HY.out.2)) (by rw [hzl]; omega) (by rw [HYG.out.1]; omega)
            by_cases he : z = y
            · rw [decide_eq_true he] at hsm
              obtain ⟨j1, j2⟩ := posL_at y (way ++ [x]) k hk' (by rw [← hz]; exact he) HY.out.1
              have hst := HS2.out
              rw [loopF_end (m := K - (n + 2)) (by omega) j1, j2] at hst
              have HS3 := Lib.hid hst; have HSM := Lib.hid hsm
              clear hst hz he j1 j2 HST HS2 hsm hu hcu2 hzl hbr
              go_wp2_with fail
              refine HSM.out.mono ?_
              rintro e w4 ⟨rfl, hb4⟩
              have HB5 := Lib.hid hb4; clear hb4
              go_wp2_with fail
              go_ret3
              refine ⟨?_, HX.out.2.2.2.2.2.1.trans ((below_trans HB3.out (below_trans HY.out.2 HB5.out)).mono hszr)⟩
              rw [HS3.out]
              have e : (((way ++ [x]).length : Nat) : Int) = (n : Int) + 1 := by have := HNN.out; simp; omega
              simp only [loopQV, tailQ, cycQ, Option.getD_some, Option.isSome_some, e]
              rfl
            · rw [decide_eq_false he] at hsm
              have hnw : Hid (∀ j (hj : j < (way ++ [x]).length), j < k + 1 → (way ++ [x])[j] ≠ y) := fun j hj h => by
                by_cases e : j = k
                · subst e; rw [← hz]; exact he
                · exact HY.out.1 j hj (by omega)
              have HSM := Lib.hid hsm
              clear hz he hsm hu hcu2 hzl hbr
              go_wp2_with fail
              refine HSM.out.mono ?_
              rintro e w4 ⟨rfl, hb4⟩
              have HB5 := Lib.hid hb4; clear hb4
              go_wp2_with fail
              go_roundw
              case rel => exact ⟨k + 1, by go_num, by omega, hnw.out, below_trans HY.out.2 HB5.out⟩
              case measure => simp [intOf] <;> omega
          · obtain rfl : k = n + 1 := by omega
            have hno : y ∉ way ++ [x] := not_mem_of (fun j hj => HY.out.1 j hj (by have := HNN.out; simp at hj; omega))
            have HNO := Lib.hid hno; clear hno
            have hX2 := intsRA_below HX.out.2.2.2.2.1 hbr
            have hX3 := intsRA_below hX2 (below_alloc wr (.cells #[.slice (some ⟨gt, 0, none⟩) M M] 31))
            have hN3 := intsA_below (intsA_below HNEW.out HY.out.2) (below_alloc wr (.cells #[.slice (some ⟨gt, 0, none⟩) M M] 31))
            have HX3 := Lib.hid hX3; have HN3 := Lib.hid hN3; have HX2b := Lib.hid hX2
            have HTW := Lib.hid ((HX.out.2.2.2.2.2.2.below hbr).below (below_alloc wr (.cells #[.slice (some ⟨gt, 0, none⟩) M M] 31)))
            have HBW := Lib.hid (HX.out.2.2.2.2.2.1.trans (hbr.mono hszr))
            have HLT := Lib.hid (fun z hz => (HX.out.2.2.2.2.1.outer.lt z hz).2)
            have HIL := Lib.hid HX.out.2.2.2.2.2.2.lt
            have HWL := Lib.hid hbr.size
            clear hX2 hX3 hN3 hbr
            have hcell1 : ∀ (j : Nat) (x : Value), ([.slice (some ⟨gt, 0, none⟩) M M] : List Value)[j]? = some x → (wr.alloc (.cells #[.slice (some ⟨gt, 0, none⟩) M M] 31)).cell? ((⟨wr.heap.size, 0, none⟩ : Addr).add j) = some x := by
              intro j x hj
              match j, hj with
              | 0, hj => simp at hj; subst hj; rw [add_plainL]; exact cell_new _ _ _
              | j + 1, hj => simp at hj
            have hone1 : ∀ x ∈ ([.slice (some ⟨gt, 0, none⟩) M M] : List Value), x.oneCell' = true := fun x hx => by simp at hx; subst hx; rfl
            have hvl : vs.length = n + 1 := by rw [← HVL.out]; have := HNN.out; simp; omega
            have hbase1 : w.heap.size + 1 ≤ (wr.alloc (.cells #[.slice (some ⟨gt, 0, none⟩) M M] 31)).heap.size := by
              have h1 := HIL.out; have h2 := HBW.out.size
              have h3 := HTW.out.lt
              omega
            have HC1 := Lib.hid hcell1; have HO1 := Lib.hid hone1; have HB1' := Lib.hid hbase1; have HVS := Lib.hid hvl
            clear hcell1 hone1 hbase1 hvl
            go_wp2_with (at_builtin; refine wpList_app _ rfl _ _ 45 rfl (w.heap.size + 1) 31 i0 (.slice none 0 0) 24 Tryd.underlying45 hi hz0 hz1 hz2 rfl _ (n + 1) vs rfl (by have := HX3.out.outer; rw [HVS.out] at this; exact this) ⟨wr.heap.size, 0, none⟩ 1 1 [.slice (some ⟨gt, 0, none⟩) M M] rfl rfl HC1.out HO1.out (by unfold maxLen; omega) (by omega) HB1'.out ?_)
            intro v' w3 hown' hgrow hwh
            obtain ⟨av', cv', rfl⟩ := own_slice hown'
            have hsn := intsRA_snoc (u := .slice (some ⟨gt, 0, none⟩) M M) (xs := y) HX3.out (intsA_mono HN3.out (Nat.succ_le_of_lt HIL.out)) (fun i u' hi' => by
                intro z e1 e2
                have e' := (intsA_lt HN3.out z e2).1
                obtain ⟨u2, f1, f2⟩ := intsRA_row HX.out.2.2.2.2.1 i (by rw [HX.out.2.2.2.2.1.len]; exact get_lt hi')
                rw [hi'] at f1; cases f1
                have := (intsA_lt f2 z e1).2
                have e3 : ∀ W : World, W.drew.heap.size = W.heap.size := fun W => rfl
                rw [e3] at e'
                omega) (by
                intro z e1 e2
                have e' := (intsA_lt HN3.out z e1).1
                have := HLT.out z e2
                have e3 : ∀ W : World, W.drew.heap.size = W.heap.size := fun W => rfl
                rw [e3] at e'
                omega) (by rw [HVS.out]; exact hown') hgrow (by rw [Go.Deep.nblk_alloc]; exact hwh)
            have R1 := Lib.hid hsn
            have R2 := Lib.hid ((HBW.out.alloc HBW.out.size (.cells #[.slice (some ⟨gt, 0, none⟩) M M] 31)).grown hgrow (by have := HBW.out.size; simp; omega) (fun q hq => Nat.le_of_succ_le (HX2b.out.outer.lt q hq).1))
            have hne0 : ∀ q, (Value.slice (some ⟨g', 0, none⟩) (n + 1) d).ownBlock = some q → q ≠ w.heap.size := fun q hq e => by
              have := (HX.out.2.2.2.2.1.outer.lt q hq).1
              omega
            have R3 : Hid (TwoAt w3 w.heap.size u (.string (bs fr)) 27) := Lib.hid ((hgrow.block w.heap.size HTW.out.lt (fun e => hne0 w.heap.size e.symm rfl)).trans HTW.out)
            clear hown' hgrow hwh hsn hne0
            go_wp2_with fail
            go_roundw
            case rel =>
              refine ⟨way ++ [x], y, n + 1, vs ++ [.slice (some ⟨gt, 0, none⟩) M M], _, _, by have := HNN.out; simp; omega, rfl, way_snoc HX.out.1 HX.out.2.1 HFT.out, HNO.out, HYG.out, HS2.out.symm, ?_, R2.out, R3.out⟩
              have := R1.out
              simpa using this
            case measure => simp [lenQ] <;> omega
end Go.Proofs.YtampjipbemmicaaDoor
