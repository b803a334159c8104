/- Pure facts for the law FnListsTold: the self-told lists one by one, sums, loops by iterates. -/
import Derived.Test.YtkdoghopbefjfaaU9
import Derived.Test.YtkdoghopbefjfaaU10
import Derived.Test.YtkdoghopbefjfaaQ1
namespace Go.Proofs.Ytkdoghopbefjfaa
open Go.RowKit Go.BigFrame
set_option linter.unusedSimpArgs false
set_option linter.unusedVariables false
set_option maxRecDepth 4000

/-! ### The self-told lists -/
def badB (b : List Nat) : Bool := (List.range b.length).any fun v => decide (b.getD v 0 < b.count v)
def selP (n : Nat) : Nat → List Nat → Nat → List (List Nat)
  | 0, b, _ => if selfT b = true then [b] else []
  | d + 1, b, left => if badB b = true then [] else (List.range' 0 (left + 1)).flatMap fun x => selP n d (b ++ [x]) (left - x)
theorem self_bad {b s : List Nat} (h : badB b = true) : selfT (b ++ s) = false := by
  unfold badB at h
  obtain ⟨v, hv, hlt⟩ := List.any_eq_true.1 h
  rw [List.mem_range] at hv
  have hlt := of_decide_eq_true hlt
  unfold selfT
  refine decide_eq_false fun e => ?_
  have h1 : (tel (b ++ s).length (b ++ s))[v]? = (b ++ s)[v]? := by rw [e]
  rw [tel_at _ _ v (by simp; omega), List.getElem?_append_left hv, List.count_append, List.getElem?_eq_getElem hv, Option.some.injEq] at h1
  have : b.getD v 0 = b[v] := by simp [List.getD, hv]
  omega
theorem selP_is (n : Nat) : ∀ (d : Nat) (b : List Nat) (left : Nat), b.length + d = n → left ≤ n → selfs n b left = selP n d b left
  | 0, b, left, h, _ => selfs_end n b left (by omega)
  | d + 1, b, left, h, hl => by
    unfold selP
    split
    · rename_i hb
      unfold selfs
      rw [List.filter_eq_nil_iff]
      intro l hl'
      obtain ⟨s, _, rfl⟩ := List.mem_map.1 hl'
      rw [self_bad hb]
      simp
    · rw [selfs_go n b left (by omega) hl]
      unfold selfK
      congr 1
      funext x
      exact selP_is n d (b ++ [x]) (left - x) (by simp; omega) (by omega)
def selE : Nat → List (List Nat)
  | 4 => [[1, 2, 1, 0], [2, 0, 2, 0]]
  | 5 => [[2, 1, 2, 0, 0]]
  | 7 => [[3, 2, 1, 1, 0, 0, 0]]
  | 8 => [[4, 2, 1, 0, 1, 0, 0, 0]]
  | 9 => [[5, 2, 1, 0, 0, 1, 0, 0, 0]]
  | _ => []
theorem selE_is (n : Nat) (h1 : 1 ≤ n) (h9 : n ≤ 9) : selfs n [] n = selE n := by
  rw [selP_is n n [] n (by simp) (Nat.le_refl _)]
  have e : n = 1 ∨ n = 2 ∨ n = 3 ∨ n = 4 ∨ n = 5 ∨ n = 6 ∨ n = 7 ∨ n = 8 ∨ n = 9 := by omega
  rcases e with rfl | rfl | rfl | rfl | rfl | rfl | rfl | rfl | rfl <;> decide +kernel

/-! ### Sums -/
def inK (n : Nat) (ns : List Nat) : Nat → Nat
  | 0 => 0
  | k + 1 => inK n ns k + if ns.getD k 0 < n then 1 else 0
def wK (ns : List Nat) : Nat → Nat
  | 0 => 0
  | k + 1 => wK ns k + k * ns.getD k 0
theorem inK_le (n : Nat) (ns : List Nat) : ∀ k, inK n ns k ≤ k
  | 0 => Nat.le_refl _
  | k + 1 => by have := inK_le n ns k; unfold inK; split <;> omega
theorem wK_le (ns : List Nat) (h : ∀ x ∈ ns, x ≤ 9) : ∀ k, k ≤ 9 → wK ns k ≤ 81 * k
  | 0, _ => Nat.le_refl _
  | k + 1, hk => by
    have := wK_le ns h k (by omega)
    have hx : ns.getD k 0 ≤ 9 := by
      by_cases hl : k < ns.length
      · rw [show ns.getD k 0 = ns[k] by simp [List.getD, hl]]; exact h _ (List.getElem_mem hl)
      · simp [List.getD, List.getElem?_eq_none (Nat.le_of_not_lt hl)]
    have : k * ns.getD k 0 ≤ 9 * 9 := Nat.mul_le_mul (by omega) hx
    unfold wK
    omega
theorem sum_setN : ∀ (l : List Nat) (i x : Nat) (h : i < l.length), (l.set i x).sum + l[i] = l.sum + x
  | [], i, x, h => absurd h (Nat.not_lt_zero _)
  | a :: t, 0, x, h => by simp; omega
  | a :: t, i + 1, x, h => by
    have := sum_setN t i x (by simpa using h)
    simp only [List.set_cons_succ, List.sum_cons, List.getElem_cons_succ]
    omega
theorem tel_sum (n : Nat) (ns : List Nat) : ∀ k, k ≤ ns.length → (tel n (ns.take k)).sum = inK n ns k
  | 0, _ => by rw [List.take_zero, tel_nil]; simp [inK]
  | k + 1, hk => by
    have hk' : k < ns.length := by omega
    have ih := tel_sum n ns k (by omega)
    rw [List.take_succ_eq_append_getElem hk']
    unfold inK
    rw [show ns.getD k 0 = ns[k] by simp [List.getD, hk']]
    by_cases hx : ns[k] < n
    · rw [tel_step n _ _ hx, if_pos hx]
      have h2 := sum_setN (tel n (ns.take k)) ns[k] ((ns.take k).count ns[k] + 1) (by rw [tel_len]; exact hx)
      have h3 : (tel n (ns.take k))[ns[k]]'(by rw [tel_len]; exact hx) = (ns.take k).count ns[k] := by
        have := tel_at n (ns.take k) ns[k] hx
        rw [List.getElem?_eq_getElem (by rw [tel_len]; exact hx), Option.some.injEq] at this
        exact this
      rw [h3] at h2
      omega
    · rw [tel_skip n _ _ hx, if_neg hx]
      omega
theorem tel_sum_all (n : Nat) (ns : List Nat) : (tel n ns).sum = inK n ns ns.length := by
  have := tel_sum n ns ns.length (Nat.le_refl _)
  rwa [List.take_length] at this
theorem mem_allS (mo : Nat) : ∀ (l : List Nat) (left : Nat), (∀ x ∈ l, x ≤ mo) → l.sum ≤ left → l ∈ allS mo l.length left
  | [], left, _, _ => by simp [allS]
  | y :: t, left, h, hs => by
    rw [List.sum_cons] at hs
    show y :: t ∈ (List.range' 0 (min mo left + 1)).flatMap fun y => (allS mo t.length (left - y)).map (y :: ·)
    refine List.mem_flatMap.2 ⟨y, ?_, List.mem_map.2 ⟨t, mem_allS mo t (left - y) (fun x hx => h x (List.mem_cons_of_mem _ hx)) (by omega), rfl⟩⟩
    have := h y List.mem_cons_self
    rw [List.mem_range'_1]
    omega
theorem self_mem {ns : List Nat} (h1 : 1 ≤ ns.length) (h9 : ns.length ≤ 9) (hle : ∀ x ∈ ns, x ≤ ns.length) (hs : selfT ns = true) : ns ∈ selE ns.length := by
  rw [← selE_is ns.length h1 h9]
  have e : tel ns.length ns = ns := of_decide_eq_true hs
  unfold selfs
  refine List.mem_filter.2 ⟨?_, hs⟩
  rw [List.length_nil, Nat.sub_zero]
  refine List.mem_map.2 ⟨ns, mem_allS ns.length ns ns.length hle ?_, rfl⟩
  have h2 := tel_sum_all ns.length ns
  rw [e] at h2
  rw [h2]
  exact inK_le _ _ _
theorem selE_facts : ∀ n, n ≤ 9 → ∀ l ∈ selE n, l.sum = n ∧ wK l n = n := by
  intro n h
  have : ∀ n : Fin 10, ∀ l ∈ selE n, l.sum = n ∧ wK l n = n := by decide +kernel
  exact this ⟨n, by omega⟩
/-- A self-told list's sums. -/
theorem self_sums {ns : List Nat} (h1 : 1 ≤ ns.length) (h9 : ns.length ≤ 9) (hle : ∀ x ∈ ns, x ≤ ns.length) (hs : selfT ns = true) : ns.sum = ns.length ∧ wK ns ns.length = ns.length :=
  selE_facts ns.length h9 ns (self_mem h1 h9 hle hs)

/-! ### Loops -/
def itT (L : Nat) (ns : List Nat) : Nat → List Nat
  | 0 => ns
  | i + 1 => tel L (itT L ns i)
theorem itT_len {L : Nat} {ns : List Nat} (h : ns.length = L) : ∀ i, (itT L ns i).length = L
  | 0 => h
  | i + 1 => tel_len _ _
theorem posL_at {α : Type} [DecidableEq α] (x : α) : ∀ (l : List α), x ∈ l → ∃ h : posL x l < l.length, l[posL x l] = x
  | [], h => by cases h
  | a :: r, h => by
    unfold posL
    by_cases e : a = x
    · simp only [if_pos e]
      exact ⟨by simp, e⟩
    · simp only [if_neg e]
      obtain ⟨h1, h2⟩ := posL_at x r (by rcases List.mem_cons.1 h with rfl | h; (· exact absurd rfl e); (· exact h))
      exact ⟨by simp; exact h1, by simpa using h2⟩
theorem loop_ends {L : Nat} (h9 : L ≤ 9) {x0 : List Nat} : ∀ (m : Nat) (way : List (List Nat)) (x : List Nat), Way (fT L) x0 way x → x.length = L → 1000000010 ≤ way.length + m →
    ∃ W y, loopF (fT L) m way x = some (W, posL y W) ∧ Way (fT L) x0 W y ∧ y ∈ W
  | 0, way, x, hw, _, hm => by
    have := wayT_len h9 hw
    omega
  | m + 1, way, x, hw, hx, hm => by
    by_cases hin : x ∈ way
    · exact ⟨way, x, loopN_end rfl hin, hw, hin⟩
    · have hf : fT L x = some (tel L x) := by unfold fT; rw [if_pos hx]
      obtain ⟨W, y, h1, h2, h3⟩ := loop_ends h9 m (way ++ [x]) (tel L x) (way_snoc hw hin hf) (tel_len _ _) (by simp; omega)
      exact ⟨W, y, by rw [loopN_step rfl hin, hf]; exact h1, h2, h3⟩
theorem way_it {L : Nat} {x0 y : List Nat} {W : List (List Nat)} (h : Way (fT L) x0 W y) : ∀ i (hi : i < W.length), W[i] = itT L x0 i
  | 0, hi => h.first _ (List.getElem?_eq_getElem hi)
  | i + 1, hi => by
    have ih := way_it h i (by omega)
    have hs := h.step i _ _ (List.getElem?_eq_getElem (by omega)) (List.getElem?_eq_getElem hi)
    rw [ih] at hs
    unfold fT at hs
    split at hs
    · exact (Option.some.inj hs).symm
    · cases hs
theorem way_end {L : Nat} {x0 y : List Nat} {W : List (List Nat)} (h : Way (fT L) x0 W y) (h1 : 1 ≤ W.length) : y = itT L x0 W.length := by
  obtain ⟨m, hm⟩ : ∃ m, W.length = m + 1 := ⟨W.length - 1, by omega⟩
  have hl := h.last (W[m]'(by omega)) (by rw [List.getLast?_eq_getElem?, show W.length - 1 = m by omega]; exact List.getElem?_eq_getElem _)
  rw [way_it h m (by omega)] at hl
  unfold fT at hl
  rw [hm]
  split at hl
  · exact (Option.some.inj hl).symm
  · cases hl
/-- Telling again and again: so many before the loop, so many in it. -/
theorem tell_loop {ns : List Nat} (h1 : 1 ≤ ns.length) (h9 : ns.length ≤ 9) (hle : ∀ x ∈ ns, x ≤ ns.length) (K : Nat) (hK : 1000000010 ≤ K) :
    ∃ p c : Nat, 1 ≤ c ∧ p + c ≤ 1000000001 ∧ (loopTO K (ti ns)).isSome = true ∧ tailN (loopTO K (ti ns)) = (p : Int) ∧ cycN (loopTO K (ti ns)) = (c : Int) ∧ itT ns.length ns (p + c) = itT ns.length ns p ∧
      (∀ i, i < p + c → itT ns.length ns i = itT ns.length ns (p + c) → i = p) ∧ (selfT ns = true → p = 0 ∧ c = 1) := by
  rw [loopTO_ti (tolL_ti h1 h9 hle)]
  obtain ⟨W, y, e, hw, hy⟩ := loop_ends h9 K [] ns (way_nil _ _) rfl (by simpa using hK)
  obtain ⟨hp, hpy⟩ := posL_at y W hy
  have hlen : 1 ≤ W.length := by omega
  have hend := way_end hw hlen
  have hit := way_it hw
  have hlt := wayT_len h9 hw
  have hinj : ∀ i j, i < W.length → j < W.length → itT ns.length ns i = itT ns.length ns j → i = j := fun i j hi hj h => by
    have hn := List.pairwise_iff_getElem.1 hw.nodup
    rcases Nat.lt_trichotomy i j with q | q | q
    · exact absurd (by rw [hit i hi, hit j hj, h]) (hn i j hi hj q)
    · exact q
    · exact absurd (by rw [hit i hi, hit j hj, h]) (hn j i hj hi q)
  have hpe : posL y W + (W.length - posL y W) = W.length := by omega
  refine ⟨posL y W, W.length - posL y W, by omega, by omega, by rw [e]; rfl, by rw [e]; rfl, by rw [e]; show ((W.length : Nat) : Int) - ((posL y W : Nat) : Int) = ((W.length - posL y W : Nat) : Int); omega, ?_, ?_, ?_⟩
  · rw [hpe, ← hend, ← hit _ hp, hpy]
  · intro i hi h
    rw [hpe] at hi h
    rw [← hend, ← hpy, hit _ hp] at h
    exact hinj i _ hi hp h
  · intro hs
    have e1 : itT ns.length ns 1 = itT ns.length ns 0 := of_decide_eq_true hs
    have hl1 : W.length = 1 := by
      rcases Nat.lt_or_ge 1 W.length with q | q
      · exact absurd (hinj 1 0 q (by omega) e1) (by omega)
      · omega
    omega
theorem wayN_it (L : Nat) (ns : List Nat) : ∀ n i, i ≤ n → (wayN L n ns)[i]? = some (itT L ns i)
  | 0, i, h => by
    obtain rfl : i = 0 := by omega
    rfl
  | n + 1, i, h => by
    unfold wayN
    by_cases e : i ≤ n
    · rw [List.getElem?_append_left (by rw [wayN_len]; omega)]
      exact wayN_it L ns n i e
    · obtain rfl : i = n + 1 := by omega
      rw [List.getElem?_append_right (by rw [wayN_len]; omega), wayN_len, Nat.sub_self]
      have h1 := wayN_it L ns n n (Nat.le_refl _)
      rw [wayN_last] at h1
      rw [Option.some.inj h1]
      rfl
theorem rowsW_it (L n : Nat) (ns : List Nat) (i : Nat) (h : i < (rowsW L n ns).length) : (rowsW L n ns)[i] = ti (itT L ns i) := by
  have hl : i ≤ n := by rw [rowsW_len] at h; omega
  have h1 : (rowsW L n ns)[i]? = some (ti (itT L ns i)) := by unfold rowsW; rw [List.getElem?_map, wayN_it L ns n i hl]; rfl
  rw [List.getElem?_eq_getElem h, Option.some.injEq] at h1
  exact h1
end Go.Proofs.Ytkdoghopbefjfaa
