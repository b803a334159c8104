/- First times: the search in breadth, pure. -/
import Derived.Test.YtgmknehioadjhaaM2
import Derived.Test.YtgmknehioadjhaaN8
namespace Go.Proofs.Ytgmknehioadjhaa
open Go.RowKit Go.BigFrame
set_option linter.unusedSimpArgs false
set_option linter.unusedVariables false
set_option maxRecDepth 4000

def atL (n : Nat) (ts : List Nat) : List Int := natsI ts ++ List.replicate (n - ts.length) (-1)
def rgI (k : Nat) : List Int := natsI (List.range k)
theorem rgI_succ (k : Nat) : rgI (k + 1) = rgI k ++ [(k : Int)] := by unfold rgI natsI; rw [List.range_succ]; simp
theorem rgI_len (k : Nat) : (rgI k).length = k := by unfold rgI; rw [natsI_len]; simp
theorem rgI_at {k i : Nat} (h : i < k) : (rgI k).getD i 0 = (i : Nat) := by
  unfold rgI natsI
  simp [List.getD, List.getElem?_eq_getElem, h]
theorem at_len {n : Nat} {ts : List Nat} (h : ts.length ≤ n) : (atL n ts).length = n := by unfold atL; simp [natsI]; omega
theorem at_known {n q : Nat} {ts : List Nat} (h : q < ts.length) : (atL n ts).getD q 0 = (ts.getD q 0 : Nat) := by
  unfold atL natsI
  simp [List.getD, List.getElem?_append_left, h, List.getElem?_eq_getElem h]
theorem at_new {n : Nat} {ts : List Nat} (h : ts.length < n) : (atL n ts).getD ts.length 0 = -1 := by
  obtain ⟨d, hd⟩ : ∃ d, n - ts.length = d + 1 := ⟨n - ts.length - 1, by omega⟩
  unfold atL natsI
  rw [hd]
  simp [List.getD, List.getElem?_append_right, List.replicate_succ]
theorem at_set {n t : Nat} {ts : List Nat} (h : ts.length < n) : (atL n ts).set ts.length (t : Nat) = atL n (ts ++ [t]) := by
  unfold atL natsI
  obtain ⟨d, hd⟩ : ∃ d, n - ts.length = d + 1 := ⟨n - ts.length - 1, by omega⟩
  rw [hd, show n - (ts ++ [t]).length = d by simp; omega, List.replicate_succ]
  rw [List.set_append_right _ _ (by simp)]
  simp
theorem at_zero (n : Nat) : atL n [] = List.replicate n (-1) := by unfold atL natsI; simp
theorem tmT_get {k x t : Nat} : ∀ (ps ns : List (List UInt8)) (ts : List Nat), ts[k]? = some x → (tmT ns ts t ps)[k]? = some x
  | [], _, _, h => h
  | q :: ps, ns, ts, h => by
    refine tmT_get ps (addN ns q) _ ?_
    split
    · exact h
    · rw [List.getElem?_append_left (List.getElem?_eq_some_iff.1 h).1]; exact h
theorem nmT_app : ∀ (a b n : List (List UInt8)), nmT n (a ++ b) = nmT (nmT n a) b
  | [], _, _ => rfl
  | q :: a, b, n => nmT_app a b (addN n q)
theorem row_step {c0 Q ns : List (List UInt8)} {ts0 : List Nat} {t j : Nat} (hj : j < Q.length) (hl : ts0.length = c0.length) (hpos : ∀ p ∈ nmT c0 Q, posN p ns = posN p (nmT c0 Q)) :
    (posN Q[j] ns < (tmT c0 ts0 t (Q.take j)).length ∧ tmT c0 ts0 t (Q.take (j + 1)) = tmT c0 ts0 t (Q.take j)) ∨ (posN Q[j] ns = (tmT c0 ts0 t (Q.take j)).length ∧ tmT c0 ts0 t (Q.take (j + 1)) = tmT c0 ts0 t (Q.take j) ++ [t]) := by
  have hlen := tmT_len (Q.take j) c0 ts0 t hl
  have hv : posN Q[j] ns = posN Q[j] (nmT c0 (Q.take j)) := by
    have hm : Q[j] ∈ nmT c0 Q := mem_nmT_new Q c0 (List.getElem_mem hj)
    rw [hpos _ hm]
    have e : nmT c0 Q = nmT (nmT c0 (Q.take (j + 1))) (Q.drop (j + 1)) := by rw [← nmT_app, List.take_append_drop]
    have e2 : nmT c0 (Q.take (j + 1)) = addN (nmT c0 (Q.take j)) Q[j] := by rw [List.take_succ_eq_append_getElem hj, nmT_snoc]
    rw [e, posN_nmT _ _ (by rw [e2]; exact mem_addN_new _ _), e2, posN_addN_self]
  rw [List.take_succ_eq_append_getElem hj, tmT_snoc, hv, hlen]
  by_cases h : posN Q[j] (nmT c0 (Q.take j)) < (nmT c0 (Q.take j)).length
  · exact .inl ⟨h, by rw [if_pos h]⟩
  · exact .inr ⟨posN_new h, by rw [if_neg h]⟩
theorem row_le {c0 Q : List (List UInt8)} {ts0 : List Nat} {t n : Nat} (j : Nat) (hl : ts0.length = c0.length) (hn : (nmT c0 Q).length ≤ n) : (tmT c0 ts0 t (Q.take j)).length ≤ n := by
  rw [tmT_len (Q.take j) c0 ts0 t hl]
  exact Nat.le_trans (nmT_take_le c0 Q j) hn
theorem runF_step {f k : Nat} {cur ns : List (List UInt8)} (h : runF (f + 1) k cur = some ns) (hk : k < cur.length) : runF f (k + 1) (nmT cur (sdP cur[k])) = some ns := by
  rw [runF, dif_pos hk] at h
  split at h
  · cases h
  · split at h
    · cases h
    · exact h
theorem runF_fin {f k : Nat} {cur ns : List (List UInt8)} (h : runF (f + 1) k cur = some ns) (hk : ¬ k < cur.length) : ns = cur := by
  rw [runF_end hk] at h; cases h; rfl
theorem runF_get {x : List UInt8} : ∀ (f k : Nat) (cur ns : List (List UInt8)), runF f k cur = some ns → ∀ (i : Nat), cur[i]? = some x → ns[i]? = some x
  | 0, _, _, _, h => by cases h
  | f + 1, k, cur, ns, h => fun i hi => by
    by_cases hk : k < cur.length
    · exact runF_get f (k + 1) _ ns (runF_step h hk) i (nmT_get _ _ hi)
    · rw [runF_fin h hk]; exact hi
theorem runT_len : ∀ (f k : Nat) (cur ns : List (List UInt8)) (ts : List Nat), runF f k cur = some ns → ts.length = cur.length → (runT f k cur ts).length = ns.length
  | 0, _, _, _, _, h, _ => by cases h
  | f + 1, k, cur, ns, ts, h, hl => by
    by_cases hk : k < cur.length
    · rw [runT_on hk]
      exact runT_len f (k + 1) _ ns _ (runF_step h hk) (tmT_len _ _ _ _ hl)
    · rw [runT_end hk, runF_fin h hk]; exact hl
/-- The search's state ahead of round k. -/
def BfsAt (ns : List (List UInt8)) (TS : List Nat) (k : Nat) (cur : List (List UInt8)) (ts : List Nat) : Prop :=
  k ≤ 200 ∧ runF (201 - k) k cur = some ns ∧ runT (201 - k) k cur ts = TS ∧ ts.length = cur.length ∧ (∀ x ∈ ts, x ≤ k) ∧ k ≤ ts.length
theorem BfsAt.len {ns : List (List UInt8)} {TS : List Nat} {k : Nat} {cur : List (List UInt8)} {ts : List Nat} (h : BfsAt ns TS k cur ts) : ts.length ≤ ns.length := by
  obtain ⟨h0, h1, _, h3, _⟩ := h
  rw [h3]; exact runF_ge _ _ _ _ h1
theorem BfsAt.fin {ns : List (List UInt8)} {TS : List Nat} {k : Nat} {cur : List (List UInt8)} {ts : List Nat} (h : BfsAt ns TS k cur ts) (hk : ¬ k < ts.length) : ts = TS := by
  obtain ⟨h0, h1, h2, h3, _⟩ := h
  rw [show 201 - k = (200 - k) + 1 by omega, runT_end (by omega)] at h2
  exact h2
theorem BfsAt.next {ns : List (List UInt8)} {TS : List Nat} {k : Nat} {cur : List (List UInt8)} {ts : List Nat} (h : BfsAt ns TS k cur ts) (hns : ns.length ≤ 200) (hk : k < ts.length) : ∃ p tk, cur[k]? = some p ∧ ns[k]? = some p ∧ ts[k]? = some tk ∧ tk ≤ k ∧ (nmT cur (sdP p)).length ≤ ns.length ∧
    (∀ q ∈ nmT cur (sdP p), posN q ns = posN q (nmT cur (sdP p))) ∧ BfsAt ns TS (k + 1) (nmT cur (sdP p)) (tmT cur ts (tk + 1) (sdP p)) ∧ ts.length = cur.length := by
  have hlen := h.len
  obtain ⟨h0, h1, h2, h3, h4, h5⟩ := h
  have hkc : k < cur.length := by omega
  rw [show 201 - k = (200 - k) + 1 by omega] at h1 h2
  have hs := runF_step h1 hkc
  rw [runT_on hkc] at h2
  rw [show 200 - k = 201 - (k + 1) by omega] at hs h2
  have htk : ts.getD k 0 = ts[k] := by simp [List.getD, List.getElem?_eq_getElem hk]
  rw [htk] at h2
  have hx := h4 _ (List.getElem_mem hk)
  have hl2 := tmT_len (sdP cur[k]) cur ts (ts[k] + 1) h3
  have hge := runF_ge _ _ _ _ hs
  refine ⟨cur[k], ts[k], List.getElem?_eq_getElem hkc, runF_get _ _ _ _ h1 k (List.getElem?_eq_getElem hkc), List.getElem?_eq_getElem hk, hx, hge, fun q hq => (runF_pos _ _ _ _ hs q hq).2, ⟨by omega, hs, h2, hl2, tmT_le _ _ _ _ (k + 1) (fun x hx => by have := h4 x hx; omega) (by omega), ?_⟩, h3⟩
  rw [hl2]
  have := (nmT_len (sdP cur[k]) cur).1
  omega
end Go.Proofs.Ytgmknehioadjhaa
