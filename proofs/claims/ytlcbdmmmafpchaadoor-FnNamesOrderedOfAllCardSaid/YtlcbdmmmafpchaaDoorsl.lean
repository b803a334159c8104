/- Chapter 8: ranks in the alphabet: no two numbers up to 2000 have the same letters (by the kernel); the place of a number in the sorted list. -/
import Derived.Test.YtlcbdmmmafpchaaDoorsi
import Derived.Test.YtlcbdmmmafpchaaDoorsg
namespace Go.Proofs.YtlcbdmmmafpchaaDoor
open Go.RowKit Go.BigFrame Go.Deep
set_option linter.unusedSimpArgs false
set_option linter.unusedVariables false
set_option maxRecDepth 4000

/-- All numbers of f at i, i + 1, .. (m of them) are different and none of them is in the set s of bits. -/
def chkB (f : Nat → Nat) : Nat → Nat → Nat → Bool
  | 0, _, _ => true
  | m + 1, i, s => !(s.testBit (f i)) && chkB f m (i + 1) (s ||| (1 <<< f i))
theorem chkB_ok (f : Nat → Nat) : ∀ m i s, chkB f m i s = true → (∀ a, i ≤ a → a < i + m → s.testBit (f a) = false) ∧ ∀ a b, i ≤ a → a < b → b < i + m → f a ≠ f b
  | 0, i, s, _ => ⟨fun a h1 h2 => by omega, fun a b h1 h2 h3 => by omega⟩
  | m + 1, i, s, h => by
    rw [chkB, Bool.and_eq_true] at h
    obtain ⟨h1, h2⟩ := h
    obtain ⟨g1, g2⟩ := chkB_ok f m (i + 1) _ h2
    have h3 : s.testBit (f i) = false := by simpa using h1
    have key : ∀ a, i + 1 ≤ a → a < i + 1 + m → s.testBit (f a) = false ∧ f a ≠ f i := fun a p q => by
      have := g1 a p q
      rw [Nat.testBit_or, Bool.or_eq_false_iff] at this
      refine ⟨this.1, fun e => ?_⟩
      have h5 := this.2
      rw [e, Nat.testBit_shiftLeft] at h5
      simp at h5
    refine ⟨fun a p q => ?_, fun a b p q r => ?_⟩
    · by_cases e : a = i
      · rw [e]; exact h3
      · exact (key a (by omega) (by omega)).1
    · by_cases e : a = i
      · rw [e]; exact fun f => (key b (by omega) (by omega)).2 f.symm
      · exact g2 a b (by omega) q (by omega)
def hshL (l : List UInt8) : Nat := l.foldl (fun h c => (h * 470 + c.toNat) % 262139) 0
set_option maxRecDepth 100000 in
theorem letters_chk : chkB (fun n => hshL (ltN n)) 2001 0 0 = true := by decide +kernel
theorem ltN_inj {a b : Nat} (ha : a ≤ 2000) (hb : b ≤ 2000) (h : ltN a = ltN b) : a = b := by
  have := (chkB_ok _ 2001 0 0 letters_chk).2
  by_cases h1 : a < b
  · exact absurd (by rw [h]) (this a b (by omega) h1 (by omega))
  · by_cases h2 : b < a
    · exact absurd (by rw [h]) (this b a (by omega) h2 (by omega))
    · omega
theorem alph_letters {x y : Nat} (hx : x ≤ 2000) (hy : y ≤ 2000) : ltAlph (x : Int) (y : Int) = blB (ltN x) (ltN y) := by
  unfold ltAlph ltLex
  simp only [Int.toNat_natCast]
  by_cases e : x = y
  · subst e; simp
  · have : ¬ ltN x = ltN y := fun h => e (ltN_inj hx hy h)
    rw [decide_eq_false this, Bool.false_and, Bool.or_false]
theorem rnk_count (N n : Nat) (hn : n ≤ 2000) (hN : N ≤ 2001) : (numsI N).countP (fun x => ltAlph x (n : Int)) = rnkF (ltN n) N := by
  induction N with
  | zero => rfl
  | succ k ih =>
    have e : numsI (k + 1) = numsI k ++ [(k : Int)] := by simp [numsI, List.range_succ]
    rw [e, List.countP_append, ih (by omega), rnkF]
    congr 1
    rw [List.countP_singleton, alph_letters (by omega) hn]
/-- The place of a number in a list, -1 if it is not there. -/
def idxR (xs : List Int) (x : Int) : Nat → Int
  | 0 => -1
  | f + 1 => if xs.getD (xs.length - (f + 1)) 0 = x then ((xs.length - (f + 1) : Nat) : Int) else idxR xs x f
theorem idxR_cut {P T : List Int} {x : Int} (h : x ∉ P) : idxR (P ++ x :: T) x (P ++ x :: T).length = (P.length : Int) := by
  have key : ∀ f, f ≤ P.length → idxR (P ++ x :: T) x (f + 1 + T.length) = (P.length : Int) := by
    intro f
    induction f with
    | zero =>
      intro _
      have e1 : 0 + 1 + T.length = T.length + 1 := by omega
      have e2 : (P ++ x :: T).length - (T.length + 1) = P.length := by simp
      rw [e1, idxR, e2, if_pos (by simp [List.getD])]
    | succ f ih =>
      intro hf
      have e1 : f + 1 + 1 + T.length = (f + 1 + T.length) + 1 := by omega
      have e2 : (P ++ x :: T).length - (f + 1 + T.length + 1) = P.length - (f + 1) := by simp; omega
      rw [e1, idxR, e2, if_neg (fun e => h (by
        have hk : P.length - (f + 1) < P.length := by omega
        rw [show (P ++ x :: T).getD (P.length - (f + 1)) 0 = P[P.length - (f + 1)] from by simp [List.getD, List.getElem?_append_left hk, hk]] at e
        rw [← e]; exact List.getElem_mem hk)), ih (by omega)]
  have := key P.length (Nat.le_refl _)
  rw [show (P ++ x :: T).length = P.length + 1 + T.length by simp; omega]
  exact this
/-- The place of n in the sorted list is the number of those that come before it. -/
theorem idx_rank {C n : Nat} {S : List Int} (hn : n < C) (hC : C ≤ 2001) (hS : Srt ltAlph S) (hp : S.Perm (numsI C)) : idxR S (n : Int) C = (rnkF (ltN n) C : Int) := by
  have hin : (n : Int) ∈ S := hp.symm.subset (numsI_has hn)
  obtain ⟨P, T, rfl⟩ := List.append_of_mem hin
  have hlen : (P ++ (n : Int) :: T).length = C := hp.length_eq.trans (numsI_len C)
  obtain ⟨_, h2, h3⟩ := srt_append.1 hS
  have hlt : ∀ p ∈ P, ltAlph p (n : Int) = true := fun p hp => h3 p hp (n : Int) (by simp)
  have hnP : (n : Int) ∉ P := fun h => by
    have := hlt _ h
    rw [ordAlph.irr] at this; cases this
  have hT : ∀ t ∈ T, ltAlph t (n : Int) = false := fun t ht => ordAlph.asym ((List.pairwise_cons.1 h2).1 t ht)
  have hc : (P ++ (n : Int) :: T).countP (fun x => ltAlph x (n : Int)) = P.length := by
    rw [List.countP_append, List.countP_cons_of_neg (by rw [ordAlph.irr]; simp), List.countP_eq_length.2 (fun p hp => hlt p hp), List.countP_eq_zero.2 (fun t ht => by rw [hT t ht]; simp)]
    omega
  rw [← hlen, idxR_cut hnP, ← hc, hp.countP_eq, rnk_count C n (by omega) hC, hlen]
theorem srt_conv {C : Nat} {S : List Int} {lt lt' : Int → Int → Bool} (hS : Srt lt' S) (hp : S.Perm (numsI C)) (he : ∀ x y : Nat, x < C → y < C → lt' (x : Int) (y : Int) = lt (x : Int) (y : Int)) : Srt lt S :=
  List.Pairwise.imp_of_mem (fun {a b} ha hb h => by
    have h1 := numsI_mem (hp.subset ha)
    have h2 := numsI_mem (hp.subset hb)
    obtain ⟨x, rfl⟩ := Int.eq_ofNat_of_zero_le h1.1
    obtain ⟨y, rfl⟩ := Int.eq_ofNat_of_zero_le h2.1
    rw [← he x y (by omega) (by omega)]; exact h) hS

set_option maxHeartbeats 1000000 in
theorem indexB_any (w : World) (g cap p : Nat) (xs : List Int) (x : Int) (h : RowB w g xs) (hp : p = xs.length) (h9 : p ≤ 1000000) (hcp : p ≤ cap) :
    Calls Tryd.prog 78 #[.slice (some ⟨g, 0, none⟩) p cap, .int .i64 x] w fun e w' => e = .returned (.int .i64 (idxR xs x p)) ∧ w = w' := by
  have HA := Lib.hid (fun i hi => h.cell i hi)
  have HP := Lib.hid hp
  obtain ⟨R, hR⟩ : ∃ R, R = idxR xs x p := ⟨_, rfl⟩
  have HR := Lib.hid hR
  rw [← hR]
  clear h hp hR
  go_enter Tryd.func78, Tryd.ntmps78
  go_wp2_with fail
  go_loop [5, 8] (fun cv i => ∃ (k : Nat), k ≤ p ∧ i = .int .i64 (k : Int) ∧ Hid (R = idxR xs x (p - k))) (fun _ i => p - (intOf i).toNat)
  case atStart => exact ⟨0, Nat.zero_le _, rfl, HR.out⟩
  case round =>
    obtain ⟨k, hk, rfl, HX⟩ := hrel
    by_cases hlt : k < p
    · have hkx : k < xs.length := by rw [← HP.out]; exact hlt
      have hc := HA.out k hkx
      have hst : R = if xs.getD k 0 = x then (k : Int) else idxR xs x (p - (k + 1)) := by
        have e := HX.out
        rw [show p - k = (p - (k + 1)) + 1 by omega, idxR, ← HP.out, show p - (p - (k + 1) + 1) = k by omega] at e
        exact e
      obtain ⟨y, hy⟩ : ∃ y, y = xs.getD k 0 := ⟨_, rfl⟩
      rw [← hy] at hc hst
      by_cases hq : y = x
      · have hz : (x == y) = true := by rw [hq]; simp
        rw [if_pos hq] at hst
        have HST := Lib.hid hst
        clear hst hy hq
        go_wp2_with fail
        go_ret
        exact ⟨ret_int HST.out.symm, rfl⟩
      · have hz : (x == y) = false := beq_false_of_ne (fun e => hq e.symm)
        rw [if_neg hq] at hst
        have HST := Lib.hid hst
        clear hst hy hq
        go_wp2_with fail
        go_round
        case rel => exact ⟨k + 1, by omega, by go_num, HST.out⟩
        case measure => simp [intOf] <;> omega
    · obtain rfl : k = p := by omega
      have hn : R = -1 := by rw [HX.out, Nat.sub_self]; rfl
      have HN := Lib.hid hn
      clear hn
      go_wp2_with fail
      go_ret
      exact ⟨ret_int HN.out.symm, rfl⟩

set_option maxHeartbeats 2000000 in
theorem implRankInAlphabet_any (n m : Int) (w : World) (NA : NamesAt w) :
    Calls Tryd.prog 35 #[.int .i64 n, .int .i64 m] w fun e w' => e = .returned (.tuple #[.int .i64 (rkO n m), .bool (rkB n m)]) ∧ Below w.heap.size w w' := by
  have HG := Lib.hid (fun W => canLook_is m W)
  have HI := Lib.hid (fun (W : World) => isWithin_is (decide (0 ≤ n ∧ n ≤ m)) n 0 m W rfl)
  obtain ⟨v, hv⟩ : ∃ v, v = decide (0 ≤ n ∧ n ≤ m) := ⟨_, rfl⟩
  rw [← hv] at HI
  cases hb : mlB m with
  | false =>
    have e1 : rkB n m = false := by unfold rkB; rw [hb]; rfl
    have e2 : rkO n m = 0 := by unfold rkO; rw [e1]; rfl
    rw [e1, e2]; rw [hb] at HG
    clear e1 e2 hb hv
    go_enter Tryd.func35, Tryd.ntmps35
    go_wp2_with fail
    refine (HG.out _).mono ?_
    rintro e w1 ⟨rfl, rfl⟩
    go_wp2_with fail
    go_ret2
    exact ⟨rfl, below_refl _⟩
  | true =>
    rw [hb] at HG
    cases v with
    | false =>
      have e1 : rkB n m = false := by unfold rkB; rw [hb, ← hv]; rfl
      have e2 : rkO n m = 0 := by unfold rkO; rw [e1]; rfl
      rw [e1, e2]
      clear e1 e2 hb hv
      go_enter Tryd.func35, Tryd.ntmps35
      go_wp2_with fail
      refine (HG.out _).mono ?_
      rintro e w1 ⟨rfl, rfl⟩
      go_wp2_with fail
      refine (HI.out _).mono ?_
      rintro e w1 ⟨rfl, rfl⟩
      go_wp2_with fail
      go_ret2
      exact ⟨rfl, below_refl _⟩
    | true =>
      obtain ⟨N, rfl, hN⟩ := mlB_parts hb
      have hnm : 0 ≤ n ∧ n ≤ (N : Int) := of_decide_eq_true hv.symm
      obtain ⟨a, rfl⟩ := Int.eq_ofNat_of_zero_le hnm.1
      have e1 : rkB (a : Int) (N : Int) = true := by unfold rkB; rw [hb, ← hv]; rfl
      have e2 : rkO (a : Int) (N : Int) = (rnkF (ltN a) (N + 1) : Int) := by unfold rkO; rw [e1]; rfl
      rw [e1, e2]
      obtain ⟨C, hC⟩ : ∃ C, C = N + 1 := ⟨_, rfl⟩
      have HNB := Lib.hid (numbersByS_any N C hC hN w NA (fun k W hk h => spelledOut_any k W (by omega) h))
      have HIX := Lib.hid (fun (W : World) (nb : Nat) (S : List Int) (h : RowB W nb S) (h1 : Srt ltAlph S) (h2 : S.Perm (numsI C)) => (by
        have := indexB_any W nb C C S (a : Int) h (h2.length_eq.trans (numsI_len C)).symm (by omega) (Nat.le_refl _)
        rw [idx_rank (n := a) (by omega) (by omega) h1 h2] at this
        exact this : Calls Tryd.prog 78 #[.slice (some ⟨nb, 0, none⟩) C C, .int .i64 (a : Int)] W fun e w' => e = .returned (.int .i64 (rnkF (ltN a) C : Int)) ∧ W = w'))
      rw [← hC]
      obtain ⟨R, hR⟩ : ∃ R, R = (rnkF (ltN a) C : Int) := ⟨_, rfl⟩
      rw [← hR] at HIX ⊢
      have hC9 : C ≤ 2001 := by omega
      clear e1 e2 hb hv hnm hC hR NA
      go_enter Tryd.func35, Tryd.ntmps35
      go_wp2_with fail
      refine (HG.out _).mono ?_
      rintro e w1 ⟨rfl, rfl⟩
      go_wp2_with fail
      refine (HI.out _).mono ?_
      rintro e w1 ⟨rfl, rfl⟩
      go_wp2_with fail
      refine HNB.out.mono ?_
      rintro e w2 ⟨nb, S, rfl, h1, h2, h3, h4⟩
      have HC2 := Lib.hid (HIX.out w2 nb S h3 (srt_conv h1 h2 (keysAlph C)) h2)
      have HB := Lib.hid h4
      clear h1 h2 h3 h4
      go_wp2_with fail
      refine HC2.out.mono ?_
      rintro e w3 ⟨rfl, rfl⟩
      go_wp2_with fail
      go_ret2
      exact ⟨rfl, HB.out⟩
end Go.Proofs.YtlcbdmmmafpchaaDoor
