/- What the laws on own words ask, put together (pure). -/
import Derived.Test.YthbjaclobllkhaaO12
import Derived.Test.YthbjaclobllkhaaO6
import Derived.Test.YthbjaclobllkhaaO7
namespace Go.Proofs.Ythbjaclobllkhaa
open Go.RowKit Go.BigFrame Go.Shelf
set_option linter.unusedSimpArgs false
set_option linter.unusedVariables false
set_option maxRecDepth 4000

theorem strOk_eq (o : Option (List UInt8)) : strOk o = .tuple #[.string (bs (o.getD [])), .bool o.isSome] := by cases o <;> rfl
theorem ownO_some {a b n most : Int} : (ownO' a b n most).isSome = askB a b n most := by
  unfold ownO'
  cases h : askB a b n most <;> simp
theorem ownO_val {a b n most : Int} (h : askB a b n most = true) : (ownO' a b n most).getD [] = sgL (ownW a b n) := by unfold ownO'; rw [if_pos h]; rfl
theorem sgL_len (xs : List Nat) : (sgL xs).length = xs.length := by simp [sgL]
theorem sgn_nat {x : Nat} (h : x ≤ 9) : (sgn x).toNat = 48 + x := by
  unfold sgn; rw [UInt8.toNat_ofNat', Nat.mod_eq_of_lt (by omega)]
theorem own_good {a b n : Int} (h : askB a b n 400 = true) : goodL (sgL (ownW a b n)) = true := by
  obtain ⟨_, h3⟩ := askB_iff.1 h
  unfold goodL
  rw [sgL_len, ownW_len h]
  simp only [Bool.and_eq_true, decide_eq_true_eq]
  refine ⟨⟨by omega, by omega⟩, ?_⟩
  rw [List.all_eq_true]
  intro c hc
  obtain ⟨x, hx, rfl⟩ := List.mem_map.1 hc
  have := ownW_nine h x hx
  unfold digB
  rw [decide_eq_true_eq, sgn_nat this.2]
  omega
theorem own_begs {a b n : Int} (h : askB a b n 400 = true) : begB (sgL (ownW a b n)) a b = true ∧ begR (sgL (ownW a b n)) a b = true := by
  have hg := own_good h
  have h2 : twoB a b = true := twoB_iff.2 (askB_iff.1 h).1
  have h3 := (askB_iff.1 h).2
  have hb : begB (sgL (ownW a b n)) a b = true := by unfold begB; rw [hg, h2]; rfl
  refine ⟨hb, ?_⟩
  unfold begR
  rw [hb, Bool.true_and, decide_eq_true_eq, sgL_len, ownW_len h, Int.toNat_of_nonneg (by omega)]
theorem own_lenO {a b n : Int} (h : askB a b n 400 = true) : lenO (sgL (ownW a b n)) = some (lensL (sgL (ownW a b n))) := by
  have h1 := (askB_iff.1 h)
  unfold lenO speakL
  rw [own_good h, Bool.true_and, if_pos]
  rw [decide_eq_true_eq]
  exact own_long _ _ _ (by omega) (by omega) (by omega) (by omega)
theorem lens_le (l : List UInt8) : (lensL l).length ≤ l.length := by
  unfold lensL lensR
  rw [List.length_map]
  exact runsL_len l
/-- The bytes of the lengths are those of the word, but for the last one. -/
theorem own_bytes {a b n : Int} (h : askB a b n 400 = true) (T O : ByteArray) (hT : T = bs (lensL (sgL (ownW a b n)))) (hO : O = bs (sgL (ownW a b n))) (i : Nat) (hi : i + 1 < T.size) (h1 : i < T.size) (h2 : i < O.size) :
    T[i].toNat = O[i].toNat := by
  subst hT hO
  have h3 := askB_iff.1 h
  have := own_lens a.toNat b.toNat n.toNat i (by omega) (by omega) (by omega) (by omega) (by simpa [bs_size, ownW] using hi)
  have e1 : (lensL (sgL (ownW a b n)))[i]? = some ((bs (lensL (sgL (ownW a b n))))[i]) := by
    rw [List.getElem?_eq_getElem (by simpa [bs_size] using h1)]; rfl
  have e2 : (sgL (ownW a b n))[i]? = some ((bs (sgL (ownW a b n)))[i]) := by
    rw [List.getElem?_eq_getElem (by simpa [bs_size] using h2)]; rfl
  have e3 : (lensL (sgL (ownW a b n)))[i]? = (sgL (ownW a b n))[i]? := this
  rw [e1, e2] at e3
  rw [Option.some.inj e3]
theorem own_byte {a b n most : Int} (h : askB a b n most = true) (O : ByteArray) (hO : O = bs (sgL (ownW a b n))) (i : Nat) (hi : i < O.size) (x : Nat) (hx : (ownW a b n)[i]? = some x) : O[i].toNat = x + 48 := by
  subst hO
  have hx9 := ownW_nine h x (List.mem_of_getElem? hx)
  have e2 : (sgL (ownW a b n))[i]? = some ((bs (sgL (ownW a b n)))[i]) := by
    rw [List.getElem?_eq_getElem (by simpa [bs_size] using hi)]; rfl
  have e1 : (sgL (ownW a b n))[i]? = some (sgn x) := by unfold sgL; rw [List.getElem?_map, hx]; rfl
  rw [e1] at e2
  rw [← Option.some.inj e2, sgn_nat hx9.2]; omega
/-- Digits, runs and counts of a place. -/
theorem own_two (C D M : Nat) (hC : 1 ≤ C ∧ C ≤ 9) (hD : 1 ≤ D ∧ D ≤ 9) (hne : C ≠ D) (hM : 1 ≤ M) :
    ∃ r, ownRn C D M = r + 1 ∧ r + 1 ≤ M ∧ ownDg C D M = gD C D r ∧ ownCt C D M C + ownCt C D M D = M ∧
      (2 ≤ M → ownCt C D ((M - 1 : Nat) : Int) ((gD C D r : Nat) : Int) + 1 = ownCt C D M ((gD C D r : Nat) : Int) ∧ (ownRn C D ((M - 1 : Nat) : Int) = r + 1 ∨ ownRn C D ((M - 1 : Nat) : Int) = r)) := by
  obtain ⟨r, m, h⟩ := ownP_ex C D M hne hC hD hM
  have hl := gOwn_len C D M hC.1 hD.1
  refine ⟨r, h.run, h.r_le hC.1 hD.1, h.last, ?_, fun h2 => ?_⟩
  · have := own_counts C D hne (gOwn C D M) (gOwn_mem C D M)
    rw [hl] at this; exact this
  · obtain ⟨K, rfl⟩ : ∃ K, M = K + 1 := ⟨M - 1, by omega⟩
    rw [Nat.add_sub_cancel]
    refine ⟨?_, own_run_before C D K r m hne hC hD h (by omega)⟩
    have hs := own_snoc C D K hC.1 hD.1
    have hd := h.last
    rw [Nat.add_sub_cancel] at hd
    rw [hd] at hs
    show (gOwn C D K).count (gD C D r) + 1 = (gOwn C D (K + 1)).count (gD C D r)
    rw [hs, List.count_append, List.count_singleton_self]
theorem beg_less {l : List UInt8} {a b : Int} (h : begR l a b = true) (hl : 1 < l.length) : begB l.dropLast a b = true ∧ begR l.dropLast a b = true := by
  unfold begR at h
  rw [Bool.and_eq_true, decide_eq_true_eq] at h
  obtain ⟨hb, he⟩ := h
  unfold begB at hb
  rw [Bool.and_eq_true] at hb
  have h3 := twoB_iff.1 hb.2
  have hask := beg_ask hb.1 hb.2
  have h400 := (askB_iff.1 hask).2
  have hask2 : askB a b ((l.length - 1 : Nat) : Int) 400 = true := askB_iff.2 ⟨h3, by omega, by omega⟩
  have e : l.dropLast = sgL (ownW a b ((l.length - 1 : Nat) : Int)) := by
    conv => lhs; rw [he]
    obtain ⟨K, hK⟩ : ∃ K, l.length = K + 1 := ⟨l.length - 1, by omega⟩
    rw [hK, Nat.add_sub_cancel]
    have hs := own_snoc a.toNat b.toNat K (by omega) (by omega)
    show (sgL (gOwn a.toNat b.toNat (K + 1))).dropLast = sgL (gOwn a.toNat b.toNat K)
    rw [hs, sgL_app]
    simp [sgL]
  rw [e]
  exact own_begs hask2
theorem wl_ok {l : List UInt8} {u v : Int} (h : (wlO l u v).isSome = true) : twoD u v = true ∧ wlO l u v = some (flatW l u v l.length) ∧ lenO (flatW l u v l.length) = some l ∧ (flatW l u v l.length)[0]? = some (dgw u) := by
  unfold wlO at h ⊢
  split at h
  · rename_i hc
    obtain ⟨hg, h2, hf⟩ := hc
    unfold goodL at hg
    simp only [Bool.and_eq_true, decide_eq_true_eq] at hg
    refine ⟨h2, if_pos ⟨by unfold goodL; simp only [Bool.and_eq_true, decide_eq_true_eq]; exact hg, h2, hf⟩, ?_, flat_head hg.2 u v h2 hg.1.1 _ hg.1.1 (Nat.le_refl _)⟩
    unfold lenO speakL
    rw [hf, Bool.true_and, if_pos (by rw [decide_eq_true_eq]; exact flat_long hg.2 u v h2), flat_lens hg.2 u v h2]
  · simp at h
end Go.Proofs.Ythbjaclobllkhaa
