/- Chapter 8: numbersBy's comparisons; SortStableFunc. -/
import Derived.Test.YtlcbdmmmafpchaaDoorsd
import Derived.Test.YtlcbdmmmafpchaaDoorml
namespace Go.Proofs.YtlcbdmmmafpchaaDoor
open Go.RowKit Go.BigFrame
set_option linter.unusedSimpArgs false
set_option linter.unusedVariables false
set_option maxRecDepth 4000

/-- By keys first, by numbers where the keys are the same. -/
def ltLex {K : Type} [DecidableEq K] (lk : K → K → Bool) (f : Int → K) (x y : Int) : Bool := lk (f x) (f y) || (decide (f x = f y) && decide (x < y))
theorem ord_lex {K : Type} [DecidableEq K] {lk : K → K → Bool} (irr : ∀ x, lk x x = false) (tr : ∀ x y z, lk x y = true → lk y z = true → lk x z = true) (tot : ∀ x y, x ≠ y → lk x y = true ∨ lk y x = true) (f : Int → K) : Ord1 (ltLex lk f) := by
  refine ⟨fun x => ?_, fun x y z h1 h2 => ?_, fun x y h => ?_⟩
  · unfold ltLex; rw [irr]; simp
  · unfold ltLex at *
    simp only [Bool.or_eq_true, Bool.and_eq_true, decide_eq_true_eq] at *
    rcases h1 with h1 | ⟨e1, h1⟩ <;> rcases h2 with h2 | ⟨e2, h2⟩
    · exact .inl (tr _ _ _ h1 h2)
    · exact .inl (by rw [← e2]; exact h1)
    · exact .inl (by rw [e1]; exact h2)
    · exact .inr ⟨e1.trans e2, by omega⟩
  · unfold ltLex
    simp only [Bool.or_eq_true, Bool.and_eq_true, decide_eq_true_eq]
    by_cases e : f x = f y
    · rcases Int.lt_or_gt_of_ne h with h | h
      · exact .inl (.inr ⟨e, h⟩)
      · exact .inr (.inr ⟨e.symm, h⟩)
    · rcases tot _ _ e with h | h
      · exact .inl (.inl h)
      · exact .inr (.inl h)
def ltI (x y : Int) : Bool := decide (x < y)
def cmpI (x y : Int) : Int := if x < y then -1 else if y < x then 1 else 0
theorem cmpI_lex (f : Int → Int) (x y : Int) (h : y < x) : cmpI (f x) (f y) < 0 ↔ ltLex ltI f x y = true := by
  unfold cmpI ltLex ltI
  simp only [Bool.or_eq_true, Bool.and_eq_true, decide_eq_true_eq]
  constructor
  · intro e
    split at e
    · rename_i g; exact .inl g
    · split at e <;> omega
  · rintro (g | ⟨_, g⟩)
    · rw [if_pos g]; decide
    · omega
theorem ordI (f : Int → Int) : Ord1 (ltLex ltI f) := ord_lex (fun x => by simp [ltI]) (fun x y z h1 h2 => by simp only [ltI, decide_eq_true_eq] at *; omega) (fun x y h => by simp only [ltI, decide_eq_true_eq]; omega) f

theorem isNaNI_is (a : Int) (w : World) : Calls Tryd.prog 112 #[.int .i64 a] w fun e w' => e = .returned (.bool false) ∧ w = w' := by
  have h : (a != a) = false := by simp
  go_enter Tryd.func112, Tryd.ntmps112
  go_wp2_with fail
  go_ret
  exact ⟨rfl, rfl⟩
theorem compareI_is (a b : Int) (w : World) : Calls Tryd.prog 105 #[.int .i64 a, .int .i64 b] w fun e w' => e = .returned (.int .i64 (cmpI a b)) ∧ w = w' := by
  have HA := Lib.hid (fun W => isNaNI_is a W); have HB := Lib.hid (fun W => isNaNI_is b W)
  obtain ⟨R, hR⟩ : ∃ R, R = cmpI a b := ⟨_, rfl⟩
  rw [← hR]
  unfold cmpI at hR
  by_cases h1 : a < b
  · rw [if_pos h1] at hR
    have HR := Lib.hid hR; clear hR
    go_enter Tryd.func105, Tryd.ntmps105
    go_wp2_with fail
    refine (HA.out _).mono ?_
    rintro e w1 ⟨rfl, rfl⟩
    go_wp2_with fail
    refine (HB.out _).mono ?_
    rintro e w1 ⟨rfl, rfl⟩
    go_wp2_with fail
    go_ret
    exact ⟨ret_int HR.out.symm, rfl⟩
  · rw [if_neg h1] at hR
    by_cases h2 : b < a
    · rw [if_pos h2] at hR
      have HR := Lib.hid hR; clear hR
      have h3 : a > b := h2
      go_enter Tryd.func105, Tryd.ntmps105
      go_wp2_with fail
      refine (HA.out _).mono ?_
      rintro e w1 ⟨rfl, rfl⟩
      go_wp2_with fail
      refine (HB.out _).mono ?_
      rintro e w1 ⟨rfl, rfl⟩
      go_wp2_with fail
      go_ret
      exact ⟨ret_int HR.out.symm, rfl⟩
    · rw [if_neg h2] at hR
      have HR := Lib.hid hR; clear hR
      have h3 : ¬ a > b := h2
      go_enter Tryd.func105, Tryd.ntmps105
      go_wp2_with fail
      refine (HA.out _).mono ?_
      rintro e w1 ⟨rfl, rfl⟩
      go_wp2_with fail
      refine (HB.out _).mono ?_
      rintro e w1 ⟨rfl, rfl⟩
      go_wp2_with fail
      go_ret
      exact ⟨ret_int HR.out.symm, rfl⟩

theorem bl_eq (a b : List UInt8) : blB a b = Op.bytesLess a b := by unfold blB; rw [Go.Lib.toList_data, Go.Lib.toList_data, bs_list, bs_list]
theorem bl_irr : ∀ x : List UInt8, Op.bytesLess x x = false
  | [] => rfl
  | a :: x => by simp [Op.bytesLess, bl_irr x]
theorem bl_tr : ∀ x y z : List UInt8, Op.bytesLess x y = true → Op.bytesLess y z = true → Op.bytesLess x z = true
  | _, [], _, h, _ => by simp [Op.bytesLess] at h
  | _, _ :: _, [], _, h => by simp [Op.bytesLess] at h
  | [], _ :: _, _ :: _, _, _ => rfl
  | a :: x, b :: y, c :: z, h1, h2 => by
    simp only [Op.bytesLess, Bool.or_eq_true, Bool.and_eq_true, decide_eq_true_eq, beq_iff_eq] at *
    rcases h1 with h1 | ⟨e1, h1⟩ <;> rcases h2 with h2 | ⟨e2, h2⟩
    · exact .inl (UInt8.lt_trans h1 h2)
    · exact .inl (by rw [← e2]; exact h1)
    · exact .inl (by rw [e1]; exact h2)
    · exact .inr ⟨e1.trans e2, bl_tr x y z h1 h2⟩
theorem bl_tot : ∀ x y : List UInt8, x ≠ y → Op.bytesLess x y = true ∨ Op.bytesLess y x = true
  | [], [], h => absurd rfl h
  | [], _ :: _, _ => .inl rfl
  | _ :: _, [], _ => .inr rfl
  | a :: x, b :: y, h => by
    simp only [Op.bytesLess, Bool.or_eq_true, Bool.and_eq_true, decide_eq_true_eq, beq_iff_eq]
    by_cases e : a = b
    · subst e
      rcases bl_tot x y (fun e => h (by rw [e])) with f | f
      · exact .inl (.inr ⟨rfl, f⟩)
      · exact .inr (.inr ⟨rfl, f⟩)
    · have hne : a.toNat ≠ b.toNat := fun f => e (UInt8.toNat_inj.1 f)
      rcases Nat.lt_or_gt_of_ne hne with f | f
      · exact .inl (.inl (UInt8.lt_iff_toNat_lt.2 f))
      · exact .inr (.inl (UInt8.lt_iff_toNat_lt.2 f))
theorem ordS (f : Int → List UInt8) : Ord1 (ltLex blB f) := ord_lex (fun x => by rw [bl_eq]; exact bl_irr x) (fun x y z h1 h2 => by rw [bl_eq] at *; exact bl_tr x y z h1 h2) (fun x y h => by rw [bl_eq, bl_eq]; exact bl_tot x y h) f

/-- The keys behind a variable: a row of numbers. -/
structure KeysI (w : World) (kb kk N C : Nat) (ks : List Int) : Prop where
  var : w.cell? ⟨kb, 0, none⟩ = some (.slice (some ⟨kk, 0, none⟩) N C)
  cell : ∀ i, i < N → w.cell? ⟨kk, i, none⟩ = some (.int .i64 (ks.getD i 0))
set_option maxHeartbeats 1000000 in
theorem byInt_is (kb kk N C i j : Nat) (ks : List Int) (w : World) (h : KeysI w kb kk N C ks) (hi : i < N) (hj : j < N) (hN : N ≤ 9223372036854775807) :
    Calls Tryd.prog 104 #[.int .i64 (i : Int), .int .i64 (j : Int), .pointer (some ⟨kb, 0, none⟩)] w fun e w' => e = .returned (.int .i64 (cmpI (ks.getD i 0) (ks.getD j 0))) ∧ ∃ m, w' = w.drewN m := by
  have hv := h.var; have hc1 := h.cell i hi; have hc2 := h.cell j hj
  generalize ks.getD i 0 = x at *
  generalize ks.getD j 0 = y at *
  have HC := Lib.hid (fun W => compareI_is x y W)
  generalize cmpI x y = z at *
  clear h
  go_enter Tryd.func104, Tryd.ntmps104
  go_wp2_with fail
  go_quiet (first | (go_at_call 105; exact Calls.quiet_of_same ((HC.out _).mono (fun _ _ h => ⟨h.1, h.2.symm⟩))))
  go_wp2_with fail
  go_ret
  exact ⟨rfl, nq, rfl⟩
/-- .. a row of texts. -/
structure KeysS (w : World) (kb kk N C : Nat) (ks : List (List UInt8)) : Prop where
  var : w.cell? ⟨kb, 0, none⟩ = some (.slice (some ⟨kk, 0, none⟩) N C)
  cell : ∀ i, i < N → w.cell? ⟨kk, i, none⟩ = some (.string (bs (ks.getD i [])))
set_option maxHeartbeats 1000000 in
theorem byStr_is (kb kk N C i j : Nat) (ks : List (List UInt8)) (w : World) (h : KeysS w kb kk N C ks) (hi : i < N) (hj : j < N) (hN : N ≤ 9223372036854775807) :
    Calls Tryd.prog 101 #[.int .i64 (i : Int), .int .i64 (j : Int), .pointer (some ⟨kb, 0, none⟩)] w fun e w' => e = .returned (.int .i64 (cmpS (ks.getD i []) (ks.getD j []))) ∧ ∃ m, w' = w.drewN m := by
  have hv := h.var; have hc1 := h.cell i hi; have hc2 := h.cell j hj
  generalize ks.getD i [] = x at *
  generalize ks.getD j [] = y at *
  have HC := Lib.hid (fun W => compareS_is x y W)
  generalize cmpS x y = z at *
  clear h
  go_enter Tryd.func101, Tryd.ntmps101
  go_wp2_with fail
  go_quiet (first | (go_at_call 83; exact Calls.quiet_of_same ((HC.out _).mono (fun _ _ h => ⟨h.1, h.2.symm⟩))))
  go_wp2_with fail
  go_ret
  exact ⟨rfl, nq, rfl⟩
theorem cmpAt_int {w : World} {b kb kk N C : Nat} {ks : List Int} (h : KeysI w kb kk N C ks) (hN : N ≤ 9223372036854775807) (hb : kb ≠ b) (hk : kk ≠ b) :
    CmpAt 104 #[.pointer (some ⟨kb, 0, none⟩)] b (fun x => 0 ≤ x ∧ x < N) (ltLex ltI (fun x => ks.getD x.toNat 0)) (fun x y => cmpI (ks.getD x.toNat 0) (ks.getD y.toNat 0)) w := by
  refine ⟨enters_of Tryd.func104 (by kernel_rfl) rfl, fun W hW x y hx hy => ?_, fun x y hx hy hyx => cmpI_lex (fun x => ks.getD x.toNat 0) x y hyx⟩
  obtain ⟨i, rfl⟩ := Int.eq_ofNat_of_zero_le hx.1
  obtain ⟨j, rfl⟩ := Int.eq_ofNat_of_zero_le hy.1
  have hx2 := hx.2; have hy2 := hy.2
  have hh := byInt_is kb kk N C i j ks W ⟨(only_cell hW (a := ⟨kb, 0, none⟩) hb).trans h.var, fun k hk' => (only_cell hW (a := ⟨kk, k, none⟩) hk).trans (h.cell k hk')⟩ (by omega) (by omega) hN
  simp only [Int.toNat_natCast, List.push_toArray, List.append_toArray, List.cons_append, List.nil_append]
  exact hh
theorem cmpS_lex (f : Int → List UInt8) (x y : Int) (h : y < x) : cmpS (f x) (f y) < 0 ↔ ltLex blB f x y = true := by
  unfold cmpS ltLex
  simp only [Bool.or_eq_true, Bool.and_eq_true, decide_eq_true_eq]
  constructor
  · intro e
    split at e
    · rename_i g; exact .inl g
    · split at e <;> omega
  · rintro (g | ⟨_, g⟩)
    · rw [if_pos g]; decide
    · omega
theorem cmpAt_str {w : World} {b kb kk N C : Nat} {ks : List (List UInt8)} (h : KeysS w kb kk N C ks) (hN : N ≤ 9223372036854775807) (hb : kb ≠ b) (hk : kk ≠ b) :
    CmpAt 101 #[.pointer (some ⟨kb, 0, none⟩)] b (fun x => 0 ≤ x ∧ x < N) (ltLex blB (fun x => ks.getD x.toNat [])) (fun x y => cmpS (ks.getD x.toNat []) (ks.getD y.toNat [])) w := by
  refine ⟨enters_of Tryd.func101 (by kernel_rfl) rfl, fun W hW x y hx hy => ?_, fun x y hx hy hyx => cmpS_lex (fun x => ks.getD x.toNat []) x y hyx⟩
  obtain ⟨i, rfl⟩ := Int.eq_ofNat_of_zero_le hx.1
  obtain ⟨j, rfl⟩ := Int.eq_ofNat_of_zero_le hy.1
  have hx2 := hx.2; have hy2 := hy.2
  have hh := byStr_is kb kk N C i j ks W ⟨(only_cell hW (a := ⟨kb, 0, none⟩) hb).trans h.var, fun k hk' => (only_cell hW (a := ⟨kk, k, none⟩) hk).trans (h.cell k hk')⟩ (by omega) (by omega) hN
  simp only [Int.toNat_natCast, List.push_toArray, List.append_toArray, List.cons_append, List.nil_append]
  exact hh
set_option maxHeartbeats 1000000 in
theorem sortStable_any (g : Nat) (lb : Array Value) (D : Int → Prop) (lt : Int → Int → Bool) (cv : Int → Int → Int) (o : Ord1 lt) (w : World) (b n c : Nat) (X : List Int) (hn : n = X.length) (h0 : 0 < n) (hn4 : n ≤ 4000) (hcap : n ≤ c) (hcm : c ≤ maxLen)
    (h : RowB w b X) (hX : X.Pairwise (fun x y => x < y)) (hD : ∀ x ∈ X, D x) (HC : CmpAt g lb b D lt cv w) :
    Calls Tryd.prog 100 #[.slice (some ⟨b, 0, none⟩) n c, .func (.func g) #[] lb] w fun z w' => z = .returned (.tuple #[]) ∧ (∃ S, Srt lt S ∧ S.Perm X ∧ RowB w' b S) ∧ Only b w w' := by
  have HS := Lib.hid (stable_any g lb D lt cv o w b n c X hn h0 hn4 hcap hcm h hX hD HC)
  clear hn h0 h hX hD HC hcap hcm
  go_enter Tryd.func100, Tryd.ntmps100
  go_wp2_with fail
  refine HS.out.mono ?_
  rintro z w2 ⟨rfl, g1, g2⟩
  have H1 := Lib.hid g1; have H2 := Lib.hid g2; clear g1 g2
  go_wp2_with fail
  go_end0
  exact ⟨rfl, H1.out, H2.out⟩
end Go.Proofs.YtlcbdmmmafpchaaDoor
