/- The library's stable sort: the comparison handed in; the insertion sort (insertionSortCmpFunc). -/
import Derived.Test.YtlcbdmmmafpchaaDoors4
import Derived.Shelf.Abstract
namespace Go.Proofs.YtlcbdmmmafpchaaDoor
open Go.RowKit Go.BigFrame
set_option linter.unusedSimpArgs false
set_option linter.unusedVariables false
set_option maxRecDepth 4000

/-- A comparison handed in: a closure that reads only, and compares a greater number with a smaller one as lt says. -/
structure CmpAt (g : Nat) (lb : Array Value) (b : Nat) (D : Int → Prop) (lt : Int → Int → Bool) (cv : Int → Int → Int) (w : World) : Prop where
  eg : ∀ args w, (callFunc g args).run Tryd.prog w = .ok (.enter g args) w
  call : ∀ W, Only b w W → ∀ x y, D x → D y → Calls Tryd.prog g (#[.int .i64 x, .int .i64 y] ++ lb) W fun e w' => e = .returned (.int .i64 (cv x y)) ∧ ∃ m, w' = W.drewN m
  says : ∀ x y, D x → D y → y < x → (cv x y < 0 ↔ lt x y = true)
theorem cmpAt_only {g : Nat} {lb : Array Value} {b : Nat} {D : Int → Prop} {lt : Int → Int → Bool} {cv : Int → Int → Int} {w w' : World} (h : CmpAt g lb b D lt cv w) (ho : Only b w w') : CmpAt g lb b D lt cv w' :=
  ⟨h.eg, fun W hW => h.call W (only_t ho hW), h.says⟩

theorem swpL_comm (xs : List Int) (i j : Nat) (h : i ≠ j) : swpL xs i j = swpL xs j i := by
  unfold swpL; rw [List.set_comm _ _ h]
/-- One element laid t places into a list. -/
def insT (S : List Int) (x : Int) (t : Nat) : List Int := S.take t ++ x :: S.drop t
theorem insT_len (S : List Int) (x : Int) (t : Nat) : (insT S x t).length = S.length + 1 := by
  unfold insT
  rw [List.length_append, List.length_cons, List.length_take, List.length_drop]; omega
theorem insT_all (S : List Int) (x : Int) : insT S x S.length = S ++ [x] := by simp [insT]
theorem insT_step (P S R : List Int) (x : Int) (t j1 j : Nat) (ht : t < S.length) (hj1 : j1 = P.length + t) (hj : j = P.length + t + 1) : swpL (P ++ insT S x (t + 1) ++ R) j j1 = P ++ insT S x t ++ R := by
  rw [swpL_comm _ _ _ (by omega)]
  have e : P ++ insT S x (t + 1) ++ R = (P ++ S.take t) ++ S[t] :: ([] ++ x :: (S.drop (t + 1) ++ R)) := by
    unfold insT; rw [List.take_succ_eq_append_getElem ht]; simp only [List.append_assoc, List.cons_append, List.nil_append]
  rw [e, swpL_parts _ _ _ _ _ _ _ (by rw [List.length_append, List.length_take]; omega) (by rw [List.length_append, List.length_take]; simp; omega)]
  unfold insT
  rw [show S.drop t = S[t] :: S.drop (t + 1) from List.drop_eq_getElem_cons ht]; simp only [List.append_assoc, List.cons_append, List.nil_append]
theorem insT_here (P S R : List Int) (x : Int) (t j : Nat) (ht : t ≤ S.length) (hj : j = P.length + t) : (P ++ insT S x t ++ R).getD j 0 = x := by
  have e : P ++ insT S x t ++ R = (P ++ S.take t) ++ x :: (S.drop t ++ R) := by unfold insT; simp
  rw [e, show j = (P ++ S.take t).length by rw [List.length_append, List.length_take]; omega, getD_mid]
theorem insT_left (P S R : List Int) (x : Int) (t j : Nat) (ht : t < S.length) (hj : j = P.length + t) : (P ++ insT S x (t + 1) ++ R).getD j 0 = S[t] := by
  have e : P ++ insT S x (t + 1) ++ R = (P ++ S.take t) ++ S[t] :: (x :: (S.drop (t + 1) ++ R)) := by
    unfold insT; rw [List.take_succ_eq_append_getElem ht]; simp only [List.append_assoc, List.cons_append, List.nil_append]
  rw [e, show j = (P ++ S.take t).length by rw [List.length_append, List.length_take]; omega, getD_mid]

theorem ins_done {lt : Int → Int → Bool} (o : Ord1 lt) {X S : List Int} {k t : Nat} (hk : k < X.length) (hS : Srt lt S) (hp : S.Perm (X.take k)) (ht : t ≤ S.length) (hX : X.Pairwise (fun x y => x < y))
    (h1 : t = 0 ∨ ∃ h : t - 1 < S.length, lt X[k] S[t - 1] = false) (h2 : t = S.length ∨ ∃ h : t < S.length, lt X[k] S[t] = true) : Srt lt (insT S X[k] t) ∧ (insT S X[k] t).Perm (X.take (k + 1)) := by
  have hlt : ∀ s ∈ S, s < X[k] := by
    intro s hs
    obtain ⟨j, hj, rfl⟩ := List.mem_iff_getElem.1 (hp.subset hs)
    rw [List.length_take] at hj
    rw [List.getElem_take]
    exact List.pairwise_iff_getElem.1 hX j k (by omega) hk (by omega)
  have hm := mrg_one_left (x := X[k]) hS o t ht (by
    rcases h1 with h1 | ⟨a, h1⟩
    · exact .inl h1
    · refine .inr ⟨a, ?_⟩
      have hne : X[k] ≠ S[t - 1] := fun e => by have := hlt _ (List.getElem_mem a); rw [← e] at this; omega
      rcases o.tot _ _ hne with h | h
      · rw [h1] at h; cases h
      · exact h) h2
  refine ⟨hm.1, hm.2.trans ?_⟩
  rw [List.take_succ_eq_append_getElem hk]
  exact (List.perm_append_comm).trans (List.Perm.append_right _ hp)

set_option maxHeartbeats 4000000 in
theorem insertion_any (g : Nat) (lb : Array Value) (D : Int → Prop) (lt : Int → Int → Bool) (cv : Int → Int → Int) (o : Ord1 lt) (w : World) (b n c : Nat) (P X Q : List Int) (a e : Nat) (ha : a = P.length) (he : e = P.length + X.length)
    (hn : n = P.length + X.length + Q.length) (hn4 : n ≤ 4000) (hcap : n ≤ c) (hcm : c ≤ maxLen) (h : RowB w b (P ++ X ++ Q)) (hX : X.Pairwise (fun x y => x < y)) (hD : ∀ x ∈ X, D x) (HC : CmpAt g lb b D lt cv w) :
    Calls Tryd.prog 116 #[.slice (some ⟨b, 0, none⟩) n c, .int .i64 (a : Int), .int .i64 (e : Int), .func (.func g) #[] lb] w fun z w' => z = .returned (.tuple #[]) ∧ (∃ S, Srt lt S ∧ S.Perm X ∧ RowB w' b (P ++ S ++ Q)) ∧ Only b w w' := by
  unfold maxLen at hcm
  have heg := HC.eg
  have HCM := Lib.hid HC
  have H0 := Lib.hid h; have HX := Lib.hid hX; have HD := Lib.hid hD
  obtain ⟨N, hN⟩ : ∃ N, N = X.length := ⟨_, rfl⟩
  have HN := Lib.hid hN; have HA := Lib.hid (And.intro ha (show n = P.length + N + Q.length by omega))
  have hea : e = a + N := by omega
  have HEA := Lib.hid hea
  have hen : e ≤ n := by omega
  have han : a ≤ 4000 := by omega
  have hw1 : wrap64 ((a : Int) + 1) = (a : Int) + 1 := by unfold wrap64; omega
  clear h hX hD HC ha he hn hN hea
  go_enter Tryd.func116, Tryd.ntmps116
  go_wp2_with fail
  go_loopw [8] (fun iv wr => ∃ (k i : Nat) (S : List Int), iv = .int .i64 (i : Int) ∧ i = a + k ∧ 1 ≤ k ∧ (k ≤ N ∨ k = 1) ∧ Hid (Srt lt S ∧ S.Perm (X.take k) ∧ RowB wr b (P ++ S ++ X.drop k ++ Q) ∧ Only b w wr)) (fun iv _ => e + 1 - (intOf iv).toNat)
  case atStart =>
    refine ⟨1, a + 1, X.take 1, by simp [hw1], rfl, by omega, .inr rfl, ?_, List.Perm.refl _, ?_, only_refl _ _⟩
    · cases X with
      | nil => exact List.Pairwise.nil
      | cons x t => exact List.pairwise_singleton _ _
    · rw [List.append_assoc P, List.take_append_drop]; exact H0.out
  case round =>
    obtain ⟨k, i, S, rfl, hik, hk1, hkN, HR⟩ := hrel
    by_cases hlt : k < N
    · have hkX : k < X.length := by rw [← HN.out]; exact hlt
      have hSl : S.length = k := by rw [HR.out.2.1.length_eq, List.length_take]; omega
      obtain ⟨x, hx⟩ : ∃ x, x = X[k] := ⟨_, rfl⟩
      have hDx : D x := by rw [hx]; exact HD.out _ (List.getElem_mem _)
      have hDS : ∀ s ∈ S, D s := fun s hs => HD.out s (List.take_subset _ _ (HR.out.2.1.subset hs))
      have hlx : ∀ s ∈ S, s < x := by
        intro s hs
        obtain ⟨j, hj, rfl⟩ := List.mem_iff_getElem.1 (HR.out.2.1.subset hs)
        rw [List.length_take] at hj
        rw [List.getElem_take, hx]
        exact List.pairwise_iff_getElem.1 HX.out j k (by omega) hkX (by omega)
      have hrow : P ++ S ++ X.drop k ++ Q = P ++ insT S x k ++ (X.drop (k + 1) ++ Q) := by
        rw [show insT S x k = S ++ [x] by rw [← hSl]; exact insT_all S x, List.drop_eq_getElem_cons hkX, hx]; simp only [List.append_assoc, List.cons_append, List.nil_append]
      have hdone : ∀ t, t ≤ k → (t = 0 ∨ ∃ h : t - 1 < S.length, lt x S[t - 1] = false) → (t = k ∨ ∃ h : t < S.length, lt x S[t] = true) → Srt lt (insT S x t) ∧ (insT S x t).Perm (X.take (k + 1)) := by
        intro t ht h1 h2
        rw [hx] at h1 h2 ⊢
        exact ins_done o hkX HR.out.1 HR.out.2.1 (by omega) HX.out h1 (by rcases h2 with h2 | h2; exact .inl (by omega); exact .inr h2)
      obtain ⟨R, hRe⟩ : ∃ R, R = X.drop (k + 1) ++ Q := ⟨_, rfl⟩
      have hlen : ∀ t, (P ++ insT S x t ++ R).length = n := by
        intro t
        have := HA.out.2
        rw [List.length_append, List.length_append, insT_len, hRe, List.length_append, List.length_drop, ← HN.out]; omega
      rw [← hRe] at hrow
      obtain ⟨wo, hwo⟩ : ∃ wo : World, wo = wr := ⟨_, rfl⟩
      have HRW : Hid (RowB wr b (P ++ insT S x k ++ R) ∧ Only b w wr) := ⟨by rw [← hrow]; exact HR.out.2.2.1, HR.out.2.2.2⟩
      have HIK := Lib.hid hik; have HSL := Lib.hid hSl; have HDX := Lib.hid hDx; have HDS := Lib.hid hDS; have HLX := Lib.hid hlx; have HDN := Lib.hid hdone; have HLEN := Lib.hid hlen; have HRE := Lib.hid hRe
      have hi1 : i < e := by have := HEA.out; omega
      have hin : i < n := by omega
      have hai : a ≤ i := by omega
      clear hik hSl hDx hDS hlx hdone hlen hRe hrow hx hkX hwo HR
      go_wp2_with fail
      go_loopw [9] (fun jv wr => ∃ (t j : Nat), jv = .int .i64 (j : Int) ∧ j ≤ i ∧ a ≤ j ∧ Hid (j = a + t ∧ t ≤ k ∧ RowB wr b (P ++ insT S x t ++ R) ∧ Only b w wr ∧ (t = k ∨ ∃ h : t < S.length, lt x S[t] = true))) (fun jv _ => (intOf jv).toNat)
      case atStart => exact ⟨k, i, rfl, Nat.le_refl _, hai, HIK.out, Nat.le_refl _, HRW.out.1, HRW.out.2, .inl rfl⟩
      case round =>
        obtain ⟨t, j, rfl, hji, haj, HT⟩ := hrel
        by_cases hja : j = a
        · subst hja
          have ht0 : t = 0 := by have := HT.out.1; omega
          have HF := Lib.hid (HDN.out t HT.out.2.1 (.inl ht0) HT.out.2.2.2.2)
          have HT2 := Lib.hid (And.intro HT.out.2.2.1 HT.out.2.2.2.1)
          clear HT ht0 HRW
          go_wp2_with fail
          go_quiet (fail)
          go_wp2_with fail
          go_roundw
          case rel =>
            refine ⟨k + 1, i + 1, insT S x t, by go_num, by have := HIK.out; omega, by omega, .inl (by omega), HF.out.1, HF.out.2, ?_, only_t HT2.out.2 (only_drewN _ _ _)⟩
            rw [List.append_assoc (P ++ insT S x t), ← HRE.out]; exact rowB_drewN HT2.out.1
          case measure => simp [intOf] <;> omega
        · obtain ⟨s, hs⟩ : ∃ s, t = s + 1 := ⟨t - 1, by have := HT.out.1; omega⟩
          obtain ⟨j1, hj1⟩ : ∃ j1, j = j1 + 1 := ⟨j - 1, by omega⟩
          have hsS : s < S.length := by have := HT.out.2.1; have := HSL.out; omega
          have hjt : j1 = a + s := by have := HT.out.1; omega
          have hc1 := HT.out.2.2.1.cell j (by rw [HLEN.out]; omega)
          have hc2 := HT.out.2.2.1.cell j1 (by rw [HLEN.out]; omega)
          have hf1 := HT.out.2.2.1.free j (by rw [HLEN.out]; omega)
          have hf2 := HT.out.2.2.1.free j1 (by rw [HLEN.out]; omega)
          have hsw := rowB_swap HT.out.2.2.1 j j1 (by rw [HLEN.out]; omega) (by rw [HLEN.out]; omega)
          have hpa := HA.out.1
          rw [hs, insT_here P S R x (s + 1) j (by omega) (by omega)] at hc1
          rw [hs, insT_left P S R x s j1 hsS (by omega)] at hc2
          rw [hs, insT_left P S R x s j1 hsS (by omega), insT_here P S R x (s + 1) j (by omega) (by omega), insT_step P S R x s j1 j hsS (by omega) (by omega)] at hsw
          have hsx := HLX.out _ (List.getElem_mem hsS)
          have hsays := HCM.out.says x S[s] HDX.out (HDS.out _ (List.getElem_mem hsS)) hsx
          have hcall := fun W hW => HCM.out.call W hW x S[s] HDX.out (HDS.out _ (List.getElem_mem hsS))
          have HFX : Hid (lt x S[s] = false → Srt lt (insT S x (s + 1)) ∧ (insT S x (s + 1)).Perm (X.take (k + 1))) := fun hl => HDN.out (s + 1) (by have := HT.out.2.1; omega) (.inr ⟨by omega, hl⟩) (by have := HT.out.2.2.2.2; rw [hs] at this; exact this)
          have HBT : Hid (lt x S[s] = true → s = k ∨ ∃ h : s < S.length, lt x S[s] = true) := fun hl => .inr ⟨hsS, hl⟩
          have HRT : Hid (RowB wr b (P ++ insT S x (s + 1) ++ R) ∧ Only b w wr ∧ s + 1 ≤ k) := ⟨by rw [← hs]; exact HT.out.2.2.1, HT.out.2.2.2.1, by rw [← hs]; exact HT.out.2.1⟩
          obtain ⟨y, hy⟩ : ∃ y, y = S[s] := ⟨_, rfl⟩
          rw [← hy] at hc2 hsw hsays hcall HFX HBT
          generalize cv x y = z at *
          have hjz : (j : Int) - 1 = (j1 : Int) := by omega
          have haz : (a : Int) < (j : Int) := by omega
          have haz2 : (j : Int) > (a : Int) := by omega
          have hj1n : j1 < n := by omega
          have hjn : j < n := by omega
          have hne : j ≠ j1 := by omega
          have hne' : j1 ≠ j := by omega
          have HSW := Lib.hid hsw; have HCALL := Lib.hid (fun q => hcall (wr.drewN q) (only_t HRT.out.2.1 (only_drewN _ _ _))); have HJT := Lib.hid (And.intro hjt hj1)
          clear hsw hcall hjt hj1 hs hpa hsx HT hy HRW hsS
          cases hl : lt x y with
          | true =>
            have hz : z < 0 := hsays.2 hl
            have HB2 := Lib.hid (HBT.out hl)
            clear hsays HFX HBT hl
            go_wp2_with fail
            go_quiet (first | (go_at_fn g; exact Calls.quiet_of (HCALL.out _)))
            go_wp2_with fail
            have k1 : (wr.drewN nq).cell? ⟨b, j, none⟩ = some (.int .i64 x) := hc1
            have k2 : (wr.drewN nq).cell? ⟨b, j1, none⟩ = some (.int .i64 y) := hc2
            have k3 : (wr.drewN nq).frozen? ⟨b, j, none⟩ = false := hf1
            have k4 : (wr.drewN nq).frozen? ⟨b, j1, none⟩ = false := hf2
            have HSW2 : Hid (RowB (((wr.drewN nq).setCell ⟨b, j, none⟩ (.int .i64 y)).setCell ⟨b, j1, none⟩ (.int .i64 x)) b (P ++ insT S x s ++ R)) := ⟨HSW.out.cell, HSW.out.free⟩
            have HO2 := Lib.hid (only_t HRT.out.2.1 (only_drewN b wr nq))
            generalize wr.drewN nq = wq at *
            clear hc1 hc2 hf1 hf2 HSW HCALL
            go_region
            go_wp2_with fail
            go_roundw
            case rel => exact ⟨s, j1, by go_num, by omega, by have := HJT.out; omega, HJT.out.1, by have := HRT.out.2.2; omega, rowB_drew HSW2.out, only_t HO2.out (only_t (only_t (only_set b j _ _) (only_set b j1 _ _)) (only_drew _ _)), HB2.out⟩
            case measure => simp [intOf] <;> omega
          | false =>
            have hz : ¬ z < 0 := fun e => by have := hsays.1 e; rw [hl] at this; cases this
            have HF := Lib.hid (HFX.out hl)
            clear hsays HFX HBT hl
            go_wp2_with fail
            go_quiet (first | (go_at_fn g; exact Calls.quiet_of (HCALL.out _)))
            go_wp2_with fail
            go_roundw
            case rel =>
              refine ⟨k + 1, i + 1, insT S x (s + 1), by go_num, by have := HIK.out; omega, by omega, .inl (by omega), HF.out.1, HF.out.2, ?_, only_t HRT.out.2.1 (only_drewN _ _ _)⟩
              rw [List.append_assoc (P ++ insT S x (s + 1)), ← HRE.out]; exact rowB_drewN HRT.out.1
            case measure => simp [intOf] <;> omega
    · have hi1 : ¬ i < e := by have := HEA.out; omega
      have HF : Hid (S.Perm X) := by
        have := HR.out.2.1
        rw [List.take_of_length_le (by rw [← HN.out]; omega)] at this; exact this
      have HRW : Hid (RowB wr b (P ++ S ++ Q)) := by
        have := HR.out.2.2.1
        rw [List.drop_of_length_le (by rw [← HN.out]; omega), List.append_nil] at this; exact this
      have HR2 := Lib.hid (And.intro HR.out.1 HR.out.2.2.2)
      clear hik hkN HR
      go_wp2_with fail
      go_end0
      exact ⟨rfl, ⟨S, HR2.out.1, HF.out, HRW.out⟩, HR2.out.2⟩
end Go.Proofs.YtlcbdmmmafpchaaDoor
