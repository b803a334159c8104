/- The library's stable sort: stableCmpFunc, SortStableFunc, walked. -/
import Derived.Test.YtlcbdmmmafpchaaDoorsc
namespace Go.Proofs.YtlcbdmmmafpchaaDoor
open Go.RowKit Go.BigFrame
set_option linter.unusedSimpArgs false
set_option linter.unusedVariables false
set_option maxRecDepth 4000

set_option maxHeartbeats 8000000 in
set_option maxRecDepth 100000 in
theorem stable_any (g : Nat) (lb : Array Value) (D : Int → Prop) (lt : Int → Int → Bool) (cv : Int → Int → Int) (o : Ord1 lt) (w : World) (b n c : Nat) (X : List Int) (hn : n = X.length) (h0 : 0 < n) (hn4 : n ≤ 4000) (hcap : n ≤ c) (hcm : c ≤ maxLen)
    (h : RowB w b X) (hX : X.Pairwise (fun x y => x < y)) (hD : ∀ x ∈ X, D x) (HC : CmpAt g lb b D lt cv w) :
    Calls Tryd.prog 110 #[.slice (some ⟨b, 0, none⟩) n c, .int .i64 (n : Int), .func (.func g) #[] lb] w fun z w' => z = .returned (.tuple #[]) ∧ (∃ S, Srt lt S ∧ S.Perm X ∧ RowB w' b S) ∧ Only b w w' := by
  have HCM := Lib.hid HC; have H0 := Lib.hid h; have HX := Lib.hid hX; have HD := Lib.hid hD; have HN := Lib.hid hn; have HCA := Lib.hid (And.intro hcap hcm)
  clear h hX hD HC hn hcap hcm
  go_enter Tryd.func110, Tryd.ntmps110
  go_wp2_with fail
  go_loopw [7, 8] (fun av bv wr => ∃ (a e : Nat), av = .int .i64 (a : Int) ∧ bv = .int .i64 (e : Int) ∧ a ≤ n ∧ e ≤ n + 20 ∧ Hid (e = a + 20 ∧ (∃ q, a = q * 20) ∧ ∃ A : List Int, A.length = a ∧ RowB wr b (A ++ X.drop a) ∧ Pass lt X 1 20 a (A ++ X.drop a) ∧ Only b w wr)) (fun av bv _ => n + 20 - (intOf bv).toNat)
  case atStart => exact ⟨0, 20, by simp, by simp, by omega, by omega, rfl, ⟨0, rfl⟩, [], rfl, H0.out, pass_init (by omega), only_refl _ _⟩
  case round =>
    obtain ⟨a, e, rfl, rfl, han, hen, HR⟩ := hrel
    by_cases hlt : e ≤ n
    · obtain ⟨he, hq, A, hA, hrow, hps, ho⟩ := HR.out
      have hXn := HN.out
      have hcl := chk_len X a e (by omega)
      have hdc := drop_chk X a e (by omega) (by omega)
      have hdl : (X.drop e).length = n - e := by rw [List.length_drop]; omega
      have hrow2 : RowB wr b (A ++ chk X a e ++ X.drop e) := by rw [List.append_assoc, ← hdc]; exact hrow
      have hps2 : Pass lt X 1 20 a (A ++ chk X a e ++ X.drop e) := by rw [List.append_assoc, ← hdc]; exact hps
      have HI := Lib.hid (insertion_any g lb D lt cv o wr b n c A (chk X a e) (X.drop e) a e hA.symm (by omega) (by omega) hn4 HCA.out.1 HCA.out.2 hrow2 (chk_pw HX.out a e) (fun x hx => HD.out x (chk_mem x hx)) (cmpAt_only HCM.out ho))
      have HST : Hid (∀ S : List Int, Srt lt S → S.Perm (chk X a e) → (A ++ S).length = e ∧ Pass lt X 1 20 e (A ++ S ++ X.drop e)) := fun S hS hp => by
        have hl := hp.length_eq
        refine ⟨by rw [List.length_append]; omega, ?_⟩
        have := pass_step (S' := S) hps2 (by omega) ⟨20, rfl⟩ hA.symm hq (by omega) (by omega) hS (by rw [← he]; exact hp)
        rw [← he] at this; exact this
      have HQ : Hid (∃ q, e = q * 20) := by obtain ⟨q, hq⟩ := hq; exact ⟨q + 1, by omega⟩
      have HO := Lib.hid ho
      obtain ⟨e1, he1⟩ : ∃ e1, e1 = e + 20 := ⟨_, rfl⟩
      have hez : (e : Int) + 20 = (e1 : Int) := by omega
      have he1n : e1 ≤ n + 20 := by omega
      have HE1 := Lib.hid he1
      clear he hq hA hrow hps ho hXn hcl hdc hdl hrow2 hps2 HR he1
      go_wp2_with fail
      refine HI.out.mono ?_
      rintro z w2 ⟨rfl, ⟨S, g1, g2, g3⟩, g4⟩
      have HS := Lib.hid (HST.out S g1 g2); have H3 := Lib.hid g3; have H4 := Lib.hid (only_t HO.out g4)
      clear g1 g2 g3 g4
      go_wp2_with fail
      go_roundw
      case rel => exact ⟨e, e1, by go_num, by go_num, hlt, he1n, HE1.out, HQ.out, A ++ S, HS.out.1, H3.out, HS.out.2, H4.out⟩
      case measure => have := HE1.out; simp [intOf] <;> omega
    · obtain ⟨he, hq, A, hA, hrow, hps, ho⟩ := HR.out
      have hXn := HN.out
      have hdl : (X.drop a).length = n - a := by rw [List.length_drop]; omega
      have hdc : X.drop a = chk X a n := by unfold chk; rw [List.take_of_length_le (by omega)]
      have HI := Lib.hid (insertion_any g lb D lt cv o wr b n c A (X.drop a) [] a n hA.symm (by omega) (by simp; omega) hn4 HCA.out.1 HCA.out.2 (by rw [List.append_nil]; exact hrow) (by rw [hdc]; exact chk_pw HX.out a n) (fun x hx => HD.out x (List.drop_subset _ _ hx)) (cmpAt_only HCM.out ho))
      have HST : Hid (∀ S : List Int, Srt lt S → S.Perm (X.drop a) → Full lt X 20 (A ++ S ++ [])) := fun S hS hp => by
        have hl := hp.length_eq
        exact full_last (S := X.drop a) (by rw [List.append_nil]; exact hps) (by omega) hq hA.symm (by omega) (by omega) hS (by rw [← hXn, ← hdc]; exact hp)
      have HO := Lib.hid ho
      clear he hq hA hrow hps ho hXn hdl hdc HR
      go_wp2_with fail
      refine HI.out.mono ?_
      rintro z w2 ⟨rfl, ⟨S, g1, g2, g3⟩, g4⟩
      have HS := Lib.hid (HST.out S g1 g2); have H3 := Lib.hid g3; have H4 := Lib.hid (only_t HO.out g4)
      clear g1 g2 g3 g4 HI HST HO
      go_wp2_with fail
      go_loopw [6] (fun sv wr => ∃ (s : Nat), sv = .int .i64 (s : Int) ∧ 20 ≤ s ∧ s ≤ 8000 ∧ Hid (∃ xs : List Int, RowB wr b xs ∧ Full lt X s xs ∧ Only b w wr)) (fun sv _ => n - (intOf sv).toNat)
      case atStart => exact ⟨20, by simp, by omega, by omega, _, H3.out, HS.out, H4.out⟩
      case round =>
        obtain ⟨s, rfl, hs20, hs8, HF⟩ := hrel
        by_cases hsn : s < n
        · obtain ⟨u, hu⟩ : ∃ u, u = s + s := ⟨_, rfl⟩
          have huz1 : (2 : Int) * (s : Int) = (u : Int) := by omega
          have huz2 : (s : Int) * 2 = (u : Int) := by omega
          have hu8 : u ≤ 8000 := by omega
          have hsu : s < u := by omega
          have HU := Lib.hid hu
          clear hu
          go_wp2_with fail
          go_loopw [7, 8] (fun av bv wr => ∃ (a e : Nat), av = .int .i64 (a : Int) ∧ bv = .int .i64 (e : Int) ∧ a ≤ n ∧ e ≤ n + u ∧ Hid (e = a + u ∧ (∃ q, a = q * u) ∧ ∃ xs : List Int, RowB wr b xs ∧ Pass lt X s u a xs ∧ Only b w wr)) (fun av bv _ => n + u - (intOf bv).toNat)
          case atStart =>
            obtain ⟨xs, f1, f2, f3⟩ := HF.out
            exact ⟨0, u, by simp, by first | rfl | simp [huz1], by omega, by omega, by omega, ⟨0, by simp⟩, xs, f1, pass_start f2 (by omega), f3⟩
          case round =>
            obtain ⟨a, e, rfl, rfl, han, hen, HP⟩ := hrel
            by_cases hlt : e ≤ n
            · obtain ⟨he, hq, xs, hrow, hps, ho⟩ := HP.out
              have hXn := HN.out
              have hu := HU.out
              obtain ⟨m, hm⟩ : ∃ m, m = a + s := ⟨_, rfl⟩
              have hmz : (a : Int) + (s : Int) = (m : Int) := by omega
              obtain ⟨q1, q2, q3, q4⟩ := sym_in (b := b) (D := D) (c := c) (e := e) hps HX.out HD.out hXn (by omega) hm (by omega) (by omega) hn4 HCA.out.1 HCA.out.2
              have HI := Lib.hid (sym_any g lb D lt cv o b n c (n + 1) _ _ _ _ a m e wr q1 (by rw [← q4]; exact hrow) (cmpAt_only HCM.out ho) (by have := q1.hn; omega))
              have HST : Hid (∀ S : List Int, Mrg lt (chk xs a m) (chk xs m e) S → Pass lt X s u e (xs.take a ++ S ++ xs.drop e)) := fun S hS => sym_step hps hu (by omega) hm he (by omega) hq q2 q3 hS
              have HQ : Hid (∃ q, e = q * u) := by obtain ⟨q, hq⟩ := hq; exact ⟨q + 1, by rw [Nat.add_mul, Nat.one_mul, ← hq]; exact he⟩
              have HO := Lib.hid ho
              obtain ⟨e1, he1⟩ : ∃ e1, e1 = e + u := ⟨_, rfl⟩
              have hez : (e : Int) + (u : Int) = (e1 : Int) := by omega
              have he1n : e1 ≤ n + u := by omega
              have HE1 := Lib.hid he1
              have hmn : m ≤ 12000 := by omega
              clear he hq hrow hps ho hXn hu hm q1 q2 q3 q4 HP he1
              go_wp2_with fail
              refine HI.out.mono ?_
              rintro z w2 ⟨rfl, ⟨S, g1, g3⟩, g4⟩
              have HS := Lib.hid (HST.out S g1); have H3 := Lib.hid g3; have H4 := Lib.hid (only_t HO.out g4)
              clear g1 g3 g4
              go_wp2_with fail
              go_roundw
              case rel => exact ⟨e, e1, by go_num, by go_num, hlt, he1n, HE1.out, HQ.out, _, H3.out, HS.out, H4.out⟩
              case measure => have := HE1.out; simp [intOf] <;> omega
            · obtain ⟨he, hq, xs, hrow, hps, ho⟩ := HP.out
              have hXn := HN.out
              have hu := HU.out
              obtain ⟨m, hm⟩ : ∃ m, m = a + s := ⟨_, rfl⟩
              have hmz : (a : Int) + (s : Int) = (m : Int) := by omega
              have hmn : m ≤ 12000 := by omega
              have HO := Lib.hid ho
              by_cases hmlt : m < n
              · obtain ⟨q1, q2, q3, q4⟩ := sym_in (b := b) (D := D) (c := c) (e := n) hps HX.out HD.out hXn (by omega) hm hmlt (by omega) hn4 HCA.out.1 HCA.out.2
                have HI := Lib.hid (sym_any g lb D lt cv o b n c (n + 1) _ _ _ _ a m n wr q1 (by rw [← q4]; exact hrow) (cmpAt_only HCM.out ho) (by have := q1.hn; omega))
                have HST : Hid (∀ S : List Int, Mrg lt (chk xs a m) (chk xs m n) S → Full lt X u (xs.take a ++ S ++ xs.drop n)) := fun S hS => sym_last hps hu (by omega) hm hmlt hXn (by omega) hq q2 q3 hS
                clear he hq hrow hps ho hXn hu hm q1 q2 q3 q4 HP
                go_wp2_with fail
                refine HI.out.mono ?_
                rintro z w2 ⟨rfl, ⟨S, g1, g3⟩, g4⟩
                have HS := Lib.hid (HST.out S g1); have H3 := Lib.hid g3; have H4 := Lib.hid (only_t HO.out g4)
                clear g1 g3 g4
                go_wp2_with fail
                go_roundw
                case rel => exact ⟨u, by go_num, by omega, hu8, _, H3.out, HS.out, H4.out⟩
                case measure => simp [intOf] <;> omega
              · have HS := Lib.hid (sym_none hps hu (by omega) (by omega) (by omega) hq)
                have H3 := Lib.hid hrow
                clear he hq hrow hps ho hXn hu hm HP
                go_wp2_with fail
                go_roundw
                case rel => exact ⟨u, by go_num, by omega, hu8, _, H3.out, HS.out, HO.out⟩
                case measure => simp [intOf] <;> omega
        · have HE : Hid (∃ xs : List Int, Srt lt xs ∧ xs.Perm X ∧ RowB wr b xs ∧ Only b w wr) := by
            obtain ⟨xs, f1, f2, f3⟩ := HF.out
            have hXn := HN.out
            have := full_all f2 (by omega) (by omega)
            exact ⟨xs, this.1, this.2, f1, f3⟩
          clear HF
          go_wp2_with fail
          go_end0
          obtain ⟨xs, f1, f2, f3, f4⟩ := HE.out
          exact ⟨rfl, ⟨xs, f1, f2, f3⟩, f4⟩
end Go.Proofs.YtlcbdmmmafpchaaDoor
