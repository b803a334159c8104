/- Inventories made again and again: the program's loop by a jump back; LoopOfInventory. -/
import Derived.Test.YtkdoghopbefjfaaT14
import Derived.ScopeJumps
import Derived.WalkMore
namespace Go.Proofs.Ytkdoghopbefjfaa
open Go.RowKit Go.BigFrame
set_option linter.unusedSimpArgs false
set_option linter.unusedVariables false
set_option maxRecDepth 4000

theorem wp_scope_again {P : Program} {a : Act} {w : World} {Q : Exit → Act → World → Prop} {c rest : Code} (l : Nat) (J : Act → World → Prop) (μ : Act → World → Nat) (hf : findLabel c l = some (Code.seq Code.skip rest))
    (pass : ∀ a w, J a w → rest.wp P (Exit.jump l (fun a' w' => J a' w' ∧ μ a' w' < μ a w) Q) a w)
    (first : (∀ a w, J a w → rest.wp P (Exit.jump l J Q) a w) → c.wp P (Exit.jump l J Q) a w) : (Code.scope c).wp P Q a w :=
  wp_scope_jumps l J μ hf (first fun a w h => Code.wp_mono (fun e a' w' h' => by
    cases e
    case goto l' => exact ⟨h'.1, h'.2.1⟩
    all_goals exact h') (pass a w h)) (fun a w h => wp_seq (wp_skip (pass a w h)))

/-- What holds at the label. -/
def AtLabel (s : ByteArray) (w : World) (K : Nat) (R : Option (List (List UInt8) × Nat)) (v : Value) (n : Nat) (x : ByteArray) (ok : Bool) (wr : World) : Prop :=
  ∃ way : List (List UInt8), n = way.length ∧ wr.ownsRow w.heap.size 9 1 v n (strVs way) ∧ Below w.heap.size w wr ∧ n ≤ 1000000002 ∧
    (if ok = true then Way invO s.data.toList way x.data.toList ∧ x.data.toList.length ≤ 400 ∧ loopF invO (K - n) way x.data.toList = R else R = none)
def LabelJ (s : ByteArray) (w : World) (K : Nat) (R : Option (List (List UInt8) × Nat)) (a' : Act) (w' : World) : Prop :=
  ∃ (n g c : Nat) (x : ByteArray) (ok : Bool) (u10 u11 u12 u13 u14 u15 u16 u17 u18 u19 u20 u21 u22 u23 u24 u25 u26 u27 u28 u29 u30 u31 : Value), a' = { tmps := #[.string s, .func (.func 13) #[] #[], undef, undef, .slice none 0 0, .int .i64 0, .bool false, .slice (some ⟨g, 0, none⟩) n c, .string x, .bool ok, u10, u11, u12, u13, u14, u15, u16, u17, u18, u19, u20, u21, u22, u23, u24, u25, u26, u27, u28, u29, u30, u31], defers := [] } ∧ AtLabel s w K R (.slice (some ⟨g, 0, none⟩) n c) n x ok w'
def boolV : Value → Nat
  | .bool true => 0
  | _ => 1
def labelM (K : Nat) (a' : Act) (_ : World) : Nat := 2 * K + 2 - 2 * lenV (a'.tmps.getD 7 undef)

set_option maxHeartbeats 4000000 in
theorem loopFrom_any (s : ByteArray) (w : World) (hl : s.size ≤ 400) (K : Nat) (hK : 1000000010 ≤ K) :
    Calls Try.prog 93 #[.string s, .func (.func 13) #[] #[]] w fun e w' => LoopOk (loopF invO K [] s.data.toList) w w' e := by
  obtain ⟨i0, hi, hz0, hz1, hz2⟩ := info_parts info_str
  obtain ⟨R, hR⟩ : ∃ R, R = loopF invO K [] s.data.toList := ⟨_, rfl⟩
  rw [← hR]
  have hs4 : s.data.toList.length ≤ 400 := by simpa using hl
  have HR := Lib.hid hR; clear hR
  go_enter Try.func93, Try.ntmps93
  go_wp2_with fail
  refine wp_scope_again 0 (LabelJ s w K R) (labelM K) rfl ?_ ?_
  · rintro a' wr ⟨n, g, c, x, ok, u10, u11, u12, u13, u14, u15, u16, u17, u18, u19, u20, u21, u22, u23, u24, u25, u26, u27, u28, u29, u30, u31, rfl, HX⟩
    obtain ⟨way, hn, ho, hb, hn9, hok⟩ := HX
    cases ok with
    | false =>
      rw [if_neg (by simp)] at hok
      have HOK := Lib.hid hok; have HB := Lib.hid hb
      clear hok hb ho
      go_wp2_with fail
      simp only [Exit.jump]
      go_ret3
      rw [HOK.out]
      exact ⟨_, rfl, World.ownsRow_nil _ _ _ _, HB.out, fun _ => rfl, fun h => absurd rfl h⟩
    | true =>
      rw [if_pos rfl] at hok
      obtain ⟨hway, hx4, hloop⟩ := hok
      obtain ⟨xl, rfl⟩ : ∃ xl, x = bs xl := ⟨_, bs_eq rfl⟩
      rw [bs_list] at hway hx4 hloop
      have hwl := wayI_len hway
      have hix := index_any wr _ g c n way xl ho hn (by omega)
      have HIX := Lib.hid hix; clear hix
      by_cases hm : xl ∈ way
      · have hid : idxI way xl = ((posL xl way : Nat) : Int) := by unfold idxI; rw [if_pos hm]
        have hend := loopF_end (K := K - n) (m := K - n - 1) (f := invO) (by omega) hm
        rw [hloop] at hend
        have hlt : posL xl way < n := by
          obtain ⟨j, hj, e⟩ := List.mem_iff_getElem.1 hm
          have : ∀ (l : List (List UInt8)), xl ∈ l → posL xl l < l.length := by
            intro l
            induction l with
            | nil => intro h; simp at h
            | cons a r ih =>
              intro h
              unfold posL
              split
              · simp
              · rename_i hne
                rcases List.mem_cons.1 h with rfl | h
                · exact absurd rfl hne
                · have := ih h; simp; omega
          rw [hn]; exact this way hm
        obtain ⟨k, hk⟩ : ∃ k, k = posL xl way := ⟨_, rfl⟩
        rw [← hk] at hid hend hlt
        have HID := Lib.hid hid; have HE := Lib.hid hend; have HO := Lib.hid ho; have HB := Lib.hid hb; have HN := Lib.hid hn
        clear hid hend ho hb hway hloop hm hk hn
        go_wp2_with fail
        refine HIX.out.mono ?_
        rintro e w2 ⟨rfl, rfl⟩
        rw [HID.out]
        have hk0 : (0 : Int) ≤ (k : Int) := by omega
        go_wp2_with fail
        simp only [Exit.jump]
        go_ret3
        rw [HE.out]
        refine ⟨_, rfl, ?_, HB.out, ?_⟩
        · simp only [Option.getD_some, ← HN.out]
          exact HO.out
        · refine ⟨?_, ?_⟩
          · intro h; cases h
          · intro _; exact ⟨by show k < way.length; rw [← HN.out]; exact hlt, by show way.length ≤ 2000000000; rw [← HN.out]; omega⟩
      · have hid : idxI way xl = -1 := by unfold idxI; rw [if_neg hm]
        have hst := loopF_step (K := K - n) (m := K - (n + 1)) (f := invO) (by omega) hm
        rw [hloop] at hst
        have hsz : (bs xl).size ≤ maxLen := by rw [bs_size]; unfold maxLen; omega
        have hcon := fun (W : World) => implInventoryOf_any (bs xl) W hsz
        rw [bs_list] at hcon
        have HID := Lib.hid hid; have HST := Lib.hid hst; have HO := Lib.hid ho; have HB := Lib.hid hb; have HN := Lib.hid hn; have HC := Lib.hid hcon; have HW := Lib.hid hway; have HM := Lib.hid hm
        clear hid hst ho hb hway hloop hm hn hcon hwl
        have hn8 : n ≤ 1000000001 := by have := wayI_len HW.out; have := HN.out; omega
        go_wp2_with fail
        refine HIX.out.mono ?_
        rintro e w2 ⟨rfl, rfl⟩
        rw [HID.out]
        go_wp2_with (at_builtin; refine wpList_app _ rfl _ _ 27 rfl w.heap.size 9 i0 (.string ⟨#[]⟩) 16 Try.underlying27 hi hz0 hz1 hz2 rfl _ n _ rfl (HO.out.alloc _) ⟨wr.heap.size, 0, none⟩ 1 1 [.string (bs xl)] rfl rfl ?c1 ?c2 ?c3 ?c4 ?c5 ?_)
        case c2 => intro u hu; simp at hu; subst hu; rfl
        case c3 => unfold maxLen; omega
        case c4 => omega
        case c5 => have := HB.out.size; simp; omega
        all_goals try (intro j u hj; match j, hj with | 0, hj => (simp at hj; subst hj; simp [Addr.add]))
        intro v' w3 hown' hgrow _
        rcases own_open hown' with ⟨_, h0, _⟩ | ⟨g', c', rfl, hB', hg', hcc, hcm, _, _, _⟩
        · omega
        have R1 := Lib.hid hown'
        have R2 := Lib.hid ((HB.out.alloc HB.out.size _).grown hgrow (by have := HB.out.size; simp; omega) (fun q hq => (HO.out.lt q hq).1))
        clear hown' hgrow
        go_wp2_with fail
        refine (HC.out w3).mono ?_
        rintro e w4 ⟨rfl, hb4⟩
        have R3 := Lib.hid (own_below R1.out hb4); have R4 := Lib.hid (R2.out.trans (hb4.mono R2.out.size))
        clear hb4
        have hstr : strVs (way ++ [xl]) = strVs way ++ [.string (bs xl)] := by simp [strVs]
        cases hf : invO xl with
        | none =>
          have hst := HST.out
          rw [hf] at hst
          have HS2 := Lib.hid hst; clear hst
          unfold strOk
          go_wp2_with fail
          go_step3
          refine ⟨rfl, ⟨n + 1, g', c', _, false, _, _, _, _, _, _, _, _, _, _, _, _, _, _, _, _, _, _, _, _, _, _, rfl, way ++ [xl], by have := HN.out; simp; omega, by rw [hstr]; exact R3.out, R4.out, by omega, ?_⟩, ?_⟩
          · rw [if_neg (by simp)]; exact HS2.out
          · simp [labelM, lenV]; omega
        | some y =>
          have hst := HST.out
          rw [hf] at hst
          have HS2 := Lib.hid hst; have HF := Lib.hid hf; clear hst hf
          unfold strOk
          go_wp2_with fail
          go_step3
          refine ⟨rfl, ⟨n + 1, g', c', _, true, _, _, _, _, _, _, _, _, _, _, _, _, _, _, _, _, _, _, _, _, _, _, rfl, way ++ [xl], by have := HN.out; simp; omega, by rw [hstr]; exact R3.out, R4.out, by omega, ?_⟩, ?_⟩
          · rw [if_pos rfl, bs_list]
            exact ⟨way_snoc HW.out HM.out HF.out, by have := invO_len HF.out; omega, HS2.out.symm⟩
          · simp [labelM, lenV]; omega
  · intro hp
    go_wp2_with fail
    refine wp_label ?_
    rename_i K1 hk
    refine hk _ _ (hp _ _ ⟨0, w.heap.size, 0, s, true, _, _, _, _, _, _, _, _, _, _, _, _, _, _, _, _, _, _, _, _, _, _, rfl, [], rfl, ?_, below_alloc _ _, by omega, ?_⟩)
    · exact own_lit w w.heap.size 9 [] (Nat.le_refl _) (by simp [maxLen])
    · rw [if_pos rfl]
      exact ⟨way_nil _ _, hs4, HR.out.symm⟩
end Go.Proofs.Ytkdoghopbefjfaa
