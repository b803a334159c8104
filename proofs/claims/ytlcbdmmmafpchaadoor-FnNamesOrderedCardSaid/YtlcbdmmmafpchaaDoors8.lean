/- The library's stable sort: symMergeCmpFunc, the general case. -/
import Derived.Test.YtlcbdmmmafpchaaDoors7
namespace Go.Proofs.YtlcbdmmmafpchaaDoor
open Go.RowKit Go.BigFrame
set_option linter.unusedSimpArgs false
set_option linter.unusedVariables false
set_option maxRecDepth 4000

def SymPost (b : Nat) (lt : Int → Int → Bool) (P L M Q : List Int) (W : World) (z : Ending) (w' : World) : Prop := z = .returned (.tuple #[]) ∧ (∃ S, Mrg lt L M S ∧ RowB w' b (P ++ S ++ Q)) ∧ Only b W w'
/-- The parts that the search has found. -/
structure Mid (lt : Int → Int → Bool) (L M L1 L2 M1 M2 : List Int) : Prop where
  hL : L = L1 ++ L2
  hM : M = M1 ++ M2
  less : ∀ x ∈ L1 ++ M1, ∀ y ∈ L2 ++ M2, lt x y = true
theorem mid_join {lt : Int → Int → Bool} {L M L1 L2 M1 M2 S1 S2 : List Int} (h : Mid lt L M L1 L2 M1 M2) (h1 : Mrg lt L1 M1 S1) (h2 : Mrg lt L2 M2 S2) : Mrg lt L M (S1 ++ S2) := by
  have e1 : L.take L1.length = L1 := by rw [h.hL]; simp
  have e2 : L.drop L1.length = L2 := by rw [h.hL]; simp
  have e3 : M.take M1.length = M1 := by rw [h.hM]; simp
  have e4 : M.drop M1.length = M2 := by rw [h.hM]; simp
  refine mrg_join L1.length M1.length ?_ ?_ ?_
  · rw [e1, e3]; exact h1
  · rw [e2, e4]; exact h2
  · rw [e1, e2, e3, e4]; exact h.less

set_option maxHeartbeats 16000000 in
set_option maxRecDepth 100000 in
theorem symGen_any (g : Nat) (lb : Array Value) (D : Int → Prop) (lt : Int → Int → Bool) (cv : Int → Int → Int) (o : Ord1 lt) (w : World) (b n c : Nat) (P L M Q : List Int) (a m e LL : Nat) (hLL : LL = L.length + M.length) (hI : SymIn b n c D lt P L M Q a m e)
    (h1 : L.length ≠ 1) (h2 : M.length ≠ 1) (h : RowB w b (P ++ L ++ M ++ Q)) (HC : CmpAt g lb b D lt cv w)
    (hIH : ∀ (P L M' Q : List Int) (a m e : Nat) (W : World), SymIn b n c D lt P L M' Q a m e → RowB W b (P ++ L ++ M' ++ Q) → CmpAt g lb b D lt cv W → L.length + M'.length < LL →
      Calls Tryd.prog 117 #[.slice (some ⟨b, 0, none⟩) n c, .int .i64 (a : Int), .int .i64 (m : Int), .int .i64 (e : Int), .func (.func g) #[] lb] W (SymPost b lt P L M' Q W)) :
    Calls Tryd.prog 117 #[.slice (some ⟨b, 0, none⟩) n c, .int .i64 (a : Int), .int .i64 (m : Int), .int .i64 (e : Int), .func (.func g) #[] lb] w (SymPost b lt P L M Q w) := by
  have hcm := hI.max
  unfold maxLen at hcm
  have hcap := hI.cap; have hn4 := hI.n4
  have hcmz : c ≤ 9223372036854775807 := by omega
  have heg := HC.eg
  have HI := Lib.hid hI; have HCM := Lib.hid HC; have HIH := Lib.hid hIH
  have hL0 := hI.hL; have hM0 := hI.hM
  have hma : a + L.length = m := by have := hI.ha; have := hI.hm; omega
  have hme : m + M.length = e := by have := hI.he; have := hI.hm; omega
  have ham : a < m := by omega
  have hem : m < e := by omega
  have hen : e ≤ n := by have := hI.he; have := hI.hn; omega
  obtain ⟨d1, hd1⟩ : ∃ d, d = m - a := ⟨_, rfl⟩
  obtain ⟨d2, hd2⟩ : ∃ d, d = e - m := ⟨_, rfl⟩
  have hd1z : (m : Int) - (a : Int) = (d1 : Int) := by omega
  have hd2z : (e : Int) - (m : Int) = (d2 : Int) := by omega
  have hd1b : ((d1 : Int) == 1) = false := by simp; omega
  have hd2b : ((d2 : Int) == 1) = false := by simp; omega
  have hd1c : ¬ d1 = 1 := by omega
  have hd2c : ¬ d2 = 1 := by omega
  obtain ⟨mid, hmid⟩ : ∃ mid, mid = (a + e) / 2 := ⟨_, rfl⟩
  obtain ⟨nn, hnn⟩ : ∃ nn, nn = mid + m := ⟨_, rfl⟩
  obtain ⟨p, hp⟩ : ∃ p, nn = p + 1 := ⟨nn - 1, by omega⟩
  have hmidz : ((a : Int) + (e : Int)) / 2 = (mid : Int) := by omega
  have hnnz : (mid : Int) + (m : Int) = (nn : Int) := by omega
  have hpz : (nn : Int) - 1 = (p : Int) := by omega
  have hmn : mid < n := by omega
  have hame : a ≤ mid := by omega
  obtain ⟨s0, hs0⟩ : ∃ s0, s0 = if (a + e) / 2 < m then (a + e) / 2 + m - e else a := ⟨_, rfl⟩
  obtain ⟨r0, hr0⟩ : ∃ r0, r0 = if (a + e) / 2 < m then (a + e) / 2 else m := ⟨_, rfl⟩
  have hends := fun (s : Nat) => mid_ends (lt := lt) (L := L) (M := M) o a m e s (by omega) (by omega) ham hem
  rw [← hs0, ← hr0, ← hmid] at hends
  have hcase : (mid < m ∧ (nn : Int) - (e : Int) = (s0 : Int) ∧ r0 = mid) ∨ (¬ mid < m ∧ s0 = a ∧ r0 = m) := by
    rw [← hmid] at hs0 hr0
    by_cases hc : mid < m
    · rw [if_pos hc] at hs0 hr0
      exact .inl ⟨hc, by omega, hr0⟩
    · rw [if_neg hc] at hs0 hr0
      exact .inr ⟨hc, hs0, hr0⟩
  have hbound : a ≤ s0 ∧ s0 ≤ r0 ∧ r0 ≤ m ∧ r0 ≤ mid ∧ mid + m ≤ e + s0 := by
    rcases hcase with ⟨c1, c2, c3⟩ | ⟨c1, c2, c3⟩ <;> omega
  obtain ⟨hb1, hb2, hb3, hb4, hb5⟩ := hbound
  have HENDS := Lib.hid hends
  have HNUM : Hid (a + L.length = m ∧ m + M.length = e ∧ nn = mid + m ∧ nn = p + 1 ∧ mid + m ≤ e + s0 ∧ LL = L.length + M.length) := ⟨hma, hme, hnn, hp, hb5, hLL⟩
  have hrow : ∀ W, RowB W b (P ++ L ++ M ++ Q) → (P ++ L ++ M ++ Q).length = n := fun _ _ => by
    have := hI.hn
    simp only [List.length_append]; omega
  have hlen : (P ++ L ++ M ++ Q).length = n := hrow w h
  have HLEN := Lib.hid hlen
  have H0 := Lib.hid h
  have hmidm : mid ≤ e := by omega
  clear hI HC hIH h h1 h2 hrow hlen hma hme hd1 hd2 hL0 hM0 hmid hnn hp hs0 hr0 hends hb5 hLL
  rcases hcase with ⟨hcc, hs0z, hr0e⟩ | ⟨hcc, hs0e, hr0e⟩
  · have hr0f := hr0e.symm; clear hr0e; subst hr0f
    go_enter Tryd.func117, Tryd.ntmps117
    go_wp2_with fail
    go_loopw [20, 21] (fun iv jv wr => ∃ (i j : Nat), iv = .int .i64 (i : Int) ∧ jv = .int .i64 (j : Int) ∧ s0 ≤ i ∧ i ≤ j ∧ j ≤ mid ∧ Hid (RowB wr b (P ++ L ++ M ++ Q) ∧ Only b w wr ∧ (s0 < i → ∃ (x : i - 1 - a < L.length) (y : mid + m - 1 - (i - 1) - m < M.length), lt L[i - 1 - a] M[mid + m - 1 - (i - 1) - m] = true) ∧ (j < mid → ∃ (x : j - a < L.length) (y : mid + m - 1 - j - m < M.length), lt M[mid + m - 1 - j - m] L[j - a] = true))) (fun iv jv _ => (intOf jv).toNat - (intOf iv).toNat)
    case atStart => exact ⟨s0, mid, by first | rfl | (simp; omega), by first | rfl | (simp; omega), Nat.le_refl _, hb2, Nat.le_refl _, H0.out, only_refl _ _, fun f => absurd f (by omega), fun f => absurd f (by omega)⟩
    case round =>
      obtain ⟨i, j, rfl, rfl, hmi, hij, hje, HR⟩ := hrel
      by_cases hlt : i < j
      · obtain ⟨h, hh⟩ : ∃ h, h = (i + j) / 2 := ⟨_, rfl⟩
        have hh1 : i ≤ h := by omega
        have hh2 : h < j := by omega
        have hhz : ((i : Int) + (j : Int)) / 2 = (h : Int) := by omega
        have hnum := HNUM.out
        obtain ⟨q, hq⟩ : ∃ q, p = q + h := ⟨p - h, by omega⟩
        have hqz : (p : Int) - (h : Int) = (q : Int) := by omega
        have hhL : h - a < L.length := by omega
        have hqM : q - m < M.length := by omega
        have hmq : m ≤ q := by omega
        have hhn : h < n := by omega
        have hqn : q < n := by omega
        have hpa := HI.out.ha
        have hc1 := HR.out.1.cell h (by rw [HLEN.out]; exact hhn)
        have hc2 := HR.out.1.cell q (by rw [HLEN.out]; exact hqn)
        rw [List.append_assoc (P ++ L), getD_in P L (M ++ Q) h (h - a) hhL (by omega)] at hc1
        rw [getD_in (P ++ L) M Q q (q - m) hqM (by rw [List.length_append]; omega)] at hc2
        have hxL := List.getElem_mem hhL
        have hyM := List.getElem_mem hqM
        have hDx := HI.out.dL _ hxL
        have hDy := HI.out.dM _ hyM
        have hxy := HI.out.less _ hxL _ hyM
        have hsays := HCM.out.says _ _ hDy hDx hxy
        have hcall := fun k => HCM.out.call (wr.drewN k) (only_t HR.out.2.1 (only_drewN _ _ _)) _ _ hDy hDx
        have ie1 : mid + m - 1 - h - m = q - m := by omega
        have HDN : Hid (lt M[q - m] L[h - a] = true → ∃ (x : h - a < L.length) (y : mid + m - 1 - h - m < M.length), lt M[mid + m - 1 - h - m] L[h - a] = true) := fun e => ⟨hhL, by omega, by rw [getElem_congr_idx ie1]; exact e⟩
        have HUP : Hid (lt M[q - m] L[h - a] = false → ∃ (x : h + 1 - 1 - a < L.length) (y : mid + m - 1 - (h + 1 - 1) - m < M.length), lt L[h + 1 - 1 - a] M[mid + m - 1 - (h + 1 - 1) - m] = true) := fun e => ⟨by omega, by omega, by
          have ie2 : mid + m - 1 - (h + 1 - 1) - m = q - m := by omega
          have ie3 : h + 1 - 1 - a = h - a := by omega
          rw [getElem_congr_idx ie2, getElem_congr_idx ie3]
          rcases o.tot M[q - m] L[h - a] (by omega) with f | f
          · rw [e] at f; cases f
          · exact f⟩
        have HRR : Hid (RowB wr b (P ++ L ++ M ++ Q) ∧ Only b w wr) := ⟨HR.out.1, HR.out.2.1⟩
        have HRI := Lib.hid HR.out.2.2
        obtain ⟨x, hx⟩ : ∃ x, x = L[h - a] := ⟨_, rfl⟩
        obtain ⟨y, hy⟩ : ∃ y, y = M[q - m] := ⟨_, rfl⟩
        rw [← hx] at hc1
        rw [← hy] at hc2
        rw [← hx, ← hy] at hsays HUP HDN
        rw [← hx, ← hy] at hcall
        generalize cv y x = z at *
        have HCALL := Lib.hid hcall
        clear hcall hxL hyM hDx hDy hxy hx hy hpa HR hh hhL hqM hnum hq ie1
        cases hl : lt y x with
        | true =>
          have hz : z < 0 := hsays.2 hl
          have hzn : (!decide (z < 0)) = false := by rw [decide_eq_true hz]; rfl
          have HB := Lib.hid (HDN.out hl)
          clear hsays HUP HDN hl
          go_wp2_with fail
          go_quiet (first | (go_at_fn g; exact Calls.quiet_of (HCALL.out _)))
          go_wp2_with fail
          go_roundw
          case rel => exact ⟨i, h, by go_num, by go_num, hmi, hh1, by omega, rowB_drewN HRR.out.1, only_t HRR.out.2 (only_drewN _ _ _), HRI.out.1, fun _ => HB.out⟩
          case measure => simp [intOf] <;> omega
        | false =>
          have hz : ¬ z < 0 := fun e => by have := hsays.1 e; rw [hl] at this; cases this
          have hzn : (!decide (z < 0)) = true := by rw [decide_eq_false hz]; rfl
          have HB := Lib.hid (HUP.out hl)
          clear hsays HUP HDN hl
          go_wp2_with fail
          go_quiet (first | (go_at_fn g; exact Calls.quiet_of (HCALL.out _)))
          go_wp2_with fail
          go_roundw
          case rel => exact ⟨h + 1, j, by go_num, rfl, by omega, by omega, hje, rowB_drewN HRR.out.1, only_t HRR.out.2 (only_drewN _ _ _), fun _ => HB.out, HRI.out.2⟩
          case measure => simp [intOf] <;> omega
      · obtain rfl : i = j := by omega
        have hnum := HNUM.out
        have hx := HENDS.out i hmi hje HR.out.2.2.1 HR.out.2.2.2 HI.out.sL HI.out.sM
        obtain ⟨en, hen2⟩ : ∃ en, nn = en + i := ⟨nn - i, by omega⟩
        have henz : (nn : Int) - (i : Int) = (en : Int) := by omega
        have hMid : Mid lt L M (L.take (i - a)) (L.drop (i - a)) (M.take (mid - i)) (M.drop (mid - i)) := ⟨(List.take_append_drop _ _).symm, (List.take_append_drop _ _).symm, hx⟩
        have l1 : (L.take (i - a)).length + a = i := by rw [List.length_take]; omega
        have l2 : (L.drop (i - a)).length + i = m := by rw [List.length_drop]; omega
        have l3 : (M.take (mid - i)).length + i = mid := by rw [List.length_take]; omega
        have l4 : (M.drop (mid - i)).length + en = e := by rw [List.length_drop]; omega
        have l5 : en + i = mid + m := by omega
        generalize L.take (i - a) = L1 at *
        generalize L.drop (i - a) = L2 at *
        generalize M.take (mid - i) = M1 at *
        generalize M.drop (mid - i) = M2 at *
        have HMID := Lib.hid hMid
        have hpa := HI.out.ha
        have hLs : L.length = L1.length + L2.length := by rw [hMid.hL, List.length_append]
        have hMs : M.length = M1.length + M2.length := by rw [hMid.hM, List.length_append]
        have hnQ := HI.out.hn
        -- the three calls
        have HROT : Hid (0 < L2.length → 0 < M1.length → Calls Tryd.prog 120 #[.slice (some ⟨b, 0, none⟩) n c, .int .i64 (i : Int), .int .i64 (m : Int), .int .i64 (en : Int), .func (.func g) #[] lb] wr fun z w' => z = .returned (.tuple #[]) ∧ RowB w' b (P ++ L1 ++ M1 ++ (L2 ++ M2 ++ Q)) ∧ Only b wr w') := fun q1 q2 => by
          have := rotate_any wr b n c (P ++ L1) L2 M1 (M2 ++ Q) i m en (.func (.func g) #[] lb) (by rw [List.length_append]; omega) (by rw [List.length_append]; omega) (by rw [List.length_append]; omega) (by rw [List.length_append, List.length_append]; omega) q1 q2 hn4 hcap HI.out.max (by
            have h := HR.out.1
            rw [hMid.hL, hMid.hM] at h
            simpa only [List.append_assoc] using h)
          refine this.mono ?_
          rintro z w' ⟨r1, r2, r3⟩
          exact ⟨r1, by simpa only [List.append_assoc] using r2, r3⟩
        have HNR : Hid (¬ (0 < L2.length ∧ 0 < M1.length) → RowB wr b (P ++ L1 ++ M1 ++ (L2 ++ M2 ++ Q))) := fun q => by
          have h := HR.out.1
          rw [hMid.hL, hMid.hM] at h
          by_cases e1 : L2 = []
          · subst e1; simpa only [List.append_assoc, List.nil_append, List.append_nil] using h
          · have e2 : M1 = [] := by
              refine List.eq_nil_of_length_eq_zero ?_
              have : 0 < L2.length := List.length_pos_iff.2 e1
              omega
            subst e2; simpa only [List.append_assoc, List.nil_append, List.append_nil] using h
        have sL := HI.out.sL; have sM := HI.out.sM
        rw [hMid.hL] at sL; rw [hMid.hM] at sM
        have tL := srt_append.1 sL; have tM := srt_append.1 sM
        have dl := HI.out.dL; have dm := HI.out.dM; have ls := HI.out.less
        rw [hMid.hL] at dl ls; rw [hMid.hM] at dm ls
        have HS1 : Hid (0 < L1.length → 0 < M1.length → ∀ W, RowB W b (P ++ L1 ++ M1 ++ (L2 ++ M2 ++ Q)) → Only b w W → Calls Tryd.prog 117 #[.slice (some ⟨b, 0, none⟩) n c, .int .i64 (a : Int), .int .i64 (i : Int), .int .i64 (mid : Int), .func (.func g) #[] lb] W (SymPost b lt P L1 M1 (L2 ++ M2 ++ Q) W)) := fun q1 q2 W hW hO =>
          HIH.out P L1 M1 (L2 ++ M2 ++ Q) a i mid W ⟨hpa, by omega, by omega, by simp only [List.length_append]; omega, q1, q2, tL.1, tM.1, fun x hx y hy => ls x (List.mem_append_left _ hx) y (List.mem_append_left _ hy), fun x hx => dl x (List.mem_append_left _ hx), fun x hx => dm x (List.mem_append_left _ hx), hn4, hcap, HI.out.max⟩ hW (cmpAt_only HCM.out hO) (by omega)
        have HS2 : Hid (0 < L2.length → 0 < M2.length → ∀ W S1, Mrg lt L1 M1 S1 → RowB W b (P ++ S1 ++ (L2 ++ M2 ++ Q)) → Only b w W → Calls Tryd.prog 117 #[.slice (some ⟨b, 0, none⟩) n c, .int .i64 (mid : Int), .int .i64 (en : Int), .int .i64 (e : Int), .func (.func g) #[] lb] W (SymPost b lt (P ++ S1) L2 M2 Q W)) := fun q1 q2 W S1 hm1 hW hO =>
          have hs1 := mrg_len hm1
          HIH.out (P ++ S1) L2 M2 Q mid en e W ⟨by rw [List.length_append]; omega, by rw [List.length_append]; omega, by rw [List.length_append]; omega, by rw [List.length_append]; omega, q1, q2, tL.2.1, tM.2.1, fun x hx y hy => ls x (List.mem_append_right _ hx) y (List.mem_append_right _ hy), fun x hx => dl x (List.mem_append_right _ hx), fun x hx => dm x (List.mem_append_right _ hx), hn4, hcap, HI.out.max⟩ (by simpa only [List.append_assoc] using hW) (cmpAt_only HCM.out hO) (by omega)
        have HN1 : Hid (¬ (0 < L1.length ∧ 0 < M1.length) → Mrg lt L1 M1 (L1 ++ M1)) := fun q => by
          by_cases e1 : L1 = []
          · subst e1; exact mrg_nil_left tM.1
          · have e2 : M1 = [] := by
              refine List.eq_nil_of_length_eq_zero ?_
              have : 0 < L1.length := List.length_pos_iff.2 e1
              omega
            subst e2; rw [List.append_nil]; exact mrg_nil_right tL.1
        have HN2 : Hid (¬ (0 < L2.length ∧ 0 < M2.length) → Mrg lt L2 M2 (L2 ++ M2)) := fun q => by
          by_cases e1 : L2 = []
          · subst e1; exact mrg_nil_left tM.2.1
          · have e2 : M2 = [] := by
              refine List.eq_nil_of_length_eq_zero ?_
              have : 0 < L2.length := List.length_pos_iff.2 e1
              omega
            subst e2; rw [List.append_nil]; exact mrg_nil_right tL.2.1
        have HO := Lib.hid HR.out.2.1
        have HLN : Hid (L1.length + a = i ∧ L2.length + i = m ∧ M1.length + i = mid ∧ M2.length + en = e ∧ en + i = mid + m) := ⟨l1, l2, l3, l4, l5⟩
        have hien : en ≤ e := by omega
        have hai : a ≤ i := by omega
        have him : i ≤ m := by omega
        have himid : i ≤ mid := by omega
        clear hnum hx hen2 hMid l1 l2 l3 l4 l5 hpa hLs hMs hnQ sL sM tL tM dl dm ls HR hlt
        by_cases hp : i < m
        · by_cases hq : i < mid
          · by_cases hu : a < i
            · by_cases hv : en < e
              · have hen1 : m < en := by have := HLN.out; omega
                have hen3 : mid < en := by have := HLN.out; omega
                have HROT2 := Lib.hid (HROT.out (by have := HLN.out; omega) (by have := HLN.out; omega))
                clear HROT
                go_wp2_with fail
                refine HROT2.out.mono ?_
                rintro z w2 ⟨rfl, g1, g2⟩
                have H1 := Lib.hid g1; have O1 := Lib.hid (only_t HO.out g2); clear g1 g2
                have HS1b := Lib.hid (HS1.out (by have := HLN.out; omega) (by have := HLN.out; omega) _ H1.out O1.out)
                go_wp2_with fail
                refine HS1b.out.mono ?_
                rintro z w3 ⟨rfl, ⟨S1, gm, g1⟩, g2⟩
                have M1' := Lib.hid gm; have H2 := Lib.hid g1; have O2 := Lib.hid (only_t O1.out g2); clear g1 g2 gm
                have HS2b := Lib.hid (HS2.out (by have := HLN.out; omega) (by have := HLN.out; omega) _ _ M1'.out H2.out O2.out)
                go_wp2_with fail
                refine HS2b.out.mono ?_
                rintro z w4 ⟨rfl, ⟨S2, gm, g1⟩, g2⟩
                have M2' := Lib.hid gm; have H3 := Lib.hid g1; have O3 := Lib.hid (only_t O2.out g2); clear g1 g2 gm
                go_wp2_with fail
                go_end0
                exact ⟨rfl, ⟨_, mid_join HMID.out M1'.out M2'.out, by have := H3.out; simpa only [List.append_assoc] using this⟩, O3.out⟩
              · have hen1 : m < en := by have := HLN.out; omega
                have hen3 : mid < en := by have := HLN.out; omega
                have HROT2 := Lib.hid (HROT.out (by have := HLN.out; omega) (by have := HLN.out; omega))
                clear HROT
                go_wp2_with fail
                refine HROT2.out.mono ?_
                rintro z w2 ⟨rfl, g1, g2⟩
                have H1 := Lib.hid g1; have O1 := Lib.hid (only_t HO.out g2); clear g1 g2
                have HS1b := Lib.hid (HS1.out (by have := HLN.out; omega) (by have := HLN.out; omega) _ H1.out O1.out)
                go_wp2_with fail
                refine HS1b.out.mono ?_
                rintro z w3 ⟨rfl, ⟨S1, gm, g1⟩, g2⟩
                have M1' := Lib.hid gm; have H2 := Lib.hid g1; have O2 := Lib.hid (only_t O1.out g2); clear g1 g2 gm
                have M2' := Lib.hid (HN2.out (by have := HLN.out; omega))
                go_wp2_with fail
                go_end0
                exact ⟨rfl, ⟨_, mid_join HMID.out M1'.out M2'.out, by have := H2.out; simpa only [List.append_assoc] using this⟩, O2.out⟩
            · by_cases hv : en < e
              · have hen1 : m < en := by have := HLN.out; omega
                have hen3 : mid < en := by have := HLN.out; omega
                have HROT2 := Lib.hid (HROT.out (by have := HLN.out; omega) (by have := HLN.out; omega))
                clear HROT
                go_wp2_with fail
                refine HROT2.out.mono ?_
                rintro z w2 ⟨rfl, g1, g2⟩
                have H1 := Lib.hid g1; have O1 := Lib.hid (only_t HO.out g2); clear g1 g2
                have M1' := Lib.hid (HN1.out (by have := HLN.out; omega))
                have H2 : Hid (RowB w2 b (P ++ (L1 ++ M1) ++ (L2 ++ M2 ++ Q))) := by have := H1.out; rw [List.append_assoc P] at this; exact this
                have O2 := Lib.hid O1.out
                have HS2b := Lib.hid (HS2.out (by have := HLN.out; omega) (by have := HLN.out; omega) _ _ M1'.out H2.out O2.out)
                go_wp2_with fail
                refine HS2b.out.mono ?_
                rintro z w4 ⟨rfl, ⟨S2, gm, g1⟩, g2⟩
                have M2' := Lib.hid gm; have H3 := Lib.hid g1; have O3 := Lib.hid (only_t O2.out g2); clear g1 g2 gm
                go_wp2_with fail
                go_end0
                exact ⟨rfl, ⟨_, mid_join HMID.out M1'.out M2'.out, by have := H3.out; simpa only [List.append_assoc] using this⟩, O3.out⟩
              · have hen1 : m < en := by have := HLN.out; omega
                have hen3 : mid < en := by have := HLN.out; omega
                have HROT2 := Lib.hid (HROT.out (by have := HLN.out; omega) (by have := HLN.out; omega))
                clear HROT
                go_wp2_with fail
                refine HROT2.out.mono ?_
                rintro z w2 ⟨rfl, g1, g2⟩
                have H1 := Lib.hid g1; have O1 := Lib.hid (only_t HO.out g2); clear g1 g2
                have M1' := Lib.hid (HN1.out (by have := HLN.out; omega))
                have H2 : Hid (RowB w2 b (P ++ (L1 ++ M1) ++ (L2 ++ M2 ++ Q))) := by have := H1.out; rw [List.append_assoc P] at this; exact this
                have O2 := Lib.hid O1.out
                have M2' := Lib.hid (HN2.out (by have := HLN.out; omega))
                go_wp2_with fail
                go_end0
                exact ⟨rfl, ⟨_, mid_join HMID.out M1'.out M2'.out, by have := H2.out; simpa only [List.append_assoc] using this⟩, O2.out⟩
          · by_cases hu : a < i
            · by_cases hv : en < e
              · have hen1 : ¬ m < en := by have := HLN.out; omega
                have hen3 : mid < en := by have := HLN.out; omega
                have H1 := Lib.hid (HNR.out (by have := HLN.out; omega)); have O1 := Lib.hid HO.out
                have M1' := Lib.hid (HN1.out (by have := HLN.out; omega))
                have H2 : Hid (RowB wr b (P ++ (L1 ++ M1) ++ (L2 ++ M2 ++ Q))) := by have := H1.out; rw [List.append_assoc P] at this; exact this
                have O2 := Lib.hid O1.out
                have HS2b := Lib.hid (HS2.out (by have := HLN.out; omega) (by have := HLN.out; omega) _ _ M1'.out H2.out O2.out)
                go_wp2_with fail
                refine HS2b.out.mono ?_
                rintro z w4 ⟨rfl, ⟨S2, gm, g1⟩, g2⟩
                have M2' := Lib.hid gm; have H3 := Lib.hid g1; have O3 := Lib.hid (only_t O2.out g2); clear g1 g2 gm
                go_wp2_with fail
                go_end0
                exact ⟨rfl, ⟨_, mid_join HMID.out M1'.out M2'.out, by have := H3.out; simpa only [List.append_assoc] using this⟩, O3.out⟩
              · have hen1 : ¬ m < en := by have := HLN.out; omega
                have hen3 : mid < en := by have := HLN.out; omega
                have H1 := Lib.hid (HNR.out (by have := HLN.out; omega)); have O1 := Lib.hid HO.out
                have M1' := Lib.hid (HN1.out (by have := HLN.out; omega))
                have H2 : Hid (RowB wr b (P ++ (L1 ++ M1) ++ (L2 ++ M2 ++ Q))) := by have := H1.out; rw [List.append_assoc P] at this; exact this
                have O2 := Lib.hid O1.out
                have M2' := Lib.hid (HN2.out (by have := HLN.out; omega))
                go_wp2_with fail
                go_end0
                exact ⟨rfl, ⟨_, mid_join HMID.out M1'.out M2'.out, by have := H2.out; simpa only [List.append_assoc] using this⟩, O2.out⟩
            · by_cases hv : en < e
              · have hen1 : ¬ m < en := by have := HLN.out; omega
                have hen3 : mid < en := by have := HLN.out; omega
                have H1 := Lib.hid (HNR.out (by have := HLN.out; omega)); have O1 := Lib.hid HO.out
                have M1' := Lib.hid (HN1.out (by have := HLN.out; omega))
                have H2 : Hid (RowB wr b (P ++ (L1 ++ M1) ++ (L2 ++ M2 ++ Q))) := by have := H1.out; rw [List.append_assoc P] at this; exact this
                have O2 := Lib.hid O1.out
                have HS2b := Lib.hid (HS2.out (by have := HLN.out; omega) (by have := HLN.out; omega) _ _ M1'.out H2.out O2.out)
                go_wp2_with fail
                refine HS2b.out.mono ?_
                rintro z w4 ⟨rfl, ⟨S2, gm, g1⟩, g2⟩
                have M2' := Lib.hid gm; have H3 := Lib.hid g1; have O3 := Lib.hid (only_t O2.out g2); clear g1 g2 gm
                go_wp2_with fail
                go_end0
                exact ⟨rfl, ⟨_, mid_join HMID.out M1'.out M2'.out, by have := H3.out; simpa only [List.append_assoc] using this⟩, O3.out⟩
              · have hen1 : ¬ m < en := by have := HLN.out; omega
                have hen3 : mid < en := by have := HLN.out; omega
                have H1 := Lib.hid (HNR.out (by have := HLN.out; omega)); have O1 := Lib.hid HO.out
                have M1' := Lib.hid (HN1.out (by have := HLN.out; omega))
                have H2 : Hid (RowB wr b (P ++ (L1 ++ M1) ++ (L2 ++ M2 ++ Q))) := by have := H1.out; rw [List.append_assoc P] at this; exact this
                have O2 := Lib.hid O1.out
                have M2' := Lib.hid (HN2.out (by have := HLN.out; omega))
                go_wp2_with fail
                go_end0
                exact ⟨rfl, ⟨_, mid_join HMID.out M1'.out M2'.out, by have := H2.out; simpa only [List.append_assoc] using this⟩, O2.out⟩
        · by_cases hq : i < mid
          · by_cases hu : a < i
            · by_cases hv : en < e
              · have hen1 : m < en := by have := HLN.out; omega
                have hen3 : ¬ mid < en := by have := HLN.out; omega
                have H1 := Lib.hid (HNR.out (by have := HLN.out; omega)); have O1 := Lib.hid HO.out
                have HS1b := Lib.hid (HS1.out (by have := HLN.out; omega) (by have := HLN.out; omega) _ H1.out O1.out)
                go_wp2_with fail
                refine HS1b.out.mono ?_
                rintro z w3 ⟨rfl, ⟨S1, gm, g1⟩, g2⟩
                have M1' := Lib.hid gm; have H2 := Lib.hid g1; have O2 := Lib.hid (only_t O1.out g2); clear g1 g2 gm
                have M2' := Lib.hid (HN2.out (by have := HLN.out; omega))
                go_wp2_with fail
                go_end0
                exact ⟨rfl, ⟨_, mid_join HMID.out M1'.out M2'.out, by have := H2.out; simpa only [List.append_assoc] using this⟩, O2.out⟩
              · have hen1 : m < en := by have := HLN.out; omega
                have hen3 : ¬ mid < en := by have := HLN.out; omega
                have H1 := Lib.hid (HNR.out (by have := HLN.out; omega)); have O1 := Lib.hid HO.out
                have HS1b := Lib.hid (HS1.out (by have := HLN.out; omega) (by have := HLN.out; omega) _ H1.out O1.out)
                go_wp2_with fail
                refine HS1b.out.mono ?_
                rintro z w3 ⟨rfl, ⟨S1, gm, g1⟩, g2⟩
                have M1' := Lib.hid gm; have H2 := Lib.hid g1; have O2 := Lib.hid (only_t O1.out g2); clear g1 g2 gm
                have M2' := Lib.hid (HN2.out (by have := HLN.out; omega))
                go_wp2_with fail
                go_end0
                exact ⟨rfl, ⟨_, mid_join HMID.out M1'.out M2'.out, by have := H2.out; simpa only [List.append_assoc] using this⟩, O2.out⟩
            · by_cases hv : en < e
              · have hen1 : m < en := by have := HLN.out; omega
                have hen3 : ¬ mid < en := by have := HLN.out; omega
                have H1 := Lib.hid (HNR.out (by have := HLN.out; omega)); have O1 := Lib.hid HO.out
                have M1' := Lib.hid (HN1.out (by have := HLN.out; omega))
                have H2 : Hid (RowB wr b (P ++ (L1 ++ M1) ++ (L2 ++ M2 ++ Q))) := by have := H1.out; rw [List.append_assoc P] at this; exact this
                have O2 := Lib.hid O1.out
                have M2' := Lib.hid (HN2.out (by have := HLN.out; omega))
                go_wp2_with fail
                go_end0
                exact ⟨rfl, ⟨_, mid_join HMID.out M1'.out M2'.out, by have := H2.out; simpa only [List.append_assoc] using this⟩, O2.out⟩
              · have hen1 : m < en := by have := HLN.out; omega
                have hen3 : ¬ mid < en := by have := HLN.out; omega
                have H1 := Lib.hid (HNR.out (by have := HLN.out; omega)); have O1 := Lib.hid HO.out
                have M1' := Lib.hid (HN1.out (by have := HLN.out; omega))
                have H2 : Hid (RowB wr b (P ++ (L1 ++ M1) ++ (L2 ++ M2 ++ Q))) := by have := H1.out; rw [List.append_assoc P] at this; exact this
                have O2 := Lib.hid O1.out
                have M2' := Lib.hid (HN2.out (by have := HLN.out; omega))
                go_wp2_with fail
                go_end0
                exact ⟨rfl, ⟨_, mid_join HMID.out M1'.out M2'.out, by have := H2.out; simpa only [List.append_assoc] using this⟩, O2.out⟩
          · by_cases hu : a < i
            · by_cases hv : en < e
              · have hen1 : ¬ m < en := by have := HLN.out; omega
                have hen3 : ¬ mid < en := by have := HLN.out; omega
                have H1 := Lib.hid (HNR.out (by have := HLN.out; omega)); have O1 := Lib.hid HO.out
                have M1' := Lib.hid (HN1.out (by have := HLN.out; omega))
                have H2 : Hid (RowB wr b (P ++ (L1 ++ M1) ++ (L2 ++ M2 ++ Q))) := by have := H1.out; rw [List.append_assoc P] at this; exact this
                have O2 := Lib.hid O1.out
                have M2' := Lib.hid (HN2.out (by have := HLN.out; omega))
                go_wp2_with fail
                go_end0
                exact ⟨rfl, ⟨_, mid_join HMID.out M1'.out M2'.out, by have := H2.out; simpa only [List.append_assoc] using this⟩, O2.out⟩
              · have hen1 : ¬ m < en := by have := HLN.out; omega
                have hen3 : ¬ mid < en := by have := HLN.out; omega
                have H1 := Lib.hid (HNR.out (by have := HLN.out; omega)); have O1 := Lib.hid HO.out
                have M1' := Lib.hid (HN1.out (by have := HLN.out; omega))
                have H2 : Hid (RowB wr b (P ++ (L1 ++ M1) ++ (L2 ++ M2 ++ Q))) := by have := H1.out; rw [List.append_assoc P] at this; exact this
                have O2 := Lib.hid O1.out
                have M2' := Lib.hid (HN2.out (by have := HLN.out; omega))
                go_wp2_with fail
                go_end0
                exact ⟨rfl, ⟨_, mid_join HMID.out M1'.out M2'.out, by have := H2.out; simpa only [List.append_assoc] using this⟩, O2.out⟩
            · by_cases hv : en < e
              · have hen1 : ¬ m < en := by have := HLN.out; omega
                have hen3 : ¬ mid < en := by have := HLN.out; omega
                have H1 := Lib.hid (HNR.out (by have := HLN.out; omega)); have O1 := Lib.hid HO.out
                have M1' := Lib.hid (HN1.out (by have := HLN.out; omega))
                have H2 : Hid (RowB wr b (P ++ (L1 ++ M1) ++ (L2 ++ M2 ++ Q))) := by have := H1.out; rw [List.append_assoc P] at this; exact this
                have O2 := Lib.hid O1.out
                have M2' := Lib.hid (HN2.out (by have := HLN.out; omega))
                go_wp2_with fail
                go_end0
                exact ⟨rfl, ⟨_, mid_join HMID.out M1'.out M2'.out, by have := H2.out; simpa only [List.append_assoc] using this⟩, O2.out⟩
              · have hen1 : ¬ m < en := by have := HLN.out; omega
                have hen3 : ¬ mid < en := by have := HLN.out; omega
                have H1 := Lib.hid (HNR.out (by have := HLN.out; omega)); have O1 := Lib.hid HO.out
                have M1' := Lib.hid (HN1.out (by have := HLN.out; omega))
                have H2 : Hid (RowB wr b (P ++ (L1 ++ M1) ++ (L2 ++ M2 ++ Q))) := by have := H1.out; rw [List.append_assoc P] at this; exact this
                have O2 := Lib.hid O1.out
                have M2' := Lib.hid (HN2.out (by have := HLN.out; omega))
                go_wp2_with fail
                go_end0
                exact ⟨rfl, ⟨_, mid_join HMID.out M1'.out M2'.out, by have := H2.out; simpa only [List.append_assoc] using this⟩, O2.out⟩
  · have hs0f := hs0e.symm; have hr0f := hr0e.symm; clear hs0e hr0e; subst hs0f; subst hr0f
    go_enter Tryd.func117, Tryd.ntmps117
    go_wp2_with fail
    go_loopw [20, 21] (fun iv jv wr => ∃ (i j : Nat), iv = .int .i64 (i : Int) ∧ jv = .int .i64 (j : Int) ∧ a ≤ i ∧ i ≤ j ∧ j ≤ m ∧ Hid (RowB wr b (P ++ L ++ M ++ Q) ∧ Only b w wr ∧ (a < i → ∃ (x : i - 1 - a < L.length) (y : mid + m - 1 - (i - 1) - m < M.length), lt L[i - 1 - a] M[mid + m - 1 - (i - 1) - m] = true) ∧ (j < m → ∃ (x : j - a < L.length) (y : mid + m - 1 - j - m < M.length), lt M[mid + m - 1 - j - m] L[j - a] = true))) (fun iv jv _ => (intOf jv).toNat - (intOf iv).toNat)
    case atStart => exact ⟨a, m, by first | rfl | (simp; omega), by first | rfl | (simp; omega), Nat.le_refl _, hb2, Nat.le_refl _, H0.out, only_refl _ _, fun f => absurd f (by omega), fun f => absurd f (by omega)⟩
    case round =>
      obtain ⟨i, j, rfl, rfl, hmi, hij, hje, HR⟩ := hrel
      by_cases hlt : i < j
      · obtain ⟨h, hh⟩ : ∃ h, h = (i + j) / 2 := ⟨_, rfl⟩
        have hh1 : i ≤ h := by omega
        have hh2 : h < j := by omega
        have hhz : ((i : Int) + (j : Int)) / 2 = (h : Int) := by omega
        have hnum := HNUM.out
        obtain ⟨q, hq⟩ : ∃ q, p = q + h := ⟨p - h, by omega⟩
        have hqz : (p : Int) - (h : Int) = (q : Int) := by omega
        have hhL : h - a < L.length := by omega
        have hqM : q - m < M.length := by omega
        have hmq : m ≤ q := by omega
        have hhn : h < n := by omega
        have hqn : q < n := by omega
        have hpa := HI.out.ha
        have hc1 := HR.out.1.cell h (by rw [HLEN.out]; exact hhn)
        have hc2 := HR.out.1.cell q (by rw [HLEN.out]; exact hqn)
        rw [List.append_assoc (P ++ L), getD_in P L (M ++ Q) h (h - a) hhL (by omega)] at hc1
        rw [getD_in (P ++ L) M Q q (q - m) hqM (by rw [List.length_append]; omega)] at hc2
        have hxL := List.getElem_mem hhL
        have hyM := List.getElem_mem hqM
        have hDx := HI.out.dL _ hxL
        have hDy := HI.out.dM _ hyM
        have hxy := HI.out.less _ hxL _ hyM
        have hsays := HCM.out.says _ _ hDy hDx hxy
        have hcall := fun k => HCM.out.call (wr.drewN k) (only_t HR.out.2.1 (only_drewN _ _ _)) _ _ hDy hDx
        have ie1 : mid + m - 1 - h - m = q - m := by omega
        have HDN : Hid (lt M[q - m] L[h - a] = true → ∃ (x : h - a < L.length) (y : mid + m - 1 - h - m < M.length), lt M[mid + m - 1 - h - m] L[h - a] = true) := fun e => ⟨hhL, by omega, by rw [getElem_congr_idx ie1]; exact e⟩
        have HUP : Hid (lt M[q - m] L[h - a] = false → ∃ (x : h + 1 - 1 - a < L.length) (y : mid + m - 1 - (h + 1 - 1) - m < M.length), lt L[h + 1 - 1 - a] M[mid + m - 1 - (h + 1 - 1) - m] = true) := fun e => ⟨by omega, by omega, by
          have ie2 : mid + m - 1 - (h + 1 - 1) - m = q - m := by omega
          have ie3 : h + 1 - 1 - a = h - a := by omega
          rw [getElem_congr_idx ie2, getElem_congr_idx ie3]
          rcases o.tot M[q - m] L[h - a] (by omega) with f | f
          · rw [e] at f; cases f
          · exact f⟩
        have HRR : Hid (RowB wr b (P ++ L ++ M ++ Q) ∧ Only b w wr) := ⟨HR.out.1, HR.out.2.1⟩
        have HRI := Lib.hid HR.out.2.2
        obtain ⟨x, hx⟩ : ∃ x, x = L[h - a] := ⟨_, rfl⟩
        obtain ⟨y, hy⟩ : ∃ y, y = M[q - m] := ⟨_, rfl⟩
        rw [← hx] at hc1
        rw [← hy] at hc2
        rw [← hx, ← hy] at hsays HUP HDN
        rw [← hx, ← hy] at hcall
        generalize cv y x = z at *
        have HCALL := Lib.hid hcall
        clear hcall hxL hyM hDx hDy hxy hx hy hpa HR hh hhL hqM hnum hq ie1
        cases hl : lt y x with
        | true =>
          have hz : z < 0 := hsays.2 hl
          have hzn : (!decide (z < 0)) = false := by rw [decide_eq_true hz]; rfl
          have HB := Lib.hid (HDN.out hl)
          clear hsays HUP HDN hl
          go_wp2_with fail
          go_quiet (first | (go_at_fn g; exact Calls.quiet_of (HCALL.out _)))
          go_wp2_with fail
          go_roundw
          case rel => exact ⟨i, h, by go_num, by go_num, hmi, hh1, by omega, rowB_drewN HRR.out.1, only_t HRR.out.2 (only_drewN _ _ _), HRI.out.1, fun _ => HB.out⟩
          case measure => simp [intOf] <;> omega
        | false =>
          have hz : ¬ z < 0 := fun e => by have := hsays.1 e; rw [hl] at this; cases this
          have hzn : (!decide (z < 0)) = true := by rw [decide_eq_false hz]; rfl
          have HB := Lib.hid (HUP.out hl)
          clear hsays HUP HDN hl
          go_wp2_with fail
          go_quiet (first | (go_at_fn g; exact Calls.quiet_of (HCALL.out _)))
          go_wp2_with fail
          go_roundw
          case rel => exact ⟨h + 1, j, by go_num, rfl, by omega, by omega, hje, rowB_drewN HRR.out.1, only_t HRR.out.2 (only_drewN _ _ _), fun _ => HB.out, HRI.out.2⟩
          case measure => simp [intOf] <;> omega
      · obtain rfl : i = j := by omega
        have hnum := HNUM.out
        have hx := HENDS.out i hmi hje HR.out.2.2.1 HR.out.2.2.2 HI.out.sL HI.out.sM
        obtain ⟨en, hen2⟩ : ∃ en, nn = en + i := ⟨nn - i, by omega⟩
        have henz : (nn : Int) - (i : Int) = (en : Int) := by omega
        have hMid : Mid lt L M (L.take (i - a)) (L.drop (i - a)) (M.take (mid - i)) (M.drop (mid - i)) := ⟨(List.take_append_drop _ _).symm, (List.take_append_drop _ _).symm, hx⟩
        have l1 : (L.take (i - a)).length + a = i := by rw [List.length_take]; omega
        have l2 : (L.drop (i - a)).length + i = m := by rw [List.length_drop]; omega
        have l3 : (M.take (mid - i)).length + i = mid := by rw [List.length_take]; omega
        have l4 : (M.drop (mid - i)).length + en = e := by rw [List.length_drop]; omega
        have l5 : en + i = mid + m := by omega
        generalize L.take (i - a) = L1 at *
        generalize L.drop (i - a) = L2 at *
        generalize M.take (mid - i) = M1 at *
        generalize M.drop (mid - i) = M2 at *
        have HMID := Lib.hid hMid
        have hpa := HI.out.ha
        have hLs : L.length = L1.length + L2.length := by rw [hMid.hL, List.length_append]
        have hMs : M.length = M1.length + M2.length := by rw [hMid.hM, List.length_append]
        have hnQ := HI.out.hn
        -- the three calls
        have HROT : Hid (0 < L2.length → 0 < M1.length → Calls Tryd.prog 120 #[.slice (some ⟨b, 0, none⟩) n c, .int .i64 (i : Int), .int .i64 (m : Int), .int .i64 (en : Int), .func (.func g) #[] lb] wr fun z w' => z = .returned (.tuple #[]) ∧ RowB w' b (P ++ L1 ++ M1 ++ (L2 ++ M2 ++ Q)) ∧ Only b wr w') := fun q1 q2 => by
          have := rotate_any wr b n c (P ++ L1) L2 M1 (M2 ++ Q) i m en (.func (.func g) #[] lb) (by rw [List.length_append]; omega) (by rw [List.length_append]; omega) (by rw [List.length_append]; omega) (by rw [List.length_append, List.length_append]; omega) q1 q2 hn4 hcap HI.out.max (by
            have h := HR.out.1
            rw [hMid.hL, hMid.hM] at h
            simpa only [List.append_assoc] using h)
          refine this.mono ?_
          rintro z w' ⟨r1, r2, r3⟩
          exact ⟨r1, by simpa only [List.append_assoc] using r2, r3⟩
        have HNR : Hid (¬ (0 < L2.length ∧ 0 < M1.length) → RowB wr b (P ++ L1 ++ M1 ++ (L2 ++ M2 ++ Q))) := fun q => by
          have h := HR.out.1
          rw [hMid.hL, hMid.hM] at h
          by_cases e1 : L2 = []
          · subst e1; simpa only [List.append_assoc, List.nil_append, List.append_nil] using h
          · have e2 : M1 = [] := by
              refine List.eq_nil_of_length_eq_zero ?_
              have : 0 < L2.length := List.length_pos_iff.2 e1
              omega
            subst e2; simpa only [List.append_assoc, List.nil_append, List.append_nil] using h
        have sL := HI.out.sL; have sM := HI.out.sM
        rw [hMid.hL] at sL; rw [hMid.hM] at sM
        have tL := srt_append.1 sL; have tM := srt_append.1 sM
        have dl := HI.out.dL; have dm := HI.out.dM; have ls := HI.out.less
        rw [hMid.hL] at dl ls; rw [hMid.hM] at dm ls
        have HS1 : Hid (0 < L1.length → 0 < M1.length → ∀ W, RowB W b (P ++ L1 ++ M1 ++ (L2 ++ M2 ++ Q)) → Only b w W → Calls Tryd.prog 117 #[.slice (some ⟨b, 0, none⟩) n c, .int .i64 (a : Int), .int .i64 (i : Int), .int .i64 (mid : Int), .func (.func g) #[] lb] W (SymPost b lt P L1 M1 (L2 ++ M2 ++ Q) W)) := fun q1 q2 W hW hO =>
          HIH.out P L1 M1 (L2 ++ M2 ++ Q) a i mid W ⟨hpa, by omega, by omega, by simp only [List.length_append]; omega, q1, q2, tL.1, tM.1, fun x hx y hy => ls x (List.mem_append_left _ hx) y (List.mem_append_left _ hy), fun x hx => dl x (List.mem_append_left _ hx), fun x hx => dm x (List.mem_append_left _ hx), hn4, hcap, HI.out.max⟩ hW (cmpAt_only HCM.out hO) (by omega)
        have HS2 : Hid (0 < L2.length → 0 < M2.length → ∀ W S1, Mrg lt L1 M1 S1 → RowB W b (P ++ S1 ++ (L2 ++ M2 ++ Q)) → Only b w W → Calls Tryd.prog 117 #[.slice (some ⟨b, 0, none⟩) n c, .int .i64 (mid : Int), .int .i64 (en : Int), .int .i64 (e : Int), .func (.func g) #[] lb] W (SymPost b lt (P ++ S1) L2 M2 Q W)) := fun q1 q2 W S1 hm1 hW hO =>
          have hs1 := mrg_len hm1
          HIH.out (P ++ S1) L2 M2 Q mid en e W ⟨by rw [List.length_append]; omega, by rw [List.length_append]; omega, by rw [List.length_append]; omega, by rw [List.length_append]; omega, q1, q2, tL.2.1, tM.2.1, fun x hx y hy => ls x (List.mem_append_right _ hx) y (List.mem_append_right _ hy), fun x hx => dl x (List.mem_append_right _ hx), fun x hx => dm x (List.mem_append_right _ hx), hn4, hcap, HI.out.max⟩ (by simpa only [List.append_assoc] using hW) (cmpAt_only HCM.out hO) (by omega)
        have HN1 : Hid (¬ (0 < L1.length ∧ 0 < M1.length) → Mrg lt L1 M1 (L1 ++ M1)) := fun q => by
          by_cases e1 : L1 = []
          · subst e1; exact mrg_nil_left tM.1
          · have e2 : M1 = [] := by
              refine List.eq_nil_of_length_eq_zero ?_
              have : 0 < L1.length := List.length_pos_iff.2 e1
              omega
            subst e2; rw [List.append_nil]; exact mrg_nil_right tL.1
        have HN2 : Hid (¬ (0 < L2.length ∧ 0 < M2.length) → Mrg lt L2 M2 (L2 ++ M2)) := fun q => by
          by_cases e1 : L2 = []
          · subst e1; exact mrg_nil_left tM.2.1
          · have e2 : M2 = [] := by
              refine List.eq_nil_of_length_eq_zero ?_
              have : 0 < L2.length := List.length_pos_iff.2 e1
              omega
            subst e2; rw [List.append_nil]; exact mrg_nil_right tL.2.1
        have HO := Lib.hid HR.out.2.1
        have HLN : Hid (L1.length + a = i ∧ L2.length + i = m ∧ M1.length + i = mid ∧ M2.length + en = e ∧ en + i = mid + m) := ⟨l1, l2, l3, l4, l5⟩
        have hien : en ≤ e := by omega
        have hai : a ≤ i := by omega
        have him : i ≤ m := by omega
        have himid : i ≤ mid := by omega
        clear hnum hx hen2 hMid l1 l2 l3 l4 l5 hpa hLs hMs hnQ sL sM tL tM dl dm ls HR hlt
        by_cases hp : i < m
        · by_cases hq : i < mid
          · by_cases hu : a < i
            · by_cases hv : en < e
              · have hen1 : m < en := by have := HLN.out; omega
                have hen3 : mid < en := by have := HLN.out; omega
                have HROT2 := Lib.hid (HROT.out (by have := HLN.out; omega) (by have := HLN.out; omega))
                clear HROT
                go_wp2_with fail
                refine HROT2.out.mono ?_
                rintro z w2 ⟨rfl, g1, g2⟩
                have H1 := Lib.hid g1; have O1 := Lib.hid (only_t HO.out g2); clear g1 g2
                have HS1b := Lib.hid (HS1.out (by have := HLN.out; omega) (by have := HLN.out; omega) _ H1.out O1.out)
                go_wp2_with fail
                refine HS1b.out.mono ?_
                rintro z w3 ⟨rfl, ⟨S1, gm, g1⟩, g2⟩
                have M1' := Lib.hid gm; have H2 := Lib.hid g1; have O2 := Lib.hid (only_t O1.out g2); clear g1 g2 gm
                have HS2b := Lib.hid (HS2.out (by have := HLN.out; omega) (by have := HLN.out; omega) _ _ M1'.out H2.out O2.out)
                go_wp2_with fail
                refine HS2b.out.mono ?_
                rintro z w4 ⟨rfl, ⟨S2, gm, g1⟩, g2⟩
                have M2' := Lib.hid gm; have H3 := Lib.hid g1; have O3 := Lib.hid (only_t O2.out g2); clear g1 g2 gm
                go_wp2_with fail
                go_end0
                exact ⟨rfl, ⟨_, mid_join HMID.out M1'.out M2'.out, by have := H3.out; simpa only [List.append_assoc] using this⟩, O3.out⟩
              · have hen1 : m < en := by have := HLN.out; omega
                have hen3 : mid < en := by have := HLN.out; omega
                have HROT2 := Lib.hid (HROT.out (by have := HLN.out; omega) (by have := HLN.out; omega))
                clear HROT
                go_wp2_with fail
                refine HROT2.out.mono ?_
                rintro z w2 ⟨rfl, g1, g2⟩
                have H1 := Lib.hid g1; have O1 := Lib.hid (only_t HO.out g2); clear g1 g2
                have HS1b := Lib.hid (HS1.out (by have := HLN.out; omega) (by have := HLN.out; omega) _ H1.out O1.out)
                go_wp2_with fail
                refine HS1b.out.mono ?_
                rintro z w3 ⟨rfl, ⟨S1, gm, g1⟩, g2⟩
                have M1' := Lib.hid gm; have H2 := Lib.hid g1; have O2 := Lib.hid (only_t O1.out g2); clear g1 g2 gm
                have M2' := Lib.hid (HN2.out (by have := HLN.out; omega))
                go_wp2_with fail
                go_end0
                exact ⟨rfl, ⟨_, mid_join HMID.out M1'.out M2'.out, by have := H2.out; simpa only [List.append_assoc] using this⟩, O2.out⟩
            · by_cases hv : en < e
              · have hen1 : m < en := by have := HLN.out; omega
                have hen3 : mid < en := by have := HLN.out; omega
                have HROT2 := Lib.hid (HROT.out (by have := HLN.out; omega) (by have := HLN.out; omega))
                clear HROT
                go_wp2_with fail
                refine HROT2.out.mono ?_
                rintro z w2 ⟨rfl, g1, g2⟩
                have H1 := Lib.hid g1; have O1 := Lib.hid (only_t HO.out g2); clear g1 g2
                have M1' := Lib.hid (HN1.out (by have := HLN.out; omega))
                have H2 : Hid (RowB w2 b (P ++ (L1 ++ M1) ++ (L2 ++ M2 ++ Q))) := by have := H1.out; rw [List.append_assoc P] at this; exact this
                have O2 := Lib.hid O1.out
                have HS2b := Lib.hid (HS2.out (by have := HLN.out; omega) (by have := HLN.out; omega) _ _ M1'.out H2.out O2.out)
                go_wp2_with fail
                refine HS2b.out.mono ?_
                rintro z w4 ⟨rfl, ⟨S2, gm, g1⟩, g2⟩
                have M2' := Lib.hid gm; have H3 := Lib.hid g1; have O3 := Lib.hid (only_t O2.out g2); clear g1 g2 gm
                go_wp2_with fail
                go_end0
                exact ⟨rfl, ⟨_, mid_join HMID.out M1'.out M2'.out, by have := H3.out; simpa only [List.append_assoc] using this⟩, O3.out⟩
              · have hen1 : m < en := by have := HLN.out; omega
                have hen3 : mid < en := by have := HLN.out; omega
                have HROT2 := Lib.hid (HROT.out (by have := HLN.out; omega) (by have := HLN.out; omega))
                clear HROT
                go_wp2_with fail
                refine HROT2.out.mono ?_
                rintro z w2 ⟨rfl, g1, g2⟩
                have H1 := Lib.hid g1; have O1 := Lib.hid (only_t HO.out g2); clear g1 g2
                have M1' := Lib.hid (HN1.out (by have := HLN.out; omega))
                have H2 : Hid (RowB w2 b (P ++ (L1 ++ M1) ++ (L2 ++ M2 ++ Q))) := by have := H1.out; rw [List.append_assoc P] at this; exact this
                have O2 := Lib.hid O1.out
                have M2' := Lib.hid (HN2.out (by have := HLN.out; omega))
                go_wp2_with fail
                go_end0
                exact ⟨rfl, ⟨_, mid_join HMID.out M1'.out M2'.out, by have := H2.out; simpa only [List.append_assoc] using this⟩, O2.out⟩
          · by_cases hu : a < i
            · by_cases hv : en < e
              · have hen1 : ¬ m < en := by have := HLN.out; omega
                have hen3 : mid < en := by have := HLN.out; omega
                have H1 := Lib.hid (HNR.out (by have := HLN.out; omega)); have O1 := Lib.hid HO.out
                have M1' := Lib.hid (HN1.out (by have := HLN.out; omega))
                have H2 : Hid (RowB wr b (P ++ (L1 ++ M1) ++ (L2 ++ M2 ++ Q))) := by have := H1.out; rw [List.append_assoc P] at this; exact this
                have O2 := Lib.hid O1.out
                have HS2b := Lib.hid (HS2.out (by have := HLN.out; omega) (by have := HLN.out; omega) _ _ M1'.out H2.out O2.out)
                go_wp2_with fail
                refine HS2b.out.mono ?_
                rintro z w4 ⟨rfl, ⟨S2, gm, g1⟩, g2⟩
                have M2' := Lib.hid gm; have H3 := Lib.hid g1; have O3 := Lib.hid (only_t O2.out g2); clear g1 g2 gm
                go_wp2_with fail
                go_end0
                exact ⟨rfl, ⟨_, mid_join HMID.out M1'.out M2'.out, by have := H3.out; simpa only [List.append_assoc] using this⟩, O3.out⟩
              · have hen1 : ¬ m < en := by have := HLN.out; omega
                have hen3 : mid < en := by have := HLN.out; omega
                have H1 := Lib.hid (HNR.out (by have := HLN.out; omega)); have O1 := Lib.hid HO.out
                have M1' := Lib.hid (HN1.out (by have := HLN.out; omega))
                have H2 : Hid (RowB wr b (P ++ (L1 ++ M1) ++ (L2 ++ M2 ++ Q))) := by have := H1.out; rw [List.append_assoc P] at this; exact this
                have O2 := Lib.hid O1.out
                have M2' := Lib.hid (HN2.out (by have := HLN.out; omega))
                go_wp2_with fail
                go_end0
                exact ⟨rfl, ⟨_, mid_join HMID.out M1'.out M2'.out, by have := H2.out; simpa only [List.append_assoc] using this⟩, O2.out⟩
            · by_cases hv : en < e
              · have hen1 : ¬ m < en := by have := HLN.out; omega
                have hen3 : mid < en := by have := HLN.out; omega
                have H1 := Lib.hid (HNR.out (by have := HLN.out; omega)); have O1 := Lib.hid HO.out
                have M1' := Lib.hid (HN1.out (by have := HLN.out; omega))
                have H2 : Hid (RowB wr b (P ++ (L1 ++ M1) ++ (L2 ++ M2 ++ Q))) := by have := H1.out; rw [List.append_assoc P] at this; exact this
                have O2 := Lib.hid O1.out
                have HS2b := Lib.hid (HS2.out (by have := HLN.out; omega) (by have := HLN.out; omega) _ _ M1'.out H2.out O2.out)
                go_wp2_with fail
                refine HS2b.out.mono ?_
                rintro z w4 ⟨rfl, ⟨S2, gm, g1⟩, g2⟩
                have M2' := Lib.hid gm; have H3 := Lib.hid g1; have O3 := Lib.hid (only_t O2.out g2); clear g1 g2 gm
                go_wp2_with fail
                go_end0
                exact ⟨rfl, ⟨_, mid_join HMID.out M1'.out M2'.out, by have := H3.out; simpa only [List.append_assoc] using this⟩, O3.out⟩
              · have hen1 : ¬ m < en := by have := HLN.out; omega
                have hen3 : mid < en := by have := HLN.out; omega
                have H1 := Lib.hid (HNR.out (by have := HLN.out; omega)); have O1 := Lib.hid HO.out
                have M1' := Lib.hid (HN1.out (by have := HLN.out; omega))
                have H2 : Hid (RowB wr b (P ++ (L1 ++ M1) ++ (L2 ++ M2 ++ Q))) := by have := H1.out; rw [List.append_assoc P] at this; exact this
                have O2 := Lib.hid O1.out
                have M2' := Lib.hid (HN2.out (by have := HLN.out; omega))
                go_wp2_with fail
                go_end0
                exact ⟨rfl, ⟨_, mid_join HMID.out M1'.out M2'.out, by have := H2.out; simpa only [List.append_assoc] using this⟩, O2.out⟩
        · by_cases hq : i < mid
          · by_cases hu : a < i
            · by_cases hv : en < e
              · have hen1 : m < en := by have := HLN.out; omega
                have hen3 : ¬ mid < en := by have := HLN.out; omega
                have H1 := Lib.hid (HNR.out (by have := HLN.out; omega)); have O1 := Lib.hid HO.out
                have HS1b := Lib.hid (HS1.out (by have := HLN.out; omega) (by have := HLN.out; omega) _ H1.out O1.out)
                go_wp2_with fail
                refine HS1b.out.mono ?_
                rintro z w3 ⟨rfl, ⟨S1, gm, g1⟩, g2⟩
                have M1' := Lib.hid gm; have H2 := Lib.hid g1; have O2 := Lib.hid (only_t O1.out g2); clear g1 g2 gm
                have M2' := Lib.hid (HN2.out (by have := HLN.out; omega))
                go_wp2_with fail
                go_end0
                exact ⟨rfl, ⟨_, mid_join HMID.out M1'.out M2'.out, by have := H2.out; simpa only [List.append_assoc] using this⟩, O2.out⟩
              · have hen1 : m < en := by have := HLN.out; omega
                have hen3 : ¬ mid < en := by have := HLN.out; omega
                have H1 := Lib.hid (HNR.out (by have := HLN.out; omega)); have O1 := Lib.hid HO.out
                have HS1b := Lib.hid (HS1.out (by have := HLN.out; omega) (by have := HLN.out; omega) _ H1.out O1.out)
                go_wp2_with fail
                refine HS1b.out.mono ?_
                rintro z w3 ⟨rfl, ⟨S1, gm, g1⟩, g2⟩
                have M1' := Lib.hid gm; have H2 := Lib.hid g1; have O2 := Lib.hid (only_t O1.out g2); clear g1 g2 gm
                have M2' := Lib.hid (HN2.out (by have := HLN.out; omega))
                go_wp2_with fail
                go_end0
                exact ⟨rfl, ⟨_, mid_join HMID.out M1'.out M2'.out, by have := H2.out; simpa only [List.append_assoc] using this⟩, O2.out⟩
            · by_cases hv : en < e
              · have hen1 : m < en := by have := HLN.out; omega
                have hen3 : ¬ mid < en := by have := HLN.out; omega
                have H1 := Lib.hid (HNR.out (by have := HLN.out; omega)); have O1 := Lib.hid HO.out
                have M1' := Lib.hid (HN1.out (by have := HLN.out; omega))
                have H2 : Hid (RowB wr b (P ++ (L1 ++ M1) ++ (L2 ++ M2 ++ Q))) := by have := H1.out; rw [List.append_assoc P] at this; exact this
                have O2 := Lib.hid O1.out
                have M2' := Lib.hid (HN2.out (by have := HLN.out; omega))
                go_wp2_with fail
                go_end0
                exact ⟨rfl, ⟨_, mid_join HMID.out M1'.out M2'.out, by have := H2.out; simpa only [List.append_assoc] using this⟩, O2.out⟩
              · have hen1 : m < en := by have := HLN.out; omega
                have hen3 : ¬ mid < en := by have := HLN.out; omega
                have H1 := Lib.hid (HNR.out (by have := HLN.out; omega)); have O1 := Lib.hid HO.out
                have M1' := Lib.hid (HN1.out (by have := HLN.out; omega))
                have H2 : Hid (RowB wr b (P ++ (L1 ++ M1) ++ (L2 ++ M2 ++ Q))) := by have := H1.out; rw [List.append_assoc P] at this; exact this
                have O2 := Lib.hid O1.out
                have M2' := Lib.hid (HN2.out (by have := HLN.out; omega))
                go_wp2_with fail
                go_end0
                exact ⟨rfl, ⟨_, mid_join HMID.out M1'.out M2'.out, by have := H2.out; simpa only [List.append_assoc] using this⟩, O2.out⟩
          · by_cases hu : a < i
            · by_cases hv : en < e
              · have hen1 : ¬ m < en := by have := HLN.out; omega
                have hen3 : ¬ mid < en := by have := HLN.out; omega
                have H1 := Lib.hid (HNR.out (by have := HLN.out; omega)); have O1 := Lib.hid HO.out
                have M1' := Lib.hid (HN1.out (by have := HLN.out; omega))
                have H2 : Hid (RowB wr b (P ++ (L1 ++ M1) ++ (L2 ++ M2 ++ Q))) := by have := H1.out; rw [List.append_assoc P] at this; exact this
                have O2 := Lib.hid O1.out
                have M2' := Lib.hid (HN2.out (by have := HLN.out; omega))
                go_wp2_with fail
                go_end0
                exact ⟨rfl, ⟨_, mid_join HMID.out M1'.out M2'.out, by have := H2.out; simpa only [List.append_assoc] using this⟩, O2.out⟩
              · have hen1 : ¬ m < en := by have := HLN.out; omega
                have hen3 : ¬ mid < en := by have := HLN.out; omega
                have H1 := Lib.hid (HNR.out (by have := HLN.out; omega)); have O1 := Lib.hid HO.out
                have M1' := Lib.hid (HN1.out (by have := HLN.out; omega))
                have H2 : Hid (RowB wr b (P ++ (L1 ++ M1) ++ (L2 ++ M2 ++ Q))) := by have := H1.out; rw [List.append_assoc P] at this; exact this
                have O2 := Lib.hid O1.out
                have M2' := Lib.hid (HN2.out (by have := HLN.out; omega))
                go_wp2_with fail
                go_end0
                exact ⟨rfl, ⟨_, mid_join HMID.out M1'.out M2'.out, by have := H2.out; simpa only [List.append_assoc] using this⟩, O2.out⟩
            · by_cases hv : en < e
              · have hen1 : ¬ m < en := by have := HLN.out; omega
                have hen3 : ¬ mid < en := by have := HLN.out; omega
                have H1 := Lib.hid (HNR.out (by have := HLN.out; omega)); have O1 := Lib.hid HO.out
                have M1' := Lib.hid (HN1.out (by have := HLN.out; omega))
                have H2 : Hid (RowB wr b (P ++ (L1 ++ M1) ++ (L2 ++ M2 ++ Q))) := by have := H1.out; rw [List.append_assoc P] at this; exact this
                have O2 := Lib.hid O1.out
                have M2' := Lib.hid (HN2.out (by have := HLN.out; omega))
                go_wp2_with fail
                go_end0
                exact ⟨rfl, ⟨_, mid_join HMID.out M1'.out M2'.out, by have := H2.out; simpa only [List.append_assoc] using this⟩, O2.out⟩
              · have hen1 : ¬ m < en := by have := HLN.out; omega
                have hen3 : ¬ mid < en := by have := HLN.out; omega
                have H1 := Lib.hid (HNR.out (by have := HLN.out; omega)); have O1 := Lib.hid HO.out
                have M1' := Lib.hid (HN1.out (by have := HLN.out; omega))
                have H2 : Hid (RowB wr b (P ++ (L1 ++ M1) ++ (L2 ++ M2 ++ Q))) := by have := H1.out; rw [List.append_assoc P] at this; exact this
                have O2 := Lib.hid O1.out
                have M2' := Lib.hid (HN2.out (by have := HLN.out; omega))
                go_wp2_with fail
                go_end0
                exact ⟨rfl, ⟨_, mid_join HMID.out M1'.out M2'.out, by have := H2.out; simpa only [List.append_assoc] using this⟩, O2.out⟩
end Go.Proofs.YtlcbdmmmafpchaaDoor
