/- The program's ComesBack, and the law. -/
import Derived.Test.YtgmknehioadjhaaMZ
namespace Go.Proofs.Ytgmknehioadjhaa
open Go.RowKit Go.BigFrame Go.Maps
set_option linter.unusedSimpArgs false
set_option linter.unusedVariables false
set_option maxRecDepth 4000

set_option maxHeartbeats 4000000 in
theorem implComesBack_any (s t : ByteArray) (w : World) (hs : s.size ≤ maxLen) (ht : t.size ≤ maxLen) (rb : Bool) (hrb : rb = true ↔ cbP s.data.toList t.data.toList) :
    Calls Try.prog 29 #[.string s, .string t] w fun e w' => e = .returned (.tuple #[.bool rb, .bool (ftB s.data.toList t.data.toList)]) ∧ Below w.heap.size w w' := by
  have HA := Lib.hid (fun (W : World) => findElement_any s t W hs ht)
  obtain ⟨l, hl⟩ : ∃ l, l = s.data.toList := ⟨_, rfl⟩
  obtain ⟨x, hx⟩ : ∃ x, x = t.data.toList := ⟨_, rfl⟩
  rw [← hl, ← hx] at HA hrb ⊢
  clear hl hx
  cases hR : tabQ l with
  | none =>
    have hrf : rb = false := by
      cases rb with
      | false => rfl
      | true => obtain ⟨ns, h1, _⟩ := hrb.1 rfl; rw [hR] at h1; cases h1
    have HB : Hid (Ending.returned (.tuple #[.bool rb, .bool (ftB l x)]) = .returned (.tuple #[.bool false, .bool false])) := Lib.hid (by rw [hrf]; unfold ftB; rw [hR])
    rw [hR] at HA
    rw [HB.out]
    clear hR hrb hrf
    go_enter Try.func29, Try.ntmps29
    go_wp2_with fail
    refine (HA.out w).mono ?_
    rintro e w1 hpost
    have HB1 := Lib.hid hpost.2.2
    obtain rfl := hpost.1 rfl
    clear hpost HA
    go_wp2_with fail
    go_ret2
    exact ⟨rfl, HB1.out.trans ((below_alloc w1 _).mono HB1.out.size)⟩
  | some ns =>
    by_cases hin : x ∈ ns
    · have hrr : rb = true ↔ Rch (rowN ns) (posN x ns) (posN x ns) := ⟨fun h => by
          obtain ⟨ns', e1, e2, e3⟩ := hrb.1 h
          rw [hR] at e1; cases e1; exact e3, fun h => hrb.2 ⟨ns, hR, hin, h⟩⟩
      have HB : Hid (Ending.returned (.tuple #[.bool rb, .bool (ftB l x)]) = .returned (.tuple #[.bool rb, .bool true])) := Lib.hid (by unfold ftB; rw [hR]; simp [hin])
      have h0 := tabQ_ok hR
      have h2 := tabQ_parts hR
      have hns9 := tabQ_le hR
      have hpos := posN_mem.2 hin
      rw [hR] at HA
      rw [HB.out]
      have HIN := Lib.hid hin
      have HDEC : Hid (decide (x ∈ ns) = true) := Lib.hid (by simp [hin])
      clear hR hin hrb
      obtain ⟨a, hpe⟩ : ∃ a, a = posN x ns := ⟨_, rfl⟩
      rw [← hpe] at hpos hrr
      obtain ⟨P, hP⟩ : ∃ P, P = partsL s.data.toList := ⟨_, rfl⟩
      have HPE := Lib.hid hpe; have HRR := Lib.hid hrr; have H0 := Lib.hid h0; have H2 := Lib.hid h2
      clear hpe hrr h0 h2 hP
      go_enter Try.func29, Try.ntmps29
      go_wp2_with fail
      refine (HA.out w).mono ?_
      rintro e w1 hpost
      have hB1 := hpost.2.2
      obtain ⟨vE, mb, vT, vP, vD, ts, c, rfl, hF, hc⟩ := hpost.2.1 ns rfl
      obtain rfl := hc HIN.out
      obtain ⟨gE, cE, aT, cT, gp, cp, gD, cD, rfl, rfl, rfl, rfl, _, _⟩ := hF.open_ H0.out.2 H2.out.1
      have hrows := hF.rows
      obtain ⟨m, hm⟩ : ∃ m, m = ns.length := ⟨_, rfl⟩
      obtain ⟨nt, hnt⟩ : ∃ nt, nt = (natsI ts).length := ⟨_, rfl⟩
      rw [← HPE.out, HDEC.out, ← hm, ← hnt]
      rw [← hm] at hrows hpos hns9
      obtain ⟨o, ho⟩ : ∃ o : Obj, o = .cells #[.slice (some ⟨gE, 0, none⟩) m cE, .map (some mb), .slice aT nt cT, .slice (some ⟨gp, 0, none⟩) (partsL l).length cp, .slice (some ⟨gD, 0, none⟩) m cD] 54 (0, 0) := ⟨_, rfl⟩
      have hcall := leadsBack_any (w1.alloc o) w.heap.size w1.heap.size w1.heap.size m gD cD a ns rb HRR.out hpos hm hns9 H0.out.1 (by rw [ho]; exact cell_newAt _ _ _ _ _ rfl) (by simp) (hrows.below (below_alloc w1 o))
      rw [ho] at hcall
      have HCALL := Lib.hid hcall; have HB1 := Lib.hid hB1
      clear hpost HA hF hc hrows hm hnt hcall hB1 ho
      go_wp2_with fail
      refine HCALL.out.mono ?_
      rintro e w5 ⟨rfl, hb5⟩
      have HB5 := Lib.hid hb5
      clear hb5 HCALL
      go_wp2_with fail
      go_ret2
      exact ⟨rfl, (HB1.out.trans ((below_alloc w1 _).mono HB1.out.size)).trans (HB5.out.mono (by have := HB1.out.size; simp; omega))⟩
    · have hrf : rb = false := by
        cases rb with
        | false => rfl
        | true =>
          obtain ⟨ns', e1, e2, _⟩ := hrb.1 rfl
          rw [hR] at e1; cases e1; exact absurd e2 hin
      have HB : Hid (Ending.returned (.tuple #[.bool rb, .bool (ftB l x)]) = .returned (.tuple #[.bool false, .bool false])) := Lib.hid (by rw [hrf]; unfold ftB; rw [hR]; simp [hin])
      rw [hR] at HA
      rw [HB.out]
      have HDEC : Hid (decide (x ∈ ns) = false) := Lib.hid (by simp [hin])
      clear hR hin hrb hrf
      go_enter Try.func29, Try.ntmps29
      go_wp2_with fail
      refine (HA.out w).mono ?_
      rintro e w1 hpost
      have HB1 := Lib.hid hpost.2.2
      obtain ⟨vE, mb, vT, vP, vD, ts, c, rfl, hF, hc⟩ := hpost.2.1 ns rfl
      obtain ⟨aE, cE, rfl⟩ := own_slice hF.names
      obtain ⟨aT, cT, rfl⟩ := own_slice hF.times
      obtain ⟨aP, nP, cP, rfl⟩ := hF.shP
      obtain ⟨aD, nD, cD, rfl⟩ := hF.shD
      rw [HDEC.out]
      clear hpost HA hF hc
      go_wp2_with fail
      go_ret2
      exact ⟨rfl, HB1.out.trans ((below_alloc w1 _).mono HB1.out.size)⟩

set_option maxHeartbeats 1000000 in
theorem law_ComesBack (s t : ByteArray) (w : World) (hs : s.size ≤ maxLen) (ht : t.size ≤ maxLen) :
    Calls Try.prog 8 #[.string s, .string t] w fun e w' => e = .returned (.bool true) ∧ Below w.heap.size w w' := by
  by_cases hbs : 1048576 < s.size
  · go_enter Try.func8, Try.ntmps8
    go_wp2_with fail
    go_ret
    exact ⟨rfl, Below.refl _ _⟩
  by_cases hbt : 1048576 < t.size
  · go_enter Try.func8, Try.ntmps8
    go_wp2_with fail
    go_ret
    exact ⟨rfl, Below.refl _ _⟩
  obtain ⟨v, hv⟩ : ∃ v : Bool, v = true ↔ cbP s.data.toList t.data.toList := by
    by_cases h : cbP s.data.toList t.data.toList
    · exact ⟨true, by simp [h]⟩
    · exact ⟨false, by simp [h]⟩
  have HS := Lib.hid (fun (W : World) => specComesBack_any s t W hs ht v hv); have HI := Lib.hid (fun (W : World) => implComesBack_any s t W hs ht v hv)
  obtain ⟨b, hb⟩ : ∃ b, b = ftB s.data.toList t.data.toList := ⟨_, rfl⟩
  rw [← hb] at HS HI
  clear hv hb
  have e1 : (v != v) = false := by simp
  have e2 : (b != b) = false := by simp
  go_enter Try.func8, Try.ntmps8
  go_wp2_with fail
  refine (HS.out w).mono ?_
  rintro e w1 ⟨rfl, h1⟩
  have B1 := Lib.hid h1; clear h1
  go_wp2_with fail
  refine (HI.out w1).mono ?_
  rintro e w2 ⟨rfl, h1⟩
  have B2 := Lib.hid h1; clear h1
  go_wp2_with fail
  go_ret
  exact ⟨rfl, below_trans B1.out B2.out⟩
end Go.Proofs.Ytgmknehioadjhaa
