/- The program's findElement and FirstTime. -/
import Derived.Test.YtgmknehioadjhaaMD
import Derived.Test.YtgmknehioadjhaaM6
namespace Go.Proofs.Ytgmknehioadjhaa
open Go.RowKit Go.BigFrame Go.Maps
set_option linter.unusedSimpArgs false
set_option linter.unusedVariables false
set_option maxRecDepth 4000

theorem keyOfL {t : ByteArray} (h : t.size ≤ maxLen) : keyOf Try.prog 9 (.string t) = some (kS t.data.toList) := by
  have := _root_.Go.WideMaps.keyOf_string_mk Try.underlying9 (s := t) (by unfold maxLen at h ⊢; omega)
  exact this
/-- What findElement tells. -/
def FiPost (P : List (List UInt8)) (R : Option (List (List UInt8))) (x : List UInt8) (w w' : World) (e : Ending) : Prop :=
  (R = none → e = .returned (.tuple #[.agg zeroF, .int .i64 0, .bool false])) ∧
  (∀ ns, R = some ns → ∃ vE mb vT vP vD ts c, e = .returned (.tuple #[.agg #[vE, .map (some mb), vT, vP, vD], .int .i64 c, .bool (decide (x ∈ ns))]) ∧ FeTab w' w.heap.size P ns vE mb vT vP vD ts ∧ (x ∈ ns → c = (posN x ns : Nat))) ∧ Below w.heap.size w w'

set_option maxHeartbeats 8000000 in
theorem findElement_any (s t : ByteArray) (w : World) (hs : s.size ≤ maxLen) (ht : t.size ≤ maxLen) :
    Calls Try.prog 48 #[.string s, .string t] w fun e w' => FiPost (partsL s.data.toList) (tabQ s.data.toList) t.data.toList w w' e := by
  have HA := Lib.hid (fun (W : World) => findElements_q s W hs)
  obtain ⟨P, hP⟩ : ∃ P, P = partsL s.data.toList := ⟨_, rfl⟩
  rw [← hP] at HA ⊢
  obtain ⟨l, hl⟩ : ∃ l, l = s.data.toList := ⟨_, rfl⟩
  rw [← hl] at HA hP ⊢
  have hkey := keyOfL ht
  obtain ⟨x, hx⟩ : ∃ x, x = t.data.toList := ⟨_, rfl⟩
  rw [← hx] at hkey ⊢
  clear hl hx
  cases hR : tabQ l with
  | none =>
    rw [hR] at HA
    clear hR hP
    go_enter Try.func48, Try.ntmps48
    go_wp2_with fail
    refine (HA.out _).mono ?_
    rintro e w1 hpost
    have hB1 := hpost.2.2
    obtain rfl := hpost.1 rfl
    have hs1 := hB1.size
    rw [World.size_alloc] at hs1
    have hlt1 : w.heap.size < w1.heap.size := hs1
    have hob : w1.heap[w.heap.size]? = some (.cells zeroF 54 (0, 0)) := by rw [hB1.block w.heap.size (by simp)]; exact heap_alloc_new w _
    obtain ⟨k0, k1, k2, k3, k4, kf⟩ := cells_of hob
    have f0 := kf 0; have f1 := kf 1; have f2 := kf 2; have f3 := kf 3; have f4 := kf 4
    have HB1 := Lib.hid hB1; have HOB := Lib.hid hob
    clear hpost hB1 HA hob hs1 kf
    go_wp2_with fail
    generalize hV : World.alloc _ _ = V
    obtain ⟨q0, q1, q2, q3, q4, _⟩ : V.cell? ⟨w.heap.size, 0, none⟩ = some (.slice none 0 0) ∧ V.cell? ⟨w.heap.size, 1, none⟩ = some (.map none) ∧ V.cell? ⟨w.heap.size, 2, none⟩ = some (.slice none 0 0) ∧ V.cell? ⟨w.heap.size, 3, none⟩ = some (.slice none 0 0) ∧ V.cell? ⟨w.heap.size, 4, none⟩ = some (.slice none 0 0) ∧ ∀ i, V.frozen? ⟨w.heap.size, i, none⟩ = false :=
      cells_of (T := 54) (by rw [← hV, heap_alloc_old _ _ (by simp; omega)]; exact five_obj _ _ _ _ _ HOB.out)
    refine bodyPost_ret (v := .tuple #[.agg zeroF, .int .i64 0, .bool false]) ?_ rfl ⟨fun _ => rfl, fun ns h => (by cases h), ?_⟩
    · simp [results, Try.results48, go_sem, q0, q1, q2, q3, q4]
    · rw [← hV]
      exact (((((((below_alloc w _).trans (HB1.out.mono (by simp))).setCell (by simp) _).setCell (by simp) _).setCell (by simp) _).setCell (by simp) _).setCell (by simp) _).alloc (by simp; omega) _
  | some ns =>
    rw [hR] at HA
    have h0 := tabQ_ok hR
    have h2 := tabQ_parts hR
    rw [← hP] at h2
    clear hR hP
    go_enter Try.func48, Try.ntmps48
    go_wp2_with fail
    refine (HA.out _).mono ?_
    rintro e w1 hpost
    have hB1 := hpost.2.2
    obtain ⟨vE, mb, vT, vP, vD, ts, rfl, hF⟩ := hpost.2.1 ns rfl
    obtain ⟨aE, cE, rfl⟩ := own_slice hF.names
    obtain ⟨aT, cT, rfl⟩ := own_slice hF.times
    obtain ⟨aP, nP, cP, rfl⟩ := hF.shP
    obtain ⟨aD, nD, cD, rfl⟩ := hF.shD
    have hs1 := hB1.size
    rw [World.size_alloc] at hs1
    have hlt1 : w.heap.size < w1.heap.size := hs1
    have hob : w1.heap[w.heap.size]? = some (.cells zeroF 54 (0, 0)) := by rw [hB1.block w.heap.size (by simp)]; exact heap_alloc_new w _
    obtain ⟨D, hD, hND⟩ := hF.map
    obtain ⟨m, hm⟩ : ∃ m, m = ns.length := ⟨_, rfl⟩
    obtain ⟨nt, hnt⟩ : ∃ nt, nt = (natsI ts).length := ⟨_, rfl⟩
    rw [← hm, ← hnt] at hF ⊢
    rw [← hm] at hD
    obtain ⟨wA, hwA⟩ : ∃ wA, wA = w1.alloc (.cells #[.slice aE m cE, .map (some mb), .slice aT nt cT, .slice aP nP cP, .slice aD nD cD] 54 (0, 0)) := ⟨_, rfl⟩
    have hDA : OwnS wA mb m D := by rw [hwA]; exact hD.alloc _
    have hbA : Below w1.heap.size w1 wA := by rw [hwA]; exact below_alloc _ _
    have hsA : wA.heap.size = w1.heap.size + 1 := by rw [hwA]; simp
    have hobA : wA.heap[w.heap.size]? = some (.cells zeroF 54 (0, 0)) := by rw [hbA.block _ hlt1]; exact hob
    have hoA : wA.heap[w1.heap.size]? = some (.cells #[.slice aE m cE, .map (some mb), .slice aT nt cT, .slice aP nP cP, .slice aD nD cD] 54 (0, 0)) := by rw [hwA]; exact heap_alloc_new _ _
    obtain ⟨hb0, hbe, hbv⟩ : ∃ b, b = decide (x ∈ ns) ∧ Maps.has D (kS x) = b := ⟨_, rfl, by
      by_cases hin : x ∈ ns
      · rw [(hND.keys x).2 hin]; simp [hin]
      · cases h : Maps.has D (kS x) with
        | true => exact absurd ((hND.keys x).1 h) hin
        | false => simp [hin]⟩
    have HOBW := Lib.hid hob
    have HF := Lib.hid hF; have HND := Lib.hid hND; have HDA := Lib.hid hDA; have HBA := Lib.hid hbA; have HSA := Lib.hid hsA; have HB1 := Lib.hid hB1; have HWA := Lib.hid hwA; have HBE := Lib.hid hbe; have HBV := Lib.hid hbv
    obtain ⟨k0, k1, k2, k3, k4, kf⟩ := cells_of hob
    have f0 := kf 0; have f1 := kf 1; have f2 := kf 2; have f3 := kf 3; have f4 := kf 4
    clear hpost hB1 HA hF hob hs1 hD hND hDA hbA hsA hobA hoA kf hwA hm hnt hbe hbv
    go_wp2_with (at_lookup; refine wpList_lookup_own_ok_int _ rfl _ _ 51 rfl 9 3 .i64 lawS Try.underlying51 Try.underlying3 (zeroI _) mb m D rfl (by rw [← HWA.out]; exact HDA.out) _ _ rfl hkey ?_; intro c hat hwc; rw [HBV.out]; have HAT := Lib.hid hat; clear hat hwc)
    have HK := Lib.hid (five_sets w1 w.heap.size (.slice aE m cE) (.map (some mb)) (.slice aT nt cT) (.slice aP nP cP) (.slice aD nD cD))
    have HOB2 : Hid ((((((w1.setCell ⟨w.heap.size, 0, none⟩ (.slice aE m cE)).setCell ⟨w.heap.size, 1, none⟩ (.map (some mb))).setCell ⟨w.heap.size, 2, none⟩ (.slice aT nt cT)).setCell ⟨w.heap.size, 3, none⟩ (.slice aP nP cP)).setCell ⟨w.heap.size, 4, none⟩ (.slice aD nD cD)).heap[w.heap.size]? = some (.cells #[.slice aE m cE, .map (some mb), .slice aT nt cT, .slice aP nP cP, .slice aD nD cD] 54 (0, 0))) := Lib.hid (five_obj _ _ _ _ _ HOBW.out)
    generalize hV : World.alloc _ _ = V
    obtain ⟨q0, q1, q2, q3, q4, _⟩ : V.cell? ⟨w.heap.size, 0, none⟩ = some (.slice aE m cE) ∧ V.cell? ⟨w.heap.size, 1, none⟩ = some (.map (some mb)) ∧ V.cell? ⟨w.heap.size, 2, none⟩ = some (.slice aT nt cT) ∧ V.cell? ⟨w.heap.size, 3, none⟩ = some (.slice aP nP cP) ∧ V.cell? ⟨w.heap.size, 4, none⟩ = some (.slice aD nD cD) ∧ ∀ i, V.frozen? ⟨w.heap.size, i, none⟩ = false :=
      cells_of (T := 54) (by rw [← hV, heap_alloc_old _ _ (by simp; omega)]; exact HOB2.out)
    refine bodyPost_ret (v := .tuple #[.agg #[.slice aE m cE, .map (some mb), .slice aT nt cT, .slice aP nP cP, .slice aD nD cD], .int .i64 c, .bool hb0]) ?_ rfl ⟨fun h => (by cases h), fun ns' h => ?_, ?_⟩
    · simp [results, Try.results48, go_sem, q0, q1, q2, q3, q4]
    · cases h
      refine ⟨_, _, _, _, _, ts, c, by rw [← HBE.out], FeTab.mono (FeTab.kept HF.out (fun g h3 h4 => ?_) ?_) (by simp), fun hin => ?_⟩
      · rw [World.size_alloc] at h3
        rw [← hV, heap_alloc_old _ _ (by simp; omega)]
        exact HK.out.block g h4 (fun e => by have := Option.some.inj e; omega)
      · rw [← hV]; simp
      · have h1 := HND.out.at_ x hin
        rw [HAT.out] at h1
        injection h1 with h1
        injection h1
    · rw [← hV]
      have hb0' : Below w.heap.size w w1 := (below_alloc w _).trans (HB1.out.mono (by simp))
      exact (hb0'.trans (below_grown (by omega) HK.out (fun g e => by have := Option.some.inj e; omega))).alloc (by simp; omega) _

/-! ### FirstTime -/
def ftB (l x : List UInt8) : Bool := match tabQ l with | some ns => decide (x ∈ ns) | none => false
def ftV (l x : List UInt8) : Int := match tabQ l with | some ns => if x ∈ ns then ((timesT (partsL l)).getD (posN x ns) 0 : Nat) else 0 | none => 0
theorem times_len {l : List UInt8} {ns : List (List UInt8)} (h : tabQ l = some ns) : (timesT (partsL l)).length = ns.length := by
  unfold tabQ at h
  split at h
  · exact runT_len _ _ _ _ _ h (tmT_len _ _ _ _ rfl)
  · cases h
set_option maxHeartbeats 4000000 in
theorem implFirstTime_any (s t : ByteArray) (w : World) (hs : s.size ≤ maxLen) (ht : t.size ≤ maxLen) :
    Calls Try.prog 31 #[.string s, .string t] w fun e w' => e = .returned (.tuple #[.int .i64 (ftV s.data.toList t.data.toList), .bool (ftB s.data.toList t.data.toList)]) ∧ Below w.heap.size w w' := by
  have HA := Lib.hid (fun (W : World) => findElement_any s t W hs ht)
  obtain ⟨l, hl⟩ : ∃ l, l = s.data.toList := ⟨_, rfl⟩
  obtain ⟨x, hx⟩ : ∃ x, x = t.data.toList := ⟨_, rfl⟩
  rw [← hl, ← hx] at HA ⊢
  clear hl hx
  cases hR : tabQ l with
  | none =>
    have HB : Hid (Ending.returned (.tuple #[.int .i64 (ftV l x), .bool (ftB l x)]) = .returned (.tuple #[.int .i64 0, .bool false])) := Lib.hid (by unfold ftV ftB; rw [hR])
    rw [hR] at HA
    rw [HB.out]
    clear hR
    go_enter Try.func31, Try.ntmps31
    go_wp2_with fail
    refine (HA.out w).mono ?_
    rintro e w1 hpost
    have HB1 := Lib.hid hpost.2.2
    obtain rfl := hpost.1 rfl
    clear hpost HA
    go_wp2_with fail
    go_ret2
    exact ⟨rfl, HB1.out.trans ((below_alloc w1 _).mono HB1.out.size)⟩
  | some ns =>
    have htl := times_len hR
    by_cases hin : x ∈ ns
    · have HB : Hid (Ending.returned (.tuple #[.int .i64 (ftV l x), .bool (ftB l x)]) = .returned (.tuple #[.int .i64 ((timesT (partsL l)).getD (posN x ns) 0 : Nat), .bool true])) := Lib.hid (by unfold ftV ftB; rw [hR]; simp [hin])
      rw [hR] at HA
      rw [HB.out]
      have hpos := posN_mem.2 hin
      have hns9 := tabQ_le hR
      have HIN := Lib.hid hin
      clear hR hin
      obtain ⟨q, hq⟩ : ∃ q, q = posN x ns := ⟨_, rfl⟩
      rw [← hq] at hpos ⊢
      have HQ := Lib.hid hq; have HTL := Lib.hid htl
      clear hq htl
      go_enter Try.func31, Try.ntmps31
      go_wp2_with fail
      refine (HA.out w).mono ?_
      rintro e w1 hpost
      have HB1 := Lib.hid hpost.2.2
      obtain ⟨vE, mb, vT, vP, vD, ts, c, rfl, hF, hc⟩ := hpost.2.1 ns rfl
      obtain rfl := hc HIN.out
      have htms := hF.tms
      subst htms
      obtain ⟨aE, cE, rfl⟩ := own_slice hF.names
      obtain ⟨gT, cT, rfl, _, hgT⟩ := ints_posI hF.times (by intro e; have := congrArg List.length e; rw [natsI_len, HTL.out] at this; simp at this; rw [this] at hpos; simp at hpos)
      obtain ⟨aP, nP, cP, rfl⟩ := hF.shP
      obtain ⟨aD, nD, cD, rfl⟩ := hF.shD
      have htt := hF.times
      rw [natsI_len, HTL.out] at htt
      rw [natsI_len, HTL.out, ← HQ.out]
      obtain ⟨m, hm⟩ : ∃ m, m = ns.length := ⟨_, rfl⟩
      rw [← hm] at htt hpos hns9 ⊢
      have yq := (ints_at htt hpos).1
      have hval : (natsI (timesT (partsL l))).getD q 0 = ((timesT (partsL l)).getD q 0 : Nat) := by
        have hq2 : q < (timesT (partsL l)).length := by rw [HTL.out, ← hm]; exact hpos
        simp [natsI, List.getD, List.getElem?_eq_getElem hq2]
      rw [hval] at yq
      have HDEC : Hid (decide (x ∈ ns) = true) := Lib.hid (by simp [HIN.out])
      rw [HDEC.out]
      clear hpost HA hF hc htt hm hval
      go_wp2_with fail
      go_ret2
      exact ⟨rfl, HB1.out.trans ((below_alloc w1 _).mono HB1.out.size)⟩
    · have HB : Hid (Ending.returned (.tuple #[.int .i64 (ftV l x), .bool (ftB l x)]) = .returned (.tuple #[.int .i64 0, .bool false])) := Lib.hid (by unfold ftV ftB; rw [hR]; simp [hin])
      rw [hR] at HA
      rw [HB.out]
      have HDEC : Hid (decide (x ∈ ns) = false) := Lib.hid (by simp [hin])
      clear hR hin htl
      go_enter Try.func31, Try.ntmps31
      go_wp2_with fail
      refine (HA.out w).mono ?_
      rintro e w1 hpost
      have HB1 := Lib.hid hpost.2.2
      obtain ⟨vE, mb, vT, vP, vD, ts, c, rfl, hF, hc⟩ := hpost.2.1 ns rfl
      obtain ⟨aE, cE, rfl⟩ := own_slice hF.names
      obtain ⟨aT, cT, rfl⟩ := own_slice hF.times
      obtain ⟨aP, nP, cP, rfl⟩ := hF.shP
      obtain ⟨aD, nD, cD, rfl⟩ := hF.shD
      rw [HDEC.out]
      clear hpost HA hF hc
      go_wp2_with fail
      go_ret2
      exact ⟨rfl, HB1.out.trans ((below_alloc w1 _).mono HB1.out.size)⟩
end Go.Proofs.Ytgmknehioadjhaa
