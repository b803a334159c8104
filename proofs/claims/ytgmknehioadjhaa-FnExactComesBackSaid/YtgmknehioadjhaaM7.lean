/- CountsLater: the program's, and the law. -/
import Derived.Test.YtgmknehioadjhaaM6
namespace Go.Proofs.Ytgmknehioadjhaa
open Go.RowKit Go.BigFrame Go.Maps
set_option linter.unusedSimpArgs false
set_option linter.unusedVariables false
set_option maxRecDepth 4000

theorem ltQ_tab {l : List UInt8} {n : Int} {ns : List (List UInt8)} (h : ltQ l n = some ns) : tabQ l = some ns ∧ inT n = true := by
  unfold ltQ at h
  split at h
  · rename_i hb; exact ⟨h, hb⟩
  · cases h
set_option maxHeartbeats 2000000 in
theorem implCountsLater_any (s : ByteArray) (n : Int) (w : World) (hs : s.size ≤ maxLen) :
    Calls Try.prog 20 #[.string s, .int .i64 n] w fun e w' => IntsOk (ltB s.data.toList n) (ltC s.data.toList n) w w' e := by
  have HA := Lib.hid (fun (W : World) => countElements_any s n W hs)
  obtain ⟨l, hl⟩ : ∃ l, l = s.data.toList := ⟨_, rfl⟩
  rw [← hl] at HA ⊢
  clear hl
  cases hR : ltQ l n with
  | none =>
    have HB : Hid (ltB l n = false) := Lib.hid (by unfold ltB; rw [hR]; rfl)
    rw [hR] at HA
    clear hR
    go_enter Try.func20, Try.ntmps20
    go_wp2_with fail
    refine (HA.out w).mono ?_
    rintro e w1 hpost
    have HB1 := Lib.hid hpost.2.2
    obtain rfl := hpost.1 rfl
    clear hpost HA
    go_wp2_with fail
    go_ret2
    exact ⟨_, by rw [HB.out]; rfl, by rw [HB.out]; exact World.ownsRow_nil _ _ _ _, HB1.out.trans ((below_alloc w1 _).mono HB1.out.size)⟩
  | some ns =>
    have HB : Hid (ltB l n = true) := Lib.hid (by unfold ltB; rw [hR]; rfl)
    have HV : Hid (ltC l n = cntsL (partsL l) ns n.toNat) := Lib.hid (by unfold ltC; rw [hR]; rfl)
    rw [hR] at HA
    clear hR
    go_enter Try.func20, Try.ntmps20
    go_wp2_with fail
    refine (HA.out w).mono ?_
    rintro e w1 hpost
    have HB1 := Lib.hid hpost.2.2
    obtain ⟨vE, mb, vT, vP, vD, ts, v, rfl, hF, hv⟩ := hpost.2.1 ns rfl
    obtain ⟨aE, cE, rfl⟩ := own_slice hF.names
    obtain ⟨aT, cT, rfl⟩ := own_slice hF.times
    obtain ⟨aP, nP, cP, rfl⟩ := hF.shP
    obtain ⟨aD, nD, cD, rfl⟩ := hF.shD
    have HVV := Lib.hid hv
    clear hpost HA hF hv
    go_wp2_with fail
    go_ret2
    exact ⟨_, by rw [HB.out]; rfl, by rw [HB.out, if_pos rfl, HV.out]; exact HVV.out.alloc _, HB1.out.trans ((below_alloc w1 _).mono HB1.out.size)⟩
theorem ltC_le (l : List UInt8) (n : Int) : (ltC l n).length ≤ 1000 := by
  unfold ltC
  rw [cnts_len]
  cases h : ltQ l n with
  | none => simp
  | some ns => have := tabQ_le (ltQ_tab h).1; simp; omega
set_option maxHeartbeats 1000000 in
theorem law_CountsLater (s : ByteArray) (n : Int) (w : World) (hs : s.size ≤ maxLen) :
    Calls Try.prog 5 #[.string s, .int .i64 n] w fun e w' => e = .returned (.bool true) ∧ Below w.heap.size w w' := by
  by_cases hbs : 1048576 < s.size
  · go_enter Try.func5, Try.ntmps5
    go_wp2_with fail
    go_ret
    exact ⟨rfl, Below.refl _ _⟩
  obtain ⟨y, hy⟩ : ∃ y, y = ltB s.data.toList n := ⟨_, rfl⟩
  obtain ⟨ns, hn⟩ : ∃ ns, ns = if y = true then ltC s.data.toList n else [] := ⟨_, rfl⟩
  have hlen : ns.length ≤ 1000 := by
    rw [hn]
    split
    · exact ltC_le s.data.toList n
    · simp
  have e2 : (y != y) = false := by simp
  obtain ⟨tt, ht0⟩ : ∃ tt, tt = 1 + ns.length := ⟨_, rfl⟩
  have ht2 : tt ≤ 1001 := by omega
  have ht1 : 1 ≤ tt := by omega
  have e1 : ((tt : Int) != (tt : Int)) = false := by simp
  have HS := Lib.hid (fun (W : World) => specCountsLater_any s n W hs); have HI := Lib.hid (fun (W : World) => implCountsLater_any s n W hs)
  rw [← hy] at HS HI
  have HN := Lib.hid hn; have HT := Lib.hid ht0; have HLEN := Lib.hid hlen
  clear hy hn ht0 hlen
  go_enter Try.func5, Try.ntmps5
  go_wp2_with fail
  refine (HS.out w).mono ?_
  rintro e w1 ⟨v0, rfl, h2, h3⟩
  rw [← HN.out] at h2
  have A1 := Lib.hid h2; have B1 := Lib.hid h3; clear h2 h3
  go_wp2_with fail
  refine (HI.out w1).mono ?_
  rintro e w2 ⟨v1, rfl, h2, h3⟩
  rw [← HN.out] at h2
  have A2 := Lib.hid h2; have B2 := Lib.hid h3; clear h2 h3
  go_wp2_with fail
  refine (eqIntS_same w2 _ _ v1 v0 ns A2.out (own_below A1.out B2.out)).mono ?_
  rintro e w3 ⟨rfl, h3⟩
  have B3 := Lib.hid h3; clear h3
  go_wp2_with fail
  refine (markIntS_any w3 _ 1 v1 ns (own_below A2.out B3.out) (by have := HLEN.out; omega)).mono ?_
  rintro e w4 ⟨rfl, h4, h5⟩
  rw [← HT.out]
  have hb4 : Below w1.heap.size w3 w4 := (Below.refl _ w3).grown h5 (Nat.le_trans B2.out.size B3.out.size) (fun g hg => ((own_below A2.out B3.out).lt g hg).1)
  have A4 := Lib.hid h4; have B4 := Lib.hid hb4; clear h4 h5 hb4
  go_wp2_with fail
  refine (heldIntS_any w4 _ 1 ns.length v1 A4.out (by have := HLEN.out; omega)).mono ?_
  rintro e w5 ⟨rfl, h5⟩
  rw [← HT.out]
  have B5 := Lib.hid h5; clear h5
  go_wp2_with fail
  refine (HI.out w5).mono ?_
  rintro e w6 ⟨v6, rfl, h2, h3⟩
  rw [← HN.out] at h2
  have A6 := Lib.hid h2; have B6 := Lib.hid h3; clear h2 h3
  go_wp2_with fail
  have C6 := Lib.hid (below_trans (below_trans ((below_trans B2.out B3.out).trans B4.out) B5.out) B6.out)
  have A1' : Hid (Ints w6 w.heap.size v0 ns) := own_below A1.out C6.out
  refine (eqIntS_same w6 _ _ v6 v0 ns A6.out A1'.out).mono ?_
  rintro e w7 ⟨rfl, h7⟩
  have B7 := Lib.hid h7; clear h7
  go_wp2_with fail
  refine (heldIntS_any w7 _ 1 ns.length v1 (own_below A4.out (below_trans B5.out (below_trans B6.out B7.out))) (by have := HLEN.out; omega)).mono ?_
  rintro e w8 ⟨rfl, h8⟩
  rw [← HT.out]
  have B8 := Lib.hid h8; clear h8
  go_wp2_with fail
  go_ret
  exact ⟨rfl, below_trans B1.out (below_trans C6.out (below_trans B7.out B8.out))⟩

end Go.Proofs.Ytgmknehioadjhaa
