/- The walks of the laws WayOfWord and SayTimes. -/
import Derived.Test.YtjjkfffddfanaaaI7
import Derived.Test.YtjjkfffddfanaaaE3
namespace Go.Proofs.Ytjjkfffddfanaaa
open Go.RowKit Go.BigFrame
set_option linter.unusedSimpArgs false
set_option linter.unusedVariables false
set_option maxRecDepth 4000

theorem specWay_any (s : ByteArray) (n : Int) (w : World) (hs : s.size ≤ maxLen) :
    Calls Try.prog 36 #[.string s, .int .i64 n] w fun e w' => StrsOk (wayO s.data.toList n) w w' e := by
  unfold wayO
  by_cases h : goodL s.data.toList = true ∧ 0 ≤ n ∧ n ≤ 20
  · rw [if_pos h]; exact specWay_good s n w hs h.1 h.2.1 h.2.2
  · rw [if_neg h]; exact specWay_bad s n w hs h
theorem implWay_any (s : ByteArray) (n : Int) (w : World) (hs : s.size ≤ maxLen) :
    Calls Try.prog 37 #[.string s, .int .i64 n] w fun e w' => StrsOk (wayO s.data.toList n) w w' e := by
  unfold wayO
  by_cases h : goodL s.data.toList = true ∧ 0 ≤ n ∧ n ≤ 20
  · rw [if_pos h]; exact implWay_good s n w hs h.1 h.2.1 h.2.2
  · rw [if_neg h]; exact implWay_bad s n w hs h
theorem wayO_len (l : List UInt8) (n : Int) : ((wayO l n).getD []).length ≤ 21 := by
  unfold wayO
  split
  · rename_i h
    cases hw : wayL n.toNat l with
    | none => simp
    | some ls => rw [Option.getD_some, wayL_len _ _ _ hw]; omega
  · simp

set_option maxHeartbeats 2000000 in
theorem law_WayOfWord (s : ByteArray) (n : Int) (w : World) (hs : s.size ≤ maxLen) :
    Calls Try.prog 11 #[.string s, .int .i64 n] w fun e w' => e = .returned (.bool true) ∧ Below w.heap.size w w' := by
  by_cases hb : 1048576 < s.size
  · go_enter Try.func11, Try.ntmps11
    go_wp2_with fail
    go_ret
    exact ⟨rfl, Below.refl _ _⟩
  · obtain ⟨o, ho⟩ : ∃ o, o = wayO s.data.toList n := ⟨_, rfl⟩
    have hlen : (o.getD []).length ≤ 21 := by rw [ho]; exact wayO_len _ _
    obtain ⟨y, hy⟩ : ∃ y, y = o.isSome := ⟨_, rfl⟩
    obtain ⟨ls, hls⟩ : ∃ ls, ls = o.getD [] := ⟨_, rfl⟩
    obtain ⟨tt, ht⟩ : ∃ tt, tt = 1 + ls.length := ⟨_, rfl⟩
    have ht2 : tt ≤ 22 := by rw [ht, hls]; omega
    have ht1 : 1 ≤ tt := by omega
    have e1 : ((tt : Int) != (tt : Int)) = false := by simp
    have e2 : (y != y) = false := by simp
    have hspec := fun (W : World) => specWay_any s n W hs
    have himpl := fun (W : World) => implWay_any s n W hs
    rw [← ho] at hspec himpl
    have hopen : ∀ (W W' : World) (e : Ending), StrsOk o W W' e → ∃ v, e = .returned (.tuple #[v, .bool y]) ∧ Strs W' W.heap.size v ls ∧ Below W.heap.size W W' := by
      rintro W W' e ⟨v, h1, h2, h3, _⟩
      exact ⟨v, by rw [hy]; exact h1, by rw [hls]; exact h2, h3⟩
    have HS := Lib.hid hspec; have HI := Lib.hid himpl; have HO := Lib.hid hopen; have HT := Lib.hid ht; have HTT := Lib.hid ht2
    clear hy hls ht ho hlen hspec himpl hopen
    go_enter Try.func11, Try.ntmps11
    go_wp2_with fail
    refine (HS.out w).mono ?_
    intro e w1 h1
    obtain ⟨v0, rfl, h2, h3⟩ := HO.out _ _ _ h1
    have A1 := Lib.hid h2; have B1 := Lib.hid h3; clear h1 h2 h3
    go_wp2_with fail
    refine (HI.out w1).mono ?_
    intro e w2 h1
    obtain ⟨v1, rfl, h2, h3⟩ := HO.out _ _ _ h1
    have A2 := Lib.hid h2; have B2 := Lib.hid h3; clear h1 h2 h3
    go_wp2_with fail
    refine (eqStringS_same w2 _ _ v1 v0 ls A2.out (own_below A1.out B2.out)).mono ?_
    rintro e w3 ⟨rfl, h3⟩
    have B3 := Lib.hid h3; clear h3
    go_wp2_with fail
    refine (markStringS_any w3 _ 1 v1 ls (own_below A2.out B3.out) (Nat.le_trans B2.out.size B3.out.size) (by have h1 := HT.out; have h2 := HTT.out; omega)).mono ?_
    rintro e w4 ⟨rfl, h4, h5⟩
    rw [← HT.out]
    have A4 := Lib.hid h4; have B4 := Lib.hid h5; clear h4 h5
    go_wp2_with fail
    refine (heldStringS_any w4 _ 1 _ v1 A4.out (by have h1 := HT.out; have h2 := HTT.out; omega)).mono ?_
    rintro e w5 ⟨rfl, h5⟩
    rw [← HT.out]
    have B5 := Lib.hid h5; clear h5
    go_wp2_with fail
    refine (HI.out w5).mono ?_
    intro e w6 h1
    obtain ⟨v6, rfl, h2, h3⟩ := HO.out _ _ _ h1
    have A6 := Lib.hid h2; have B6 := Lib.hid h3; clear h1 h2 h3
    go_wp2_with fail
    have C6 := Lib.hid (below_trans (below_trans ((below_trans B2.out B3.out).trans B4.out) B5.out) B6.out)
    have A1' : Hid (Strs w6 w.heap.size v0 ls) := own_below A1.out C6.out
    refine (eqStringS_same w6 _ _ v6 v0 ls A6.out A1'.out).mono ?_
    rintro e w7 ⟨rfl, h7⟩
    have B7 := Lib.hid h7; clear h7
    go_wp2_with fail
    refine (heldStringS_any w7 _ 1 _ v1 (own_below A4.out (below_trans B5.out (below_trans B6.out B7.out))) (by have h1 := HT.out; have h2 := HTT.out; omega)).mono ?_
    rintro e w8 ⟨rfl, h8⟩
    rw [← HT.out]
    have B8 := Lib.hid h8; clear h8
    go_wp2_with fail
    go_ret
    exact ⟨rfl, below_trans B1.out (below_trans C6.out (below_trans B7.out B8.out))⟩

/-- The last text of a way. -/
def timesO (l : List UInt8) (n : Int) : Option (List UInt8) := (wayO l n).map (fun ls => ls.getLastD [])
theorem last_at (l : List UInt8) (n : Int) (ls : List (List UInt8)) (h : wayO l n = some ls) : 0 ≤ n ∧ n ≤ 20 ∧ n.toNat + 1 = ls.length ∧ (strVs ls)[n.toNat]? = some (.string (bs (ls.getLastD []))) := by
  unfold wayO at h
  split at h
  · rename_i hh
    have hlen := wayL_len _ _ _ h
    refine ⟨hh.2.1, hh.2.2, hlen.symm, ?_⟩
    unfold strVs
    rw [List.getElem?_map]
    have : ls[n.toNat]? = some (ls.getLastD []) := by
      rw [List.getLastD_eq_getLast?, List.getLast?_eq_getElem?, hlen]
      simp [show n.toNat < ls.length by omega]
    rw [this]; rfl
  · cases h

set_option maxHeartbeats 1000000 in
theorem specTimes_any (s : ByteArray) (n : Int) (w : World) (hs : s.size ≤ maxLen) :
    Calls Try.prog 32 #[.string s, .int .i64 n] w fun e w' => e = .returned (strOk (timesO s.data.toList n)) ∧ Below w.heap.size w w' := by
  have hcon := fun (W : World) => specWay_any s n W hs
  cases ho : wayO s.data.toList n with
  | none =>
    have HT : Hid (timesO s.data.toList n = none) := by unfold timesO; rw [ho]; exact rfl
    rw [ho] at hcon
    have HC := Lib.hid hcon; clear hcon ho
    go_enter Try.func32, Try.ntmps32
    go_wp2_with fail
    refine (HC.out w).mono ?_
    rintro e w1 ⟨v, rfl, _, hb, _⟩
    have HB := Lib.hid hb; clear hb
    go_wp2_with fail
    go_ret2
    exact ⟨by rw [HT.out]; rfl, HB.out⟩
  | some ls =>
    obtain ⟨h0, h1, h2, h3⟩ := last_at _ _ _ ho
    have HT : Hid (timesO s.data.toList n = some (ls.getLastD [])) := by unfold timesO; rw [ho]; exact rfl
    rw [ho] at hcon
    have HC := Lib.hid hcon; clear hcon ho
    obtain ⟨N, rfl⟩ := Int.eq_ofNat_of_zero_le h0
    rw [Int.toNat_natCast] at h2 h3
    have H3 := Lib.hid h3
    clear h3
    go_enter Try.func32, Try.ntmps32
    go_wp2_with fail
    refine (HC.out w).mono ?_
    rintro e w1 ⟨v, rfl, hown, hb, _⟩
    simp only [Option.getD_some] at hown
    have HB := Lib.hid hb
    rcases own_open hown with ⟨_, hx, _⟩ | ⟨g, cap, rfl, _, hg, hc1, hc2, hlv, hcell, _⟩
    · omega
    have hck : w1.cell? ⟨g, N, none⟩ = some (.string (bs (ls.getLastD []))) := by
      have hk1 : N < (strVs ls).length := by omega
      rw [hcell N hk1]
      have := H3.out
      rw [List.getElem?_eq_getElem hk1] at this
      exact this
    unfold maxLen at hc2
    rw [← h2] at hc1 ⊢
    clear hown hb hcell hlv h2
    go_wp2_with fail
    go_ret2
    exact ⟨by rw [HT.out, List.getLastD_eq_getLast?]; rfl, HB.out⟩

set_option maxHeartbeats 1000000 in
theorem implTimes_any (s : ByteArray) (n : Int) (w : World) (hs : s.size ≤ maxLen) :
    Calls Try.prog 33 #[.string s, .int .i64 n] w fun e w' => e = .returned (strOk (timesO s.data.toList n)) ∧ Below w.heap.size w w' := by
  have hcon := fun (W : World) => implWay_any s n W hs
  cases ho : wayO s.data.toList n with
  | none =>
    have HT : Hid (timesO s.data.toList n = none) := by unfold timesO; rw [ho]; exact rfl
    rw [ho] at hcon
    have HC := Lib.hid hcon; clear hcon ho
    go_enter Try.func33, Try.ntmps33
    go_wp2_with fail
    refine (HC.out w).mono ?_
    rintro e w1 ⟨v, rfl, _, hb, _⟩
    have HB := Lib.hid hb; clear hb
    go_wp2_with fail
    go_ret2
    exact ⟨by rw [HT.out]; rfl, HB.out⟩
  | some ls =>
    obtain ⟨h0, h1, h2, h3⟩ := last_at _ _ _ ho
    have HT : Hid (timesO s.data.toList n = some (ls.getLastD [])) := by unfold timesO; rw [ho]; exact rfl
    rw [ho] at hcon
    have HC := Lib.hid hcon; clear hcon ho
    obtain ⟨N, rfl⟩ := Int.eq_ofNat_of_zero_le h0
    rw [Int.toNat_natCast] at h2 h3
    have H3 := Lib.hid h3
    clear h3
    go_enter Try.func33, Try.ntmps33
    go_wp2_with fail
    refine (HC.out w).mono ?_
    rintro e w1 ⟨v, rfl, hown, hb, _⟩
    simp only [Option.getD_some] at hown
    have HB := Lib.hid hb
    rcases own_open hown with ⟨_, hx, _⟩ | ⟨g, cap, rfl, _, hg, hc1, hc2, hlv, hcell, _⟩
    · omega
    have hck : w1.cell? ⟨g, N, none⟩ = some (.string (bs (ls.getLastD []))) := by
      have hk1 : N < (strVs ls).length := by omega
      rw [hcell N hk1]
      have := H3.out
      rw [List.getElem?_eq_getElem hk1] at this
      exact this
    unfold maxLen at hc2
    rw [← h2] at hc1 ⊢
    clear hown hb hcell hlv h2
    go_wp2_with fail
    go_ret2
    exact ⟨by rw [HT.out, List.getLastD_eq_getLast?]; rfl, HB.out⟩
theorem law_SayTimes (s : ByteArray) (n : Int) (w : World) (hs : s.size ≤ maxLen) :
    Calls Try.prog 9 #[.string s, .int .i64 n] w fun e w' => e = .returned (.bool true) ∧ Below w.heap.size w w' := by
  by_cases hb : 1048576 < s.size
  · go_enter Try.func9, Try.ntmps9
    go_wp2_with fail
    go_ret
    exact ⟨rfl, Below.refl _ _⟩
  · cases hk : timesO s.data.toList n
    all_goals
      have HK := Lib.hid hk; clear hk
      go_enter Try.func9, Try.ntmps9
      go_wp2_with fail
      refine (specTimes_any s n w hs).mono ?_
      rintro e w1 ⟨rfl, h1⟩
      rw [HK.out]
      have H1 := Lib.hid h1; clear h1
      unfold strOk
      go_wp2_with fail
      refine (implTimes_any s n w1 hs).mono ?_
      rintro e w2 ⟨rfl, h2⟩
      rw [HK.out]
      have H2 := Lib.hid h2; clear h2
      unfold strOk
      go_wp2_with fail
      go_ret
      exact ⟨rfl, below_trans H1.out H2.out⟩
end Go.Proofs.Ytjjkfffddfanaaa
