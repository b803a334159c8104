/- The laws WayOfWord and WayOfInventory. -/
import Derived.Test.YtfkaghiopnaghaaT12
import Derived.Test.YtfkaghiopnaghaaE3
namespace Go.Proofs.Ytfkaghiopnaghaa
open Go.RowKit Go.BigFrame
set_option linter.unusedSimpArgs false
set_option linter.unusedVariables false
set_option maxRecDepth 4000

theorem wayGO_len (f : List UInt8 → Option (List UInt8)) (M : Int) (l : List UInt8) (n : Int) (h0 : 0 ≤ M) : (((wayGO f M l n).getD []).length : Int) ≤ M + 1 := by
  unfold wayGO
  split
  · rename_i h
    cases hw : wayG f n.toNat l with
    | none => simp; omega
    | some ls => have := wayG_len f _ _ _ hw; simp; omega
  · simp; omega
theorem specWord_any (s : ByteArray) (n : Int) (w : World) (hs : s.size ≤ maxLen) :
    Calls Try.prog 28 #[.string s, .int .i64 n] w fun e w' => StrsOk (wayGO saidO 20 s.data.toList n) w w' e := by
  unfold wayGO
  by_cases h : goodL s.data.toList = true ∧ 0 ≤ n ∧ n ≤ 20
  · rw [if_pos h]; exact specWord_good s n w hs h.1 h.2.1 h.2.2
  · rw [if_neg h]; exact specWord_bad s n w hs h
theorem implWord_any (s : ByteArray) (n : Int) (w : World) (hs : s.size ≤ maxLen) :
    Calls Try.prog 29 #[.string s, .int .i64 n] w fun e w' => StrsOk (wayGO saidO 20 s.data.toList n) w w' e := by
  unfold wayGO
  by_cases h : goodL s.data.toList = true ∧ 0 ≤ n ∧ n ≤ 20
  · rw [if_pos h]; exact implWord_good s n w hs h.1 h.2.1 h.2.2
  · rw [if_neg h]; exact implWord_bad s n w hs h
set_option maxHeartbeats 1000000 in
theorem law_WayOfWord (s : ByteArray) (n : Int) (w : World) (hs : s.size ≤ maxLen) :
    Calls Try.prog 8 #[.string s, .int .i64 n] w fun e w' => e = .returned (.bool true) ∧ Below w.heap.size w w' := by
  by_cases hb : 1048576 < s.size
  · go_enter Try.func8, Try.ntmps8
    go_wp2_with fail
    go_ret
    exact ⟨rfl, Below.refl _ _⟩
  · obtain ⟨o, ho⟩ : ∃ o, o = wayGO saidO 20 s.data.toList n := ⟨_, rfl⟩
    have hlen : (o.getD []).length ≤ 21 := by rw [ho]; have := wayGO_len saidO 20 s.data.toList n (by omega); omega
    obtain ⟨y, hy⟩ : ∃ y, y = o.isSome := ⟨_, rfl⟩
    obtain ⟨ls, hls⟩ : ∃ ls, ls = o.getD [] := ⟨_, rfl⟩
    obtain ⟨tt, ht⟩ : ∃ tt, tt = 1 + ls.length := ⟨_, rfl⟩
    have ht2 : tt ≤ 22 := by rw [ht, hls]; omega
    have ht1 : 1 ≤ tt := by omega
    have e1 : ((tt : Int) != (tt : Int)) = false := by simp
    have e2 : (y != y) = false := by simp
    have hspec := fun (W : World) => specWord_any s n W hs
    have himpl := fun (W : World) => implWord_any s n W hs
    rw [← ho] at hspec himpl
    have hopen : ∀ (W W' : World) (e : Ending), StrsOk o W W' e → ∃ v, e = .returned (.tuple #[v, .bool y]) ∧ Strs W' W.heap.size v ls ∧ Below W.heap.size W W' := by
      rintro W W' e ⟨v, h1, h2, h3, _⟩
      exact ⟨v, by rw [hy]; exact h1, by rw [hls]; exact h2, h3⟩
    have HS := Lib.hid hspec; have HI := Lib.hid himpl; have HO := Lib.hid hopen; have HT := Lib.hid ht; have HTT := Lib.hid ht2
    clear hy hls ht ho hlen hspec himpl hopen
    go_enter Try.func8, Try.ntmps8
    go_wp2_with fail
    refine (HS.out w).mono ?_
    intro e w1 h1
    obtain ⟨v0, rfl, h2, h3⟩ := HO.out _ _ _ h1
    have A1 := Lib.hid h2; have B1 := Lib.hid h3; clear h1 h2 h3
    go_wp2_with fail
    refine (HI.out w1).mono ?_
    intro e w2 h1
    obtain ⟨v1, rfl, h2, h3⟩ := HO.out _ _ _ h1
    have A2 := Lib.hid h2; have B2 := Lib.hid h3; clear h1 h2 h3
    go_wp2_with fail
    refine (eqStringS_same w2 _ _ v1 v0 ls A2.out (own_below A1.out B2.out)).mono ?_
    rintro e w3 ⟨rfl, h3⟩
    have B3 := Lib.hid h3; clear h3
    go_wp2_with fail
    refine (markStringS_any w3 _ 1 v1 ls (own_below A2.out B3.out) (Nat.le_trans B2.out.size B3.out.size) (by have h1 := HT.out; have h2 := HTT.out; omega)).mono ?_
    rintro e w4 ⟨rfl, h4, h5⟩
    rw [← HT.out]
    have A4 := Lib.hid h4; have B4 := Lib.hid h5; clear h4 h5
    go_wp2_with fail
    refine (heldStringS_any w4 _ 1 _ v1 A4.out (by have h1 := HT.out; have h2 := HTT.out; omega)).mono ?_
    rintro e w5 ⟨rfl, h5⟩
    rw [← HT.out]
    have B5 := Lib.hid h5; clear h5
    go_wp2_with fail
    refine (HI.out w5).mono ?_
    intro e w6 h1
    obtain ⟨v6, rfl, h2, h3⟩ := HO.out _ _ _ h1
    have A6 := Lib.hid h2; have B6 := Lib.hid h3; clear h1 h2 h3
    go_wp2_with fail
    have C6 := Lib.hid (below_trans (below_trans ((below_trans B2.out B3.out).trans B4.out) B5.out) B6.out)
    have A1' : Hid (Strs w6 w.heap.size v0 ls) := own_below A1.out C6.out
    refine (eqStringS_same w6 _ _ v6 v0 ls A6.out A1'.out).mono ?_
    rintro e w7 ⟨rfl, h7⟩
    have B7 := Lib.hid h7; clear h7
    go_wp2_with fail
    refine (heldStringS_any w7 _ 1 _ v1 (own_below A4.out (below_trans B5.out (below_trans B6.out B7.out))) (by have h1 := HT.out; have h2 := HTT.out; omega)).mono ?_
    rintro e w8 ⟨rfl, h8⟩
    rw [← HT.out]
    have B8 := Lib.hid h8; clear h8
    go_wp2_with fail
    go_ret
    exact ⟨rfl, below_trans B1.out (below_trans C6.out (below_trans B7.out B8.out))⟩

theorem specInventory_any (s : ByteArray) (n : Int) (w : World) (hs : s.size ≤ maxLen) :
    Calls Try.prog 23 #[.string s, .int .i64 n] w fun e w' => StrsOk (wayGO invO 40 s.data.toList n) w w' e := by
  unfold wayGO
  by_cases h : goodL s.data.toList = true ∧ 0 ≤ n ∧ n ≤ 40
  · rw [if_pos h]; exact specInventory_good s n w hs h.1 h.2.1 h.2.2
  · rw [if_neg h]; exact specInventory_bad s n w hs h
theorem implInventory_any (s : ByteArray) (n : Int) (w : World) (hs : s.size ≤ maxLen) :
    Calls Try.prog 24 #[.string s, .int .i64 n] w fun e w' => StrsOk (wayGO invO 40 s.data.toList n) w w' e := by
  unfold wayGO
  by_cases h : goodL s.data.toList = true ∧ 0 ≤ n ∧ n ≤ 40
  · rw [if_pos h]; exact implInventory_good s n w hs h.1 h.2.1 h.2.2
  · rw [if_neg h]; exact implInventory_bad s n w hs h
set_option maxHeartbeats 1000000 in
theorem law_WayOfInventory (s : ByteArray) (n : Int) (w : World) (hs : s.size ≤ maxLen) :
    Calls Try.prog 7 #[.string s, .int .i64 n] w fun e w' => e = .returned (.bool true) ∧ Below w.heap.size w w' := by
  by_cases hb : 1048576 < s.size
  · go_enter Try.func7, Try.ntmps7
    go_wp2_with fail
    go_ret
    exact ⟨rfl, Below.refl _ _⟩
  · obtain ⟨o, ho⟩ : ∃ o, o = wayGO invO 40 s.data.toList n := ⟨_, rfl⟩
    have hlen : (o.getD []).length ≤ 41 := by rw [ho]; have := wayGO_len invO 40 s.data.toList n (by omega); omega
    obtain ⟨y, hy⟩ : ∃ y, y = o.isSome := ⟨_, rfl⟩
    obtain ⟨ls, hls⟩ : ∃ ls, ls = o.getD [] := ⟨_, rfl⟩
    obtain ⟨tt, ht⟩ : ∃ tt, tt = 1 + ls.length := ⟨_, rfl⟩
    have ht2 : tt ≤ 42 := by rw [ht, hls]; omega
    have ht1 : 1 ≤ tt := by omega
    have e1 : ((tt : Int) != (tt : Int)) = false := by simp
    have e2 : (y != y) = false := by simp
    have hspec := fun (W : World) => specInventory_any s n W hs
    have himpl := fun (W : World) => implInventory_any s n W hs
    rw [← ho] at hspec himpl
    have hopen : ∀ (W W' : World) (e : Ending), StrsOk o W W' e → ∃ v, e = .returned (.tuple #[v, .bool y]) ∧ Strs W' W.heap.size v ls ∧ Below W.heap.size W W' := by
      rintro W W' e ⟨v, h1, h2, h3, _⟩
      exact ⟨v, by rw [hy]; exact h1, by rw [hls]; exact h2, h3⟩
    have HS := Lib.hid hspec; have HI := Lib.hid himpl; have HO := Lib.hid hopen; have HT := Lib.hid ht; have HTT := Lib.hid ht2
    clear hy hls ht ho hlen hspec himpl hopen
    go_enter Try.func7, Try.ntmps7
    go_wp2_with fail
    refine (HS.out w).mono ?_
    intro e w1 h1
    obtain ⟨v0, rfl, h2, h3⟩ := HO.out _ _ _ h1
    have A1 := Lib.hid h2; have B1 := Lib.hid h3; clear h1 h2 h3
    go_wp2_with fail
    refine (HI.out w1).mono ?_
    intro e w2 h1
    obtain ⟨v1, rfl, h2, h3⟩ := HO.out _ _ _ h1
    have A2 := Lib.hid h2; have B2 := Lib.hid h3; clear h1 h2 h3
    go_wp2_with fail
    refine (eqStringS_same w2 _ _ v1 v0 ls A2.out (own_below A1.out B2.out)).mono ?_
    rintro e w3 ⟨rfl, h3⟩
    have B3 := Lib.hid h3; clear h3
    go_wp2_with fail
    refine (markStringS_any w3 _ 1 v1 ls (own_below A2.out B3.out) (Nat.le_trans B2.out.size B3.out.size) (by have h1 := HT.out; have h2 := HTT.out; omega)).mono ?_
    rintro e w4 ⟨rfl, h4, h5⟩
    rw [← HT.out]
    have A4 := Lib.hid h4; have B4 := Lib.hid h5; clear h4 h5
    go_wp2_with fail
    refine (heldStringS_any w4 _ 1 _ v1 A4.out (by have h1 := HT.out; have h2 := HTT.out; omega)).mono ?_
    rintro e w5 ⟨rfl, h5⟩
    rw [← HT.out]
    have B5 := Lib.hid h5; clear h5
    go_wp2_with fail
    refine (HI.out w5).mono ?_
    intro e w6 h1
    obtain ⟨v6, rfl, h2, h3⟩ := HO.out _ _ _ h1
    have A6 := Lib.hid h2; have B6 := Lib.hid h3; clear h1 h2 h3
    go_wp2_with fail
    have C6 := Lib.hid (below_trans (below_trans ((below_trans B2.out B3.out).trans B4.out) B5.out) B6.out)
    have A1' : Hid (Strs w6 w.heap.size v0 ls) := own_below A1.out C6.out
    refine (eqStringS_same w6 _ _ v6 v0 ls A6.out A1'.out).mono ?_
    rintro e w7 ⟨rfl, h7⟩
    have B7 := Lib.hid h7; clear h7
    go_wp2_with fail
    refine (heldStringS_any w7 _ 1 _ v1 (own_below A4.out (below_trans B5.out (below_trans B6.out B7.out))) (by have h1 := HT.out; have h2 := HTT.out; omega)).mono ?_
    rintro e w8 ⟨rfl, h8⟩
    rw [← HT.out]
    have B8 := Lib.hid h8; clear h8
    go_wp2_with fail
    go_ret
    exact ⟨rfl, below_trans B1.out (below_trans C6.out (below_trans B7.out B8.out))⟩

end Go.Proofs.Ytfkaghiopnaghaa
