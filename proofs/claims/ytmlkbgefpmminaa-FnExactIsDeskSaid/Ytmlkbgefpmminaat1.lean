/- Chapter 10: desks; the laws' helpers on them; FirstDesk and IsDesk. -/
import Derived.Test.YtmlkbgefpmminaaA1
import Derived.Test.YtmlkbgefpmminaaS
import Derived.Deep.RegionWith
import Derived.Deep.RegionHeld3
namespace Go.Proofs.Ytmlkbgefpmminaa
open Go.RowKit Go.BigFrame Go.Deep
set_option linter.unusedSimpArgs false
set_option linter.unusedVariables false
set_option maxRecDepth 4000

def dkV (W K : List UInt8) : Value := .agg #[.string (bs W), .string (bs K)]
def dkB (W K : List UInt8) : Bool := goodL W && goodL K

/-- A block of two cells. -/
def DuoAt (w : World) (g : Nat) (a b : Value) (T : TypeId) : Prop := w.heap[g]? = some (.cells #[a, b] T (0, 0))
structure DuoC (w : World) (g : Nat) (a b : Value) : Prop where
  c0 : w.cell? ⟨g, 0, none⟩ = some a
  c1 : w.cell? ⟨g, 1, none⟩ = some b
  f0 : w.frozen? ⟨g, 0, none⟩ = false
  f1 : w.frozen? ⟨g, 1, none⟩ = false
theorem DuoAt.cells {w : World} {g : Nat} {a b : Value} {T : TypeId} (h : DuoAt w g a b T) : DuoC w g a b := by
  unfold DuoAt at h
  refine ⟨?_, ?_, ?_, ?_⟩
  · simp only [World.cell?, h]; rfl
  · simp only [World.cell?, h]; rfl
  · simp only [World.frozen?, h]; simp
  · simp only [World.frozen?, h]; simp
theorem DuoAt.lt {w : World} {g : Nat} {a b : Value} {T : TypeId} (h : DuoAt w g a b T) : g < w.heap.size := (Array.getElem?_eq_some_iff.1 h).1
theorem DuoAt.below {w w' : World} {g : Nat} {a b : Value} {T : TypeId} (h : DuoAt w g a b T) (hb : Below w.heap.size w w') : DuoAt w' g a b T := (hb.block g h.lt).trans h
theorem duoAt_new (w : World) (a b : Value) (T : TypeId) : DuoAt (w.alloc (.cells #[a, b] T)) w.heap.size a b T := heap_alloc_new w _

theorem cloneD_any (s : ByteArray) (w : World) (hs : s.size ≤ 281474976710656) :
    Calls Try.prog 15 #[.string s] w fun e w' => e = .returned (.string s) ∧ Below w.heap.size w w' := by
  go_enter Try.func15, Try.ntmps15
  go_wp2_with fail
  refine (Try.stringslite_Clone s w hs).mono ?_
  rintro e w1 ⟨rfl, hb⟩
  have HB := Lib.hid hb; clear hb
  go_wp2_with fail
  go_ret
  exact ⟨rfl, HB.out⟩

set_option maxHeartbeats 1000000 in
theorem szDesk_any (w : World) (W K : List UInt8) (hW : W.length ≤ maxLen) (hK : K.length ≤ maxLen) :
    Calls Try.prog 8 #[dkV W K, .int .i64 1048576] w fun e w' => e = .returned (.int .i64 (if W.length + K.length ≤ 1048576 then ((1048576 - (W.length + K.length) : Nat) : Int) else -1)) ∧ Below w.heap.size w w' := by
  obtain ⟨n, hn⟩ : ∃ n, n = W.length := ⟨_, rfl⟩
  obtain ⟨m, hm⟩ : ∃ m, m = K.length := ⟨_, rfl⟩
  obtain ⟨t, ht⟩ : ∃ t, t = bs W := ⟨_, rfl⟩
  obtain ⟨u, hu⟩ : ∃ u, u = bs K := ⟨_, rfl⟩
  have htn : t.size = n := by rw [ht, bs_size, hn]
  have hum : u.size = m := by rw [hu, bs_size, hm]
  unfold dkV
  unfold maxLen at hW hK
  rw [← ht, ← hu, ← hn, ← hm]
  rw [← hn] at hW; rw [← hm] at hK
  clear hn hm ht hu
  by_cases h1 : n ≤ 1048576
  · obtain ⟨k, hk⟩ : ∃ k : Nat, (1048576 : Int) - (n : Int) = (k : Int) := ⟨1048576 - n, by omega⟩
    by_cases h2 : n + m ≤ 1048576
    · have hl : ¬ ((k : Int) - (m : Int) < 0) := by omega
      go_enter Try.func8, Try.ntmps8
      go_wp2_with fail
      go_ret
      exact ⟨ret_int (by first | omega | (rw [if_pos h2]; omega)), below_alloc _ _⟩
    · have hl : ((k : Int) - (m : Int) < 0) := by omega
      go_enter Try.func8, Try.ntmps8
      go_wp2_with fail
      go_ret
      exact ⟨ret_int (by first | rfl | rw [if_neg h2]), below_alloc _ _⟩
  · have h2 : ¬ (n + m ≤ 1048576) := by omega
    have hl : (1048576 : Int) - (n : Int) < 0 := by omega
    go_enter Try.func8, Try.ntmps8
    go_wp2_with fail
    go_ret
    exact ⟨ret_int (by first | rfl | rw [if_neg h2]), below_alloc _ _⟩

set_option maxHeartbeats 1000000 in
theorem toDesk_any (w : World) (W K : List UInt8) :
    Calls Try.prog 10 #[dkV W K] w fun e w' => e = .returned (dkV W K) ∧ Below w.heap.size w w' := by
  obtain ⟨t, ht⟩ : ∃ t, t = bs W := ⟨_, rfl⟩
  obtain ⟨u, hu⟩ : ∃ u, u = bs K := ⟨_, rfl⟩
  unfold dkV
  rw [← ht, ← hu]
  clear ht hu
  go_enter Try.func10, Try.ntmps10
  go_wp2_with fail
  refine bodyPost_ret (v := .agg #[.string t, .string u]) ?_ rfl ?_
  · simp [results, Try.results10, go_sem]
  · refine ⟨rfl, ?_⟩
    exact (((below_alloc w _).alloc (by simp) _).alloc (by simp; omega) _)

set_option maxHeartbeats 1000000 in
theorem eqDesk_same (w : World) (W K : List UInt8) :
    Calls Try.prog 7 #[dkV W K, dkV W K] w fun e w' => e = .returned (.bool true) ∧ Below w.heap.size w w' := by
  obtain ⟨t, ht⟩ : ∃ t, t = bs W := ⟨_, rfl⟩
  obtain ⟨u, hu⟩ : ∃ u, u = bs K := ⟨_, rfl⟩
  unfold dkV
  rw [← ht, ← hu]
  clear ht hu
  have hx : (t.toList != t.toList) = false := by simp
  have hy : (u.toList != u.toList) = false := by simp
  go_enter Try.func7, Try.ntmps7
  go_wp2_with fail
  go_ret
  exact ⟨rfl, (below_alloc w _).alloc (by simp) _⟩

/-- The blocks of a call with a desk, its result behind it. -/
structure DuoP (w : World) (a b : Value) (wr : World) : Prop where
  arg : DuoAt wr w.heap.size a b 23
  res : DuoAt wr (w.heap.size + 1) (.string ⟨#[]⟩) (.string ⟨#[]⟩) 23
  below : Below w.heap.size w wr
theorem duoP_new (w : World) (a b : Value) : DuoP w a b ((w.alloc (.cells #[a, b] 23)).alloc (.cells #[.string ⟨#[]⟩, .string ⟨#[]⟩] 23)) := by
  refine ⟨(duoAt_new w a b _).below (below_alloc _ _), ?_, below_trans (below_alloc _ _) (below_alloc _ _)⟩
  have := duoAt_new (w.alloc (.cells #[a, b] 23)) (.string ⟨#[]⟩) (.string ⟨#[]⟩) 23
  rwa [World.size_alloc] at this
theorem DuoP.later {w wr w2 : World} {a b : Value} (h : DuoP w a b wr) (hb : Below wr.heap.size wr w2) : DuoP w a b w2 :=
  ⟨h.arg.below hb, h.res.below hb, below_trans h.below hb⟩
/-- Two cells of the call's own, written over. -/
theorem duo_below {w w1 : World} {B g : Nat} (h : Below B w w1) (hg : B ≤ g) (a b : Value) : Below B w ((w1.setCell ⟨g, 0, none⟩ a).setCell ⟨g, 1, none⟩ b) := (h.setCell hg _).setCell hg _

set_option maxHeartbeats 1000000 in
theorem newDesk_any (w : World) (W K : List UInt8) (hW : W.length ≤ 281474976710656) (hK : K.length ≤ 281474976710656) :
    Calls Try.prog 12 #[dkV W K] w fun e w' => e = .returned (dkV W K) ∧ Below w.heap.size w w' := by
  have H1 := Lib.hid (fun (w0 : World) => cloneD_any (bs W) w0 (by rw [bs_size]; exact hW))
  have H2 := Lib.hid (fun (w0 : World) => cloneD_any (bs K) w0 (by rw [bs_size]; exact hK))
  unfold dkV
  generalize bs W = t at *
  generalize bs K = u at *
  have HT := Lib.hid (duoP_new w (.string t) (.string u))
  clear hW hK
  go_enter Try.func12, Try.ntmps12
  go_wp2_with fail
  generalize hw1 : (w.alloc (.cells #[.string t, .string u] 23)).alloc (.cells #[.string ⟨#[]⟩, .string ⟨#[]⟩] 23) = w1 at *
  clear hw1
  obtain ⟨c0, c1, _, _⟩ := HT.out.arg.cells
  go_region_with (first
    | (go_at_call 15; (with_reducible refine (H1.out _).mono ?_); rintro e w5 ⟨rfl, hb5⟩; have ht5 := HT.out.later (below_trans (below_drew _) hb5); obtain ⟨d0, d1, _, _⟩ := ht5.arg.cells; obtain ⟨r0, r1, f0, f1⟩ := ht5.res.cells; have HT5 := Lib.hid ht5; clear hb5 ht5)
    | (go_at_call 15; (with_reducible refine (H2.out _).mono ?_); rintro e w6 ⟨rfl, hb6⟩; have ht6 := HT5.out.later hb6; obtain ⟨e0, e1, _, _⟩ := ht6.arg.cells; obtain ⟨k0, k1, g0, g1⟩ := ht6.res.cells; have HT6 := Lib.hid ht6; clear hb6 ht6))
  all_goals
    go_wp2_with fail
    refine bodyPost_ret (v := .agg #[.string t, .string u]) ?_ rfl ⟨rfl, duo_below HT6.out.below (by omega) _ _⟩
    simp [results, Try.results12, go_sem, k0, k1]

set_option maxHeartbeats 1000000 in
theorem coGood_any (W K : List UInt8) (w : World) (hW : W.length ≤ maxLen) (hK : K.length ≤ maxLen) :
    Calls Try.prog 13 #[dkV W K] w fun e w' => e = .returned (.bool (dkB W K)) ∧ Below w.heap.size w w' := by
  have h1 := fun (w0 : World) => woGood_any (bs W) w0 (by rw [bs_size]; exact hW)
  have h2 := fun (w0 : World) => woGood_any (bs K) w0 (by rw [bs_size]; exact hK)
  rw [bs_list] at h1 h2
  have H1 := Lib.hid h1; have H2 := Lib.hid h2
  clear h1 h2
  unfold dkV dkB
  generalize bs W = t at *
  generalize bs K = u at *
  generalize goodL W = a at *
  generalize goodL K = b at *
  clear hW hK
  cases a <;>
  · go_enter Try.func13, Try.ntmps13
    go_wp2_with (first
      | (go_at_call 16; (with_reducible refine (H1.out _).mono ?_); rintro e w' ⟨rfl, rfl⟩)
      | (go_at_call 16; (with_reducible refine (H2.out _).mono ?_); rintro e w' ⟨rfl, rfl⟩))
    go_ret
    exact ⟨ret_bool (by simp), below_alloc _ _⟩
set_option maxHeartbeats 1000000 in
theorem implIsDesk_any (W K : List UInt8) (w : World) (hW : W.length ≤ maxLen) (hK : K.length ≤ maxLen) :
    Calls Try.prog 11 #[dkV W K] w fun e w' => e = .returned (.bool (dkB W K)) ∧ Below w.heap.size w w' := by
  have h1 := fun (w0 : World) => implIsWord_any (bs W) w0 (by rw [bs_size]; exact hW)
  have h2 := fun (w0 : World) => implIsWord_any (bs K) w0 (by rw [bs_size]; exact hK)
  rw [bs_list] at h1 h2
  have H1 := Lib.hid h1; have H2 := Lib.hid h2
  clear h1 h2
  unfold dkV dkB
  generalize bs W = t at *
  generalize bs K = u at *
  generalize goodL W = a at *
  generalize goodL K = b at *
  clear hW hK
  cases a <;>
  · go_enter Try.func11, Try.ntmps11
    go_wp2_with (first
      | (go_at_call 14; (with_reducible refine (H1.out _).mono ?_); rintro e w' ⟨rfl, rfl⟩)
      | (go_at_call 14; (with_reducible refine (H2.out _).mono ?_); rintro e w' ⟨rfl, rfl⟩))
    go_ret
    exact ⟨ret_bool (by simp), below_alloc _ _⟩
theorem specIsDesk_any (W K : List UInt8) (w : World) (hW : W.length ≤ maxLen) (hK : K.length ≤ maxLen) :
    Calls Try.prog 9 #[dkV W K] w fun e w' => e = .returned (.bool (dkB W K)) ∧ Below w.heap.size w w' := by
  have H := Lib.hid (fun W' => coGood_any W K W' hW hK)
  generalize dkB W K = b at *
  generalize hv : dkV W K = v at *
  unfold dkV at hv
  subst hv
  go_enter Try.func9, Try.ntmps9
  go_wp2_with fail
  refine (H.out _).mono ?_
  rintro e w1 ⟨rfl, hb⟩
  have HB := Lib.hid hb; clear hb
  go_wp2_with fail
  go_ret
  exact ⟨rfl, below_trans (below_alloc _ _) HB.out⟩
set_option maxHeartbeats 4000000 in
theorem law_IsDesk (W K : List UInt8) (w : World) (hW : W.length ≤ maxLen) (hK : K.length ≤ maxLen) :
    Calls Try.prog 4 #[dkV W K] w fun e w' => e = .returned (.bool true) ∧ Below w.heap.size w w' := by
  have hsz := fun (W0 : World) => szDesk_any W0 W K hW hK
  obtain ⟨t, ht⟩ : ∃ t, t = bs W := ⟨_, rfl⟩
  obtain ⟨u, hu⟩ : ∃ u, u = bs K := ⟨_, rfl⟩
  by_cases hn : W.length + K.length ≤ 1048576
  · obtain ⟨m, hm⟩ : ∃ m : Nat, m = 1048576 - (W.length + K.length) := ⟨_, rfl⟩
    simp only [if_pos hn, ← hm] at hsz
    have hT := fun (W0 : World) => toDesk_any W0 W K
    have hSP := fun (W0 : World) => specIsDesk_any W K W0 hW hK
    have hIM := fun (W0 : World) => implIsDesk_any W K W0 hW hK
    obtain ⟨r0, hr0⟩ : ∃ r, r = dkB W K := ⟨_, rfl⟩
    simp only [dkV, ← ht, ← hu, ← hr0] at hsz hT hSP hIM ⊢
    have HSZ := Lib.hid hsz; have HT := Lib.hid hT; have HSP := Lib.hid hSP; have HIM := Lib.hid hIM
    have e0 : (r0 != r0) = false := by simp
    clear hsz hT hSP hIM hm hn ht hu hW hK hr0
    go_enter Try.func4, Try.ntmps4
    go_wp2_with fail
    refine (HSZ.out _).mono ?_
    rintro e w1 ⟨rfl, hb⟩
    have hx1 := (duoAt_new w (.string t) (.string u) 27).below hb
    have HB1 := Lib.hid (below_trans (below_alloc _ _) hb)
    obtain ⟨c0, c1, _, _⟩ := hx1.cells
    have HX1 := Lib.hid hx1; clear hb hx1
    go_wp2_with fail
    refine (HT.out _).mono ?_
    rintro e w2 ⟨rfl, hb⟩
    have hx2 := HX1.out.below hb
    have HB2 := Lib.hid (below_trans HB1.out hb)
    obtain ⟨d0, d1, _, _⟩ := hx2.cells
    have HX2 := Lib.hid hx2; clear hb hx2 c0 c1
    go_wp2_with fail
    refine (HSP.out _).mono ?_
    rintro e w3 ⟨rfl, hb⟩
    have hx3 := HX2.out.below hb
    have HB3 := Lib.hid (below_trans HB2.out hb)
    obtain ⟨c0, c1, _, _⟩ := hx3.cells
    clear hb hx3 d0 d1
    go_wp2_with fail
    refine (HT.out _).mono ?_
    rintro e w4 ⟨rfl, hb⟩
    have HB4 := Lib.hid (below_trans HB3.out hb)
    clear hb c0 c1
    go_wp2_with fail
    refine (HIM.out _).mono ?_
    rintro e w5 ⟨rfl, hb⟩
    have HB5 := Lib.hid (below_trans HB4.out hb)
    clear hb
    go_wp2_with fail
    go_ret
    exact ⟨rfl, HB5.out⟩
  · simp only [if_neg hn] at hsz
    simp only [dkV, ← ht, ← hu] at hsz ⊢
    have HSZ := Lib.hid hsz
    clear hsz ht hu
    go_enter Try.func4, Try.ntmps4
    go_wp2_with fail
    refine (HSZ.out _).mono ?_
    rintro e w1 ⟨rfl, hb⟩
    have HB := Lib.hid hb; clear hb
    go_wp2_with fail
    go_ret
    exact ⟨rfl, below_trans (below_alloc _ _) HB.out⟩
theorem specFirstDesk_any (w : World) :
    Calls Try.prog 5 #[] w fun e w' => e = .returned (dkV [49] [50, 50]) ∧ Below w.heap.size w w' := by
  go_enter Try.func5, Try.ntmps5
  go_wp2_with fail
  refine bodyPost_ret (v := dkV [49] [50, 50]) ?_ rfl ⟨rfl, ?_⟩
  · simp [results, Try.results5, go_sem]
    rfl
  · exact below_alloc _ _

theorem implFirstDesk_any (w : World) :
    Calls Try.prog 6 #[] w fun e w' => e = .returned (dkV [49] [50, 50]) ∧ Below w.heap.size w w' := by
  have HN := Lib.hid (fun (w0 : World) => newDesk_any w0 [49] [50, 50] (by decide) (by decide))
  have HE := Lib.hid (show Value.agg #[.string ⟨#[49]⟩, .string ⟨#[50, 50]⟩] = dkV [49] [50, 50] from rfl)
  have HD := Lib.hid (duoAt_new w (.string ⟨#[]⟩) (.string ⟨#[]⟩) 23)
  go_enter Try.func6, Try.ntmps6
  go_wp2_with fail
  refine (HN.out _).mono ?_
  rintro e w1 ⟨rfl, hb⟩
  obtain ⟨c0, c1, f0, f1⟩ := (HD.out.below hb).cells
  have HB := Lib.hid (below_trans (below_alloc _ _) hb); clear hb
  rw [← HE.out]
  go_wp2_with fail
  refine bodyPost_ret (v := .agg #[.string ⟨#[49]⟩, .string ⟨#[50, 50]⟩]) ?_ rfl ⟨HE.out ▸ rfl, duo_below HB.out (Nat.le_refl _) _ _⟩
  simp [results, Try.results6, go_sem, c0, c1]
theorem law_FirstDesk (w : World) :
    Calls Try.prog 3 #[] w fun e w' => e = .returned (.bool true) ∧ Below w.heap.size w w' := by
  have H1 := Lib.hid (fun (w0 : World) => specFirstDesk_any w0)
  have H2 := Lib.hid (fun (w0 : World) => implFirstDesk_any w0)
  have H3 := Lib.hid (fun (w0 : World) => eqDesk_same w0 [49] [50, 50])
  unfold dkV at H1 H2 H3
  generalize bs [49] = t at *
  generalize bs [50, 50] = u at *
  go_enter Try.func3, Try.ntmps3
  go_wp2_with fail
  refine (H1.out _).mono ?_
  rintro e w1 ⟨rfl, hb1⟩
  have HB1 := Lib.hid hb1; clear hb1
  go_wp2_with fail
  refine (H2.out _).mono ?_
  rintro e w2 ⟨rfl, hb2⟩
  have hd := (duoAt_new w1 (.string t) (.string u) 23).below hb2
  obtain ⟨c0, c1, _, _⟩ := hd.cells
  have HD := Lib.hid hd
  have HB2 := Lib.hid (below_trans HB1.out (below_trans (below_alloc _ _) hb2)); clear hb2 hd
  have hlt := HD.out.lt
  go_wp2_with fail
  refine (H3.out _).mono ?_
  rintro e w3 ⟨rfl, hb3⟩
  have HB3 := Lib.hid (below_trans HB2.out (below_trans (below_alloc _ _) hb3)); clear hb3
  go_wp2_with fail
  go_ret
  exact ⟨rfl, HB3.out⟩
end Go.Proofs.Ytmlkbgefpmminaa
