/- What is said of a word: the model's woSay, woSaid. -/
import Derived.Test.YtkdoghopbefjfaaA4
namespace Go.Proofs.Ytkdoghopbefjfaa
open Go.RowKit Go.BigFrame
set_option linter.unusedSimpArgs false
set_option linter.unusedVariables false
set_option maxRecDepth 4000

def sayP (p : UInt8 × Nat) : List UInt8 := numL p.2 ++ numL (p.1.toNat - 48)
def sayR (rs : List (UInt8 × Nat)) : List UInt8 := rs.flatMap sayP
def sayL (l : List UInt8) : List UInt8 := sayR (runsL l)
theorem sayR_snoc (rs : List (UInt8 × Nat)) (k : Nat) (h : k < rs.length) : sayR (rs.take (k + 1)) = sayR (rs.take k) ++ (numL rs[k].2 ++ numL (rs[k].1.toNat - 48)) := by
  rw [sayR, List.take_succ_eq_append_getElem h, List.flatMap_append]; simp [sayR, sayP]
/-- Every run of a word of digits is of a digit. -/
theorem stepRun_mem (acc : List (UInt8 × Nat)) (c : UInt8) (P : UInt8 → Prop) (h : ∀ p ∈ acc, P p.1) (hc : P c) : ∀ p ∈ stepRun acc c, P p.1 := by
  unfold stepRun
  split
  · split
    · rename_i d n h1 h2
      intro p hp
      rw [List.mem_append] at hp
      rcases hp with hp | hp
      · exact h p (List.dropLast_subset _ hp)
      · simp at hp; subst hp; subst h2; exact hc
    · intro p hp
      rw [List.mem_append] at hp
      rcases hp with hp | hp
      · exact h p hp
      · simp at hp; subst hp; exact hc
  · intro p hp; simp at hp; subst hp; exact hc
theorem runsL_mem (P : UInt8 → Prop) : ∀ (l : List UInt8), (∀ c ∈ l, P c) → ∀ p ∈ runsL l, P p.1 := by
  intro l
  induction h : l.length generalizing l with
  | zero => intro _ p hp; have : l = [] := List.eq_nil_of_length_eq_zero h; subst this; simp [runsL] at hp
  | succ n ih =>
    intro hl
    have hne : l ≠ [] := by intro e; simp [e] at h
    have hd := List.dropLast_concat_getLast hne
    rw [← hd, runsL_snoc]
    exact stepRun_mem _ _ P (ih l.dropLast (by simp [h]) (fun c hc => hl c (List.dropLast_subset _ hc))) (hl _ (List.getLast_mem hne))
theorem runs_dig {l : List UInt8} (h : l.all digB = true) {k : Nat} (hk : k < (runsL l).length) : 49 ≤ (runsL l)[k].1.toNat ∧ (runsL l)[k].1.toNat ≤ 57 := by
  have := runsL_mem (fun c => 49 ≤ c.toNat ∧ c.toNat ≤ 57) l (fun c hc => by simpa [digB] using List.all_eq_true.1 h c hc) _ (List.getElem_mem hk)
  exact this
theorem le_sum_of_mem (rs : List (UInt8 × Nat)) (p : UInt8 × Nat) (h : p ∈ rs) : p.2 ≤ (rs.map (·.2)).sum := by
  induction rs with
  | nil => simp at h
  | cons a r ih =>
    simp only [List.map_cons, List.sum_cons]
    rcases List.mem_cons.1 h with rfl | h
    · omega
    · have := ih h; omega
theorem runs_cnt {l : List UInt8} {k : Nat} (hk : k < (runsL l).length) : (runsL l)[k].2 ≤ l.length := by
  rw [← runsL_sum l]
  exact le_sum_of_mem _ _ (List.getElem_mem hk)

set_option maxHeartbeats 2000000 in
theorem woSay_any (s : ByteArray) (w : World) (h1 : 1 ≤ s.size) (hs : s.size ≤ 400) (hd : s.data.toList.all digB = true) :
    Calls Try.prog 105 #[.string s] w fun e w' => e = .returned (.string (bs (sayL s.data.toList))) ∧ Below w.heap.size w w' := by
  go_enter Try.func105, Try.ntmps105
  go_wp2_with fail
  refine (woRuns_any s w hs hd).mono ?_
  rintro e w1 ⟨v, vs, rfl, hrr, hb⟩
  have HB := Lib.hid hb
  obtain ⟨rs, hrs⟩ : ∃ rs, rs = runsL s.data.toList := ⟨_, rfl⟩
  have hrows : rowsL s.data.toList = rs.map rowOf := by rw [hrs]; rfl
  have hsay : sayL s.data.toList = sayR rs := by rw [hrs]; rfl
  have hN4 : rs.length ≤ 400 := by rw [hrs]; exact Nat.le_trans (runsL_len _) (by simpa using hs)
  have hdg : ∀ k (h : k < rs.length), 49 ≤ rs[k].1.toNat ∧ rs[k].1.toNat ≤ 57 ∧ rs[k].2 ≤ 400 := by
    subst hrs; intro k h
    exact ⟨(runs_dig hd h).1, (runs_dig hd h).2, Nat.le_trans (runs_cnt h) (by simpa using hs)⟩
  have HD := Lib.hid hdg
  rw [hrows] at hrr
  have HX := Lib.hid hrr
  rcases ownsRR_open hrr with ⟨_, _, hx⟩ | ⟨g, cap, rfl, hc1, hc2, _, hgs, hcell⟩
  · exact absurd hx (by simp [hrs]; exact runsL_ne (by simpa using h1))
  · have hat : ∀ k (h : k < rs.length), ∃ b c, b < w1.heap.size ∧ w1.cell? ⟨g, k, none⟩ = some (.slice (some ⟨b, 0, none⟩) 2 c) ∧ w1.cell? ⟨b, 0, none⟩ = some (.int .i64 ((rs[k].1.toNat : Int) - 48)) ∧ w1.cell? ⟨b, 1, none⟩ = some (.int .i64 (rs[k].2 : Int)) := by
      intro k h
      obtain ⟨b, c, e1, e2, e3⟩ := ownsRR_at2 hrr (i := k) (x := .int .i64 ((rs[k].1.toNat : Int) - 48)) (y := .int .i64 (rs[k].2 : Int)) (by simp [h, rowOf])
      exact ⟨b, c, World.block_lt_of_cell? w1 _ e2, hcell k (by simpa using h) _ e1, e2, e3⟩
    have HA := Lib.hid hat
    have HL := Lib.hid hsay
    simp only [List.length_map] at hc1 ⊢
    obtain ⟨N, hN⟩ : ∃ N, N = rs.length := ⟨_, rfl⟩
    simp only [← hN] at hc1 hN4 ⊢
    have HN := Lib.hid hN
    clear hrr hb hsay hrows hrs hcell hat hN hdg
    go_wp2_with fail
    go_loopw [3, 9] (fun o i wr => ∃ (k : Nat) (t : ByteArray), k ≤ N ∧ i = .int .i64 k ∧ o = .string t ∧ t.size ≤ 40 * k ∧ Hid (t.data.toList = sayR (rs.take k)) ∧ Hid (Below w1.heap.size w1 wr)) (fun _ i _ => N - (intOf i).toNat)
    case atStart => exact ⟨0, bs [], Nat.zero_le _, rfl, rfl, by simp [bs_size], by rw [bs_list]; exact rfl, below_refl _⟩
    case round =>
      obtain ⟨k, t, hk, rfl, rfl, ht, HT, HW⟩ := hrel
      by_cases hlt : k < N
      · have hlt' : k < rs.length := by rw [← HN.out]; exact hlt
        obtain ⟨b, c, hbs, hc0, hc1', hc2'⟩ := HA.out k hlt'
        obtain ⟨hd1, hd2, hd3⟩ := HD.out k hlt'
        have hsn := Lib.hid (sayR_snoc rs k hlt')
        obtain ⟨d, hdd⟩ : ∃ d, d = rs[k].1.toNat := ⟨_, rfl⟩
        obtain ⟨n, hnn⟩ : ∃ n, n = rs[k].2 := ⟨_, rfl⟩
        simp only [← hdd, ← hnn] at hc1' hc2' hd1 hd2 hd3
        have HDD := Lib.hid hdd; have HNN := Lib.hid hnn; clear hdd hnn
        have hr0 : wr.cell? ⟨g, k, none⟩ = some (.slice (some ⟨b, 0, none⟩) 2 c) := (HW.out.cell (p := ⟨g, k, none⟩) hgs).trans hc0
        have hr1 : wr.cell? ⟨b, 0, none⟩ = some (.int .i64 ((d : Int) - 48)) := (HW.out.cell (p := ⟨b, 0, none⟩) hbs).trans hc1'
        have hr2 : wr.cell? ⟨b, 1, none⟩ = some (.int .i64 (n : Int)) := (HW.out.cell (p := ⟨b, 1, none⟩) hbs).trans hc2'
        have hbr : b < wr.heap.size := Nat.lt_of_lt_of_le hbs HW.out.size
        have hl1 := numL_len19 n (by omega)
        have hl2 := numL_len19 (d - 48) (by omega)
        rw [← bs_size] at hl1 hl2
        clear hc0 hc1' hc2' hbs
        have hn1 := fun (W : World) => l1Num_any n (n : Int) W (by omega) (by omega) (by omega)
        have hn2 := fun (W : World) => l1Num_any d ((d : Int) - 48) W (by omega) (by omega) (by omega)
        rw [show ((n : Int)).toNat = n from by omega] at hn1
        rw [show ((d : Int) - 48).toNat = d - 48 from by omega] at hn2
        have H1 := Lib.hid hn1; have H2 := Lib.hid hn2; clear hn1 hn2
        go_wp2_with fail
        go_region_with (go_at_call 96; first
          | ((with_reducible refine (H1.out _).mono ?_); rintro e w2 ⟨rfl, hb1⟩; try (have hb1c := (hb1.cell (p := ⟨b, 0, none⟩) hbr).trans hr1))
          | ((with_reducible refine (H2.out _).mono ?_); rintro e w3 ⟨rfl, hb2⟩; try (have hb2c := (hb2.cell (p := ⟨b, 1, none⟩) hbr).trans hr2)))
        all_goals
          go_wp2_with fail
          go_roundw
          case rel =>
            refine ⟨k + 1, _, by omega, by go_num, rfl, ?_, ?_, ?_⟩
            · simp only [ByteArray.size_append]; omega
            · rw [list_append, list_append, HT.out, bs_list, bs_list, hsn.out, HDD.out, HNN.out]; exact rfl
            · first
                | exact below_trans HW.out (below_trans (below_drew _) (below_trans hb1 hb2))
                | exact below_trans HW.out (below_trans (below_drew _) (below_trans hb2 hb1))
          case measure => simp [intOf] <;> omega

      · obtain rfl : k = N := by omega
        go_wp2
        go_ret
        exact ⟨ret_str (bs_eq (by rw [HT.out, HL.out, List.take_of_length_le (by rw [← HN.out]; exact Nat.le_refl _)])), HB.out.trans (HW.out.mono HB.out.size)⟩

/-- What is said of a text, if it is a speakable word and this is a word. -/
def saidO (l : List UInt8) : Option (List UInt8) := if speakL l = true ∧ goodL (sayL l) = true then some (sayL l) else none
/-- A text and a bool, or the empty text and false. -/
def strOk : Option (List UInt8) → Value
  | some l => .tuple #[.string (bs l), .bool true]
  | none => .tuple #[.string ⟨#[]⟩, .bool false]
theorem sayR_len (rs : List (UInt8 × Nat)) (h : ∀ p ∈ rs, p.2 ≤ 400) : (sayR rs).length ≤ 40 * rs.length := by
  induction rs with
  | nil => simp [sayR]
  | cons p r ih =>
    have h1 := ih (fun q hq => h q (List.mem_cons_of_mem _ hq))
    have h2 := numL_len19 p.2 (by have := h p List.mem_cons_self; omega)
    have h3 := numL_len19 (p.1.toNat - 48) (by have := p.1.toNat_lt; omega)
    simp only [sayR, List.flatMap_cons, List.length_append, List.length_cons, sayP] at *
    omega

end Go.Proofs.Ytkdoghopbefjfaa
