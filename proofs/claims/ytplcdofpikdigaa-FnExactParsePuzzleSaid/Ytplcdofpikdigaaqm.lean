/- Chapter 9: texts of puzzles are read. -/
import Derived.Test.Ytplcdofpikdigaaql
import Derived.Test.Ytplcdofpikdigaaq3
import Derived.Deep.RegionWith
import Derived.Deep.RegionHeld3
namespace Go.Proofs.Ytplcdofpikdigaa
open Go.RowKit Go.BigFrame Go.Deep
set_option linter.unusedSimpArgs false
set_option linter.unusedVariables false
set_option maxRecDepth 4000

/-- The parts of a text that may be a puzzle's. -/
def prsL (l : List UInt8) : Option (List UInt8 × List UInt8 × UInt8) :=
  match splitL 58 l with
  | [a, b, [c]] => some (a, b, c)
  | _ => none
def rBParsePuzzle (l : List UInt8) : Bool := match prsL l with
  | some (a, b, c) => pzB a b ((c.toNat : Int) - 48)
  | none => false
def rWParsePuzzle (l : List UInt8) : List UInt8 := if rBParsePuzzle l = true then (match prsL l with | some (a, _, _) => a | none => []) else []
def rSParsePuzzle (l : List UInt8) : List UInt8 := if rBParsePuzzle l = true then (match prsL l with | some (_, b, _) => b | none => []) else []
def rDParsePuzzle (l : List UInt8) : Int := if rBParsePuzzle l = true then (match prsL l with | some (_, _, c) => (c.toNat : Int) - 48 | none => 0) else 0
theorem prs_some {l a b : List UInt8} {c : UInt8} (h : prsL l = some (a, b, c)) :
    rBParsePuzzle l = pzB a b ((c.toNat : Int) - 48) ∧ rWParsePuzzle l = (if pzB a b ((c.toNat : Int) - 48) = true then a else []) ∧ rSParsePuzzle l = (if pzB a b ((c.toNat : Int) - 48) = true then b else []) ∧ rDParsePuzzle l = (if pzB a b ((c.toNat : Int) - 48) = true then (c.toNat : Int) - 48 else 0) := by
  unfold rWParsePuzzle rSParsePuzzle rDParsePuzzle rBParsePuzzle
  rw [h]
  exact ⟨rfl, rfl, rfl, rfl⟩
theorem prs_none {l : List UInt8} (h : prsL l = none) : rBParsePuzzle l = false ∧ rWParsePuzzle l = [] ∧ rSParsePuzzle l = [] ∧ rDParsePuzzle l = 0 := by
  unfold rWParsePuzzle rSParsePuzzle rDParsePuzzle rBParsePuzzle
  rw [h]
  exact ⟨rfl, rfl, rfl, rfl⟩
/-- What becomes of the parts: not three; the third not of one sign; as asked. -/
theorem prs_cases (l : List UInt8) : ((splitL 58 l).length ≠ 3 ∧ prsL l = none) ∨
    (∃ a b e, splitL 58 l = [a, b, e] ∧ e.length ≠ 1 ∧ prsL l = none) ∨ (∃ a b c, splitL 58 l = [a, b, [c]] ∧ prsL l = some (a, b, c)) := by
  unfold prsL
  match h : splitL 58 l with
  | [] => exact .inl ⟨by simp, rfl⟩
  | [a] => exact .inl ⟨by simp, rfl⟩
  | [a, b] => exact .inl ⟨by simp, rfl⟩
  | [a, b, []] => exact .inr (.inl ⟨a, b, [], rfl, by simp, rfl⟩)
  | [a, b, [c]] => exact .inr (.inr ⟨a, b, c, rfl, rfl⟩)
  | [a, b, c :: d :: r] => exact .inr (.inl ⟨a, b, c :: d :: r, rfl, by simp, rfl⟩)
  | a :: b :: c :: d :: r =>
    refine .inl ⟨by simp, ?_⟩
    cases c with
    | nil => rfl
    | cons x y => cases y <;> rfl
theorem splitL_total (c : UInt8) : ∀ l, sumP (splitL c l) = l.length + 1
  | [] => by simp [splitL, sumP]
  | a :: t => by
    have ih := splitL_total c t
    rw [splitL]
    by_cases h : a = c
    · rw [if_pos h]
      simp only [sumP, List.map_cons, List.sum_cons, List.length_nil, List.length_cons] at ih ⊢
      omega
    · rw [if_neg h]
      cases hs : splitL c t with
      | nil => exact absurd hs (splitL_ne c t)
      | cons x r =>
        rw [hs] at ih
        simp only [sumP, List.map_cons, List.sum_cons, List.length_cons] at ih ⊢
        omega
theorem own_cell0 {w : World} {B E : Nat} {q : Option Addr} {n d : Nat} {xs : List Value} (h : w.ownsRow B E 1 (.slice q n d) n xs) (hn : 0 < n) : ∃ g, q = some ⟨g, 0, none⟩ ∧ n ≤ d ∧ d ≤ maxLen ∧ B ≤ g ∧ g < w.heap.size ∧ ∀ i x, xs[i]? = some x → w.cell? ⟨g, i, none⟩ = some x := by
  rcases own_open h with ⟨e, h0, _⟩ | ⟨g, cap, e, h1, h2, h3, h4, _, h6, _⟩
  · omega
  · cases e
    refine ⟨g, rfl, h3, h4, h1, h2, fun i x hx => ?_⟩
    obtain ⟨hi, e⟩ := List.getElem?_eq_some_iff.1 hx
    rw [h6 i hi, e]

set_option maxHeartbeats 4000000 in
theorem specParsePuzzle_any (s : ByteArray) (l : List UInt8) (hsl : l = s.data.toList) (w : World) (hs : s.size ≤ maxLen) :
    Calls Try.prog 28 #[.string s] w fun e w' => e = .returned (.tuple #[pzV (rWParsePuzzle l) (rSParsePuzzle l) (rDParsePuzzle l), .bool (rBParsePuzzle l)]) ∧ Below w.heap.size w w' := by
  have hbs : s = bs l := by rw [hsl]; exact bs_eq rfl
  have hsz : s.size = l.length := by rw [hsl]; simp
  have hZ := threeAt_new w (.string ⟨#[]⟩) (.string ⟨#[]⟩) (.int .i64 0) 26
  have hs9 : s.size ≤ 9223372036854775807 := by unfold maxLen at hs; exact hs
  have hR0 := Lib.hid hZ
  have hTot := splitL_total 58 l
  by_cases h40 : l.length ≤ 40
  · have h41 : ¬ s.size > 40 := by omega
    have hSP := fun (W0 : World) => l1Split_any l 58 W0 (by omega)
    rw [← hbs, show ((58 : UInt8).toNat : Int) = 58 from rfl] at hSP
    rcases prs_cases l with ⟨h3, hn⟩ | ⟨a, b, ee, h3, h1, hn⟩ | ⟨a, b, c, h3, hn⟩
    · obtain ⟨q1, q2, q3, q4⟩ := prs_none hn
      rw [q1, q2, q3, q4]
      show Calls Try.prog 28 #[.string s] w fun e w' => e = .returned (.tuple #[.agg #[.string ⟨#[]⟩, .string ⟨#[]⟩, .int .i64 0], .bool false]) ∧ Below w.heap.size w w'
      obtain ⟨n, hn3⟩ : ∃ n, n = (splitL 58 l).length := ⟨_, rfl⟩
      rw [← hn3] at h3 hSP
      have HSP := Lib.hid hSP
      clear hSP hn hbs hsz hsl hZ q1 q2 q3 q4 hTot hn3 h40
      go_enter Try.func28, Try.ntmps28
      go_wp2_with fail
      refine (HSP.out _).mono ?_
      rintro e w1 ⟨q, d, rfl, hst, hb⟩
      have hr := hR0.out.below hb
      obtain ⟨c0, c1, c2, f0, f1, f2⟩ := hr.cells
      have HB := Lib.hid (below_trans (below_alloc _ _) hb)
      have hn3 : ¬ (n : Int) = 3 := by omega
      clear hst hb hr
      go_wp2_with fail
      refine bodyPost_ret (v := .tuple #[.agg #[.string ⟨#[]⟩, .string ⟨#[]⟩, .int .i64 0], .bool false]) ?_ rfl ⟨rfl, three_below HB.out (by omega) _ _ _⟩
      simp [results, Try.results28, go_sem, c0, c1, c2]
    · obtain ⟨q1, q2, q3, q4⟩ := prs_none hn
      rw [q1, q2, q3, q4]
      show Calls Try.prog 28 #[.string s] w fun e w' => e = .returned (.tuple #[.agg #[.string ⟨#[]⟩, .string ⟨#[]⟩, .int .i64 0], .bool false]) ∧ Below w.heap.size w w'
      rw [h3] at hSP
      have hel : ee.length ≤ 41 := by rw [h3] at hTot; simp [sumP] at hTot; omega
      have hez : (bs ee).size = ee.length := bs_size _
      obtain ⟨m, hm⟩ : ∃ m, m = ee.length := ⟨_, rfl⟩
      rw [← hm] at h1 hez hel
      have HSP := Lib.hid hSP
      clear hSP hn hbs hsz hsl hZ q1 q2 q3 q4 hTot h3 hm h40
      have h1z : ¬ (m : Int) = 1 := by omega
      go_enter Try.func28, Try.ntmps28
      go_wp2_with fail
      refine (HSP.out _).mono ?_
      rintro e w1 ⟨q, d, rfl, hst, hb⟩
      have hr := hR0.out.below hb
      obtain ⟨c0, c1, c2, f0, f1, f2⟩ := hr.cells
      have HB := Lib.hid (below_trans (below_alloc _ _) hb)
      obtain ⟨g, rfl, h3d, hdm, hg1, hg2, hcell⟩ := own_cell0 hst (by simp)
      have k2 := hcell 2 (.string (bs ee)) rfl
      clear hst hb hr hcell
      go_wp2_with fail
      refine bodyPost_ret (v := .tuple #[.agg #[.string ⟨#[]⟩, .string ⟨#[]⟩, .int .i64 0], .bool false]) ?_ rfl ⟨rfl, three_below HB.out (by omega) _ _ _⟩
      simp [results, Try.results28, go_sem, c0, c1, c2]
    · obtain ⟨q1, q2, q3, q4⟩ := prs_some hn
      rw [q1, q2, q3, q4]
      show Calls Try.prog 28 #[.string s] w fun e w' => e = .returned (.tuple #[pzIf (pzB a b ((c.toNat : Int) - 48)) a b ((c.toNat : Int) - 48), .bool (pzB a b ((c.toNat : Int) - 48))]) ∧ Below w.heap.size w w'
      rw [h3] at hSP hTot
      have hal : a.length ≤ 41 ∧ b.length ≤ 41 := by simp [sumP] at hTot; omega
      have hG := fun (W0 : World) => pzGood_any a b ((c.toNat : Int) - 48) W0 (by unfold maxLen; omega) (by unfold maxLen; omega)
      obtain ⟨G, hGG⟩ : ∃ G, G = pzB a b ((c.toNat : Int) - 48) := ⟨_, rfl⟩
      rw [← hGG]; simp only [← hGG] at hG
      have e0 : ∃ D : Int, D = (c.toNat : Int) - 48 := ⟨_, rfl⟩
      obtain ⟨D, hD⟩ := e0
      rw [← hD]; simp only [← hD] at hG
      obtain ⟨t3, ht3⟩ : ∃ t, t = bs [c] := ⟨_, rfl⟩
      have hz3 : t3.size = 1 := by rw [ht3, bs_size]; rfl
      have h30 : 0 < t3.size := by omega
      have hx3 : (t3[0].toNat : Int) = (c.toNat : Int) := by subst ht3; rw [getQ [c] 0 _ (by simp)]; rfl
      have h255 : (c.toNat : Int) ≤ 255 := by have := c.toNat_lt; omega
      have hwr : IntKind.i64.wrap ((c.toNat : Int) - 48) = D := by rw [IntKind.wrap_i64, hD]; omega
      have hwr2 : (c.toNat : Int) - 48 = D := hD.symm
      have HST3 := Lib.hid ht3
      unfold pzV at hG
      cases G with
      | false =>
        rw [pzIf_false]
        generalize (c.toNat : Int) = x at *
        have HSP := Lib.hid hSP; have HG := Lib.hid hG
        clear hSP hn hbs hsz hsl hZ q1 q2 q3 q4 hTot h3 h40 hG hGG hal hD ht3
        go_enter Try.func28, Try.ntmps28
        go_wp2_with fail
        refine (HSP.out _).mono ?_
        rintro e w1 ⟨q, d, rfl, hst, hb⟩
        have hr := hR0.out.below hb
        have HR1 := Lib.hid hr
        have HB := Lib.hid (below_trans (below_alloc _ _) hb)
        obtain ⟨g, rfl, h3d, hdm, hg1, hg2, hcell⟩ := own_cell0 hst (by simp)
        have k0 := hcell 0 (.string (bs a)) rfl
        have k1 := hcell 1 (.string (bs b)) rfl
        have k2 := hcell 2 (.string (bs [c])) rfl
        rw [← HST3.out] at k2
        generalize bs a = ta at *
        generalize bs b = tb at *
        clear hst hb hr hcell
        go_wp2_with fail
        go_region
        all_goals
          go_wp2_with fail
          refine (HG.out _).mono ?_
          rintro e w2 ⟨rfl, hb⟩
          have hb2 : Below w1.heap.size w1 w2 := below_trans (by first | exact below_trans (below_drew _) (below_alloc _ _) | exact below_trans (below_alloc _ _) (below_drew _)) hb
          have hr2 := HR1.out.below hb2
          obtain ⟨c0, c1, c2, f0, f1, f2⟩ := hr2.cells
          have HB2 := Lib.hid (below_trans HB.out hb2)
          clear hb hb2 hr2
          go_wp2_with fail
          refine bodyPost_ret (v := .tuple #[.agg #[.string ⟨#[]⟩, .string ⟨#[]⟩, .int .i64 0], .bool false]) ?_ rfl ⟨rfl, three_below HB2.out (by omega) _ _ _⟩
          simp [results, Try.results28, go_sem, c0, c1, c2]
      | true =>
        rw [show pzIf true a b D = .agg #[.string (bs a), .string (bs b), .int .i64 D] from rfl]
        generalize (c.toNat : Int) = x at *
        obtain ⟨ta, hta⟩ : ∃ t, t = bs a := ⟨_, rfl⟩
        obtain ⟨tb, htb⟩ : ∃ t, t = bs b := ⟨_, rfl⟩
        rw [← hta, ← htb]
        simp only [← hta, ← htb] at hG
        have HTA := Lib.hid hta; have HTB := Lib.hid htb
        have HSP := Lib.hid hSP; have HG := Lib.hid hG
        clear hSP hn hbs hsz hsl hZ q1 q2 q3 q4 hTot h3 h40 hG hGG hal hD ht3 hta htb
        go_enter Try.func28, Try.ntmps28
        go_wp2_with fail
        refine (HSP.out _).mono ?_
        rintro e w1 ⟨q, d, rfl, hst, hb⟩
        have hr := hR0.out.below hb
        have HR1 := Lib.hid hr
        have HB := Lib.hid (below_trans (below_alloc _ _) hb)
        obtain ⟨g, rfl, h3d, hdm, hg1, hg2, hcell⟩ := own_cell0 hst (by simp)
        have k0 := hcell 0 (.string (bs a)) rfl
        have k1 := hcell 1 (.string (bs b)) rfl
        have k2 := hcell 2 (.string (bs [c])) rfl
        rw [← HST3.out] at k2
        rw [← HTA.out] at k0
        rw [← HTB.out] at k1
        have hlt1 := HR1.out.lt
        clear hst hb hr hcell
        go_wp2_with fail
        go_region
        all_goals
          go_wp2_with fail
          refine (HG.out _).mono ?_
          rintro e w2 ⟨rfl, hb⟩
          have hb2 : Below w1.heap.size w1 w2 := below_trans (by first | exact below_trans (below_drew _) (below_alloc _ _) | exact below_trans (below_alloc _ _) (below_drew _)) hb
          have hp2 : ThreeAt w2 w1.heap.size (.string ta) (.string tb) (.int .i64 D) 26 := ThreeAt.below (by first | exact threeAt_new _ _ _ _ _ | exact (threeAt_new _ _ _ _ _).drew) hb
          have hr2 := HR1.out.below hb2
          obtain ⟨c0, c1, c2, f0, f1, f2⟩ := hr2.cells
          obtain ⟨d0, d1, d2, _, _, _⟩ := hp2.cells
          have HB2 := Lib.hid (below_trans HB.out hb2)
          clear hb hb2 hr2 hp2
          go_wp2_with fail
          refine bodyPost_ret (v := .tuple #[.agg #[.string ta, .string tb, .int .i64 D], .bool true]) ?_ rfl ⟨rfl, three_below HB2.out (by omega) _ _ _⟩
          simp [results, Try.results28, go_sem, c0, c1, c2]
  · have h41 : s.size > 40 := by omega
    have hl : (splitL 58 l).length ≠ 3 ∨ rBParsePuzzle l = false := by
      rcases prs_cases l with ⟨h3, hn⟩ | ⟨a, b, e, h3, h1, hn⟩ | ⟨a, b, c, h3, hn⟩
      · exact .inl h3
      · exact .inr (prs_none hn).1
      · refine .inr ?_
        rw [(prs_some hn).1]
        cases hp : pzB a b ((c.toNat : Int) - 48) with
        | false => rfl
        | true =>
          have := pzS_parts (pzB_parts hp).1
          rw [h3] at hTot
          simp [sumP] at hTot
          omega
    have hF : rBParsePuzzle l = false := by
      rcases hl with h | h
      · rcases prs_cases l with ⟨h3, hn⟩ | ⟨a, b, e, h3, h1, hn⟩ | ⟨a, b, c, h3, hn⟩
        · exact (prs_none hn).1
        · exact (prs_none hn).1
        · rw [h3] at h; exact absurd rfl h
      · exact h
    unfold rWParsePuzzle rSParsePuzzle rDParsePuzzle
    rw [hF]
    show Calls Try.prog 28 #[.string s] w fun e w' => e = .returned (.tuple #[.agg #[.string ⟨#[]⟩, .string ⟨#[]⟩, .int .i64 0], .bool false]) ∧ Below w.heap.size w w'
    obtain ⟨c0, c1, c2, f0, f1, f2⟩ := hZ.cells
    have HB := Lib.hid (below_alloc w (.cells #[.string ⟨#[]⟩, .string ⟨#[]⟩, .int .i64 0] 26))
    clear hbs hsz hsl hZ hTot h40 hl hF
    go_enter Try.func28, Try.ntmps28
    go_wp2_with fail
    first
    | (refine bodyPost_ret (v := .tuple #[.agg #[.string ⟨#[]⟩, .string ⟨#[]⟩, .int .i64 0], .bool false]) ?_ rfl ⟨rfl, HB.out⟩
       simp [results, Try.results28, go_sem, c0, c1, c2])
    | (refine bodyPost_ret (v := .tuple #[.agg #[.string ⟨#[]⟩, .string ⟨#[]⟩, .int .i64 0], .bool false]) ?_ rfl ⟨rfl, three_below HB.out (by omega) _ _ _⟩
       simp [results, Try.results28, go_sem, c0, c1, c2])
end Go.Proofs.Ytplcdofpikdigaa
