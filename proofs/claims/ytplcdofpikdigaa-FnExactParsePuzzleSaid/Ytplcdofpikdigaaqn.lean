/- Chapter 9: the program's ParsePuzzle. -/
import Derived.Test.Ytplcdofpikdigaaqm
namespace Go.Proofs.Ytplcdofpikdigaa
open Go.RowKit Go.BigFrame Go.Deep
set_option linter.unusedSimpArgs false
set_option linter.unusedVariables false
set_option maxRecDepth 4000

theorem splitL_cons (c a : UInt8) (t : List UInt8) : splitL c (a :: t) = if a = c then [] :: splitL c t else match splitL c t with
    | h :: r => (a :: h) :: r
    | [] => [[a]] := by
  rw [splitL]
  split
  · rfl
  · cases splitL c t <;> rfl
/-- Parts with c between them. -/
def joinL (c : UInt8) : List (List UInt8) → List UInt8
  | [] => []
  | [x] => x
  | x :: y :: r => x ++ c :: joinL c (y :: r)
theorem joinL_cons (c : UInt8) (x : List UInt8) (P : List (List UInt8)) (h : P ≠ []) : joinL c (x :: P) = x ++ c :: joinL c P := by
  cases P with
  | nil => exact absurd rfl h
  | cons y r => rfl
theorem join_split (c : UInt8) : ∀ l, joinL c (splitL c l) = l
  | [] => rfl
  | a :: t => by
    have ih := join_split c t
    rw [splitL_cons]
    by_cases h : a = c
    · rw [if_pos h, joinL_cons _ _ _ (splitL_ne c t), ih, h]; rfl
    · rw [if_neg h]
      cases hs : splitL c t with
      | nil => exact absurd hs (splitL_ne c t)
      | cons x r =>
        rw [hs] at ih
        cases r with
        | nil =>
          have : x = t := ih
          rw [this]; rfl
        | cons y q =>
          have e : joinL c ((a :: x) :: y :: q) = a :: joinL c (x :: y :: q) := rfl
          show joinL c ((a :: x) :: y :: q) = _
          rw [e, ih]
theorem conv_pv {w : World} {g b : Nat} {x : List UInt8} (h : ∀ i (hi : i < x.length), w.cell? ⟨g, b + i, none⟩ = some (.int .u8 (x[i].toNat : Int))) : (convert 63 9 (pv g b x)).run Try.prog w = .ok (.string (bs x)) w := by
  unfold pv
  have := run_convert_bytes_arg (P := Try.prog) w 63 5 Try.underlying63 Try.underlying5 g (if x.length = 0 then 0 else b) x.length x.length (x.map (fun c => (c.toNat : Int))) (by simp) (fun i hi => by
      rw [if_neg (by omega), h i hi]
      simp [List.getD, hi]) 9 Try.underlying9
  rw [this]
  congr 2
  apply bs_eq
  rw [strOfNums_data, List.map_map]
  conv => rhs; rw [← List.map_id x]
  apply List.map_congr_left
  intro c _
  simp
theorem pv_some (g b : Nat) (x : List UInt8) : ∃ o, pv g b x = .slice (some ⟨g, o, none⟩) x.length x.length := ⟨_, rfl⟩
theorem pzB_dgO (a b : List UInt8) (x : Nat) : pzB a b (dgO x) = pzB a b ((x : Int) - 48) := by
  unfold dgO
  split
  · rfl
  · have f : ∀ D : Int, ¬ (1 ≤ D ∧ D ≤ 4) → pzB a b D = false := fun D h => by
      unfold pzB pzS; rw [decide_eq_false h]; rfl
    rw [f _ (by omega), f _ (by omega)]
theorem cells3 {w : World} {g : Nat} {a b : List UInt8} {c : UInt8} {l : List UInt8} (hB : BytQ w g l) (hl : l = a ++ 58 :: (b ++ 58 :: [c])) :
    (∀ i (hi : i < a.length), w.cell? ⟨g, 0 + i, none⟩ = some (.int .u8 (a[i].toNat : Int))) ∧ (∀ i (hi : i < b.length), w.cell? ⟨g, (0 + a.length + 1) + i, none⟩ = some (.int .u8 (b[i].toNat : Int))) ∧
    w.cell? ⟨g, 0 + a.length + 1 + b.length + 1, none⟩ = some (.int .u8 (c.toNat : Int)) := by
  have hlen : l.length = a.length + 1 + b.length + 1 + 1 := by rw [hl]; simp; omega
  refine ⟨fun i hi => ?_, fun i hi => ?_, ?_⟩
  · rw [Nat.zero_add, hB.cell i (by omega)]
    subst hl
    rw [List.getElem_append_left hi]
  · rw [hB.cell (0 + a.length + 1 + i) (by omega)]
    subst hl
    rw [List.getElem_append_right (by omega)]
    have e : 0 + a.length + 1 + i - a.length = i + 1 := by omega
    simp only [e, List.getElem_cons_succ]
    rw [List.getElem_append_left hi]
  · rw [hB.cell (0 + a.length + 1 + b.length + 1) (by omega)]
    subst hl
    rw [List.getElem_append_right (by omega)]
    have e : 0 + a.length + 1 + b.length + 1 - a.length = b.length + 1 + 1 := by omega
    simp only [e, List.getElem_cons_succ]
    rw [List.getElem_append_right (by omega)]
    have e2 : b.length + 1 - b.length = 1 := by omega
    simp only [e2]
    rfl

set_option maxHeartbeats 2000000 in
theorem implParsePuzzle_any (s : ByteArray) (l : List UInt8) (hsl : l = s.data.toList) (w : World) (hs : s.size ≤ 1048576) :
    Calls Try.prog 29 #[.string s] w fun e w' => e = .returned (.tuple #[pzV (rWParsePuzzle l) (rSParsePuzzle l) (rDParsePuzzle l), .bool (rBParsePuzzle l)]) ∧ Below w.heap.size w w' := by
  have hsz : s.size = l.length := by rw [hsl]; simp
  obtain ⟨n, hnn⟩ : ∃ n, n = l.length := ⟨_, rfl⟩
  have hsn : s.size = n := by rw [hsz, hnn]
  have hnm : s.size ≤ maxLen := by unfold maxLen; omega
  have hZ := threeAt_new w (.string ⟨#[]⟩) (.string ⟨#[]⟩) (.int .i64 0) 26
  have hR0 := Lib.hid hZ
  have HBQ := Lib.hid (fun (w1 : World) (g : Nat) (hcell : ∀ i (h : i < s.size), w1.cell? ⟨g, i, none⟩ = some (.int .u8 (s[i].toNat : Int))) (cap : Nat) (hcp : n ≤ cap) (hfr : ∀ i, i < cap → w1.frozen? ⟨g, i, none⟩ = false) =>
      (⟨fun i hi => by rw [hcell i (by omega)]; subst hsl; rfl, fun i hi => hfr i (by omega)⟩ : BytQ w1 g l))
  have hCT := fun (W0 : World) (g C : Nat) (hC : n ≤ C) (hCm : C ≤ maxLen) (hg : g < W0.heap.size) (hB : BytQ W0 g l) => cutText_any l 58 g C W0 (by omega) (by omega) hCm hg hB
  rw [← hnn, show ((58 : UInt8).toNat : Int) = 58 from rfl] at hCT
  have hTot := splitL_total 58 l
  rcases prs_cases l with ⟨h3, hn⟩ | ⟨a, b, ee, h3, h1, hn⟩ | ⟨a, b, c, h3, hn⟩
  · obtain ⟨q1, q2, q3, q4⟩ := prs_none hn
    rw [q1, q2, q3, q4]
    show Calls Try.prog 29 #[.string s] w fun e w' => e = .returned (.tuple #[.agg #[.string ⟨#[]⟩, .string ⟨#[]⟩, .int .i64 0], .bool false]) ∧ Below w.heap.size w w'
    obtain ⟨m, hm3⟩ : ∃ m, m = (splitL 58 l).length := ⟨_, rfl⟩
    rw [← hm3] at h3 hCT
    have HCT := Lib.hid hCT
    have hm : ¬ (m : Int) = 3 := by omega
    clear hCT hn hsz hZ q1 q2 q3 q4 hTot hm3 hsl hnn
    go_enter Try.func29, Try.ntmps29
    go_wp2_with (refine wpList_bytes _ rfl 9 63 _ rfl 5 Try.underlying9 Try.underlying63 Try.underlying5 s rfl hnm ?_; intro w1 C hb1 hsz1 hC hCm hcell hfr; rw [hsn] at hC; have hb1' := hb1; simp only [World.size_alloc] at hcell hfr hsz1; have HQ := Lib.hid (HBQ.out w1 _ hcell C hC hfr); have HB1 := Lib.hid (below_trans (below_alloc _ _) hb1); have HR1 := Lib.hid (hR0.out.below hb1); have HZ1 := Lib.hid hsz1; have HCC := Lib.hid (And.intro hC hCm); clear hcell hfr hb1 hb1' hsz1 hCm)
    go_wp2_with fail
    refine (HCT.out _ _ _ HCC.out.1 HCC.out.2 HZ1.out HQ.out).mono ?_
    rintro e w2 ⟨q, d, rfl, hst, hb⟩
    have hr := HR1.out.below hb
    obtain ⟨c0, c1, c2, f0, f1, f2⟩ := hr.cells
    have HB := Lib.hid (below_trans HB1.out hb)
    clear hst hb hr
    go_wp2_with fail
    refine bodyPost_ret (v := .tuple #[.agg #[.string ⟨#[]⟩, .string ⟨#[]⟩, .int .i64 0], .bool false]) ?_ rfl ⟨rfl, three_below HB.out (by omega) _ _ _⟩
    simp [results, Try.results29, go_sem, c0, c1, c2]
  · obtain ⟨q1, q2, q3, q4⟩ := prs_none hn
    rw [q1, q2, q3, q4]
    show Calls Try.prog 29 #[.string s] w fun e w' => e = .returned (.tuple #[.agg #[.string ⟨#[]⟩, .string ⟨#[]⟩, .int .i64 0], .bool false]) ∧ Below w.heap.size w w'
    rw [h3] at hCT
    have hel : ee.length ≤ 2000000 := by rw [h3] at hTot; simp [sumP] at hTot; omega
    have hpv := fun (g B : Nat) => pv_some g B ee
    obtain ⟨m, hm⟩ : ∃ m, m = ee.length := ⟨_, rfl⟩
    rw [← hm] at h1 hel
    simp only [← hm] at hpv
    have HCT := Lib.hid hCT; have HPV := Lib.hid hpv
    have h1z : ¬ (m : Int) = 1 := by omega
    clear hCT hn hsz hZ q1 q2 q3 q4 hTot h3 hm hsl hpv hnn
    go_enter Try.func29, Try.ntmps29
    go_wp2_with (refine wpList_bytes _ rfl 9 63 _ rfl 5 Try.underlying9 Try.underlying63 Try.underlying5 s rfl hnm ?_; intro w1 C hb1 hsz1 hC hCm hcell hfr; rw [hsn] at hC; have hb1' := hb1; simp only [World.size_alloc] at hcell hfr hsz1; have HQ := Lib.hid (HBQ.out w1 _ hcell C hC hfr); have HB1 := Lib.hid (below_trans (below_alloc _ _) hb1); have HR1 := Lib.hid (hR0.out.below hb1); have HZ1 := Lib.hid hsz1; have HCC := Lib.hid (And.intro hC hCm); clear hcell hfr hb1 hb1' hsz1 hCm)
    go_wp2_with fail
    refine (HCT.out _ _ _ HCC.out.1 HCC.out.2 HZ1.out HQ.out).mono ?_
    rintro e w2 ⟨q, d, rfl, hst, hb⟩
    have hr := HR1.out.below hb
    obtain ⟨c0, c1, c2, f0, f1, f2⟩ := hr.cells
    have HB := Lib.hid (below_trans HB1.out hb)
    obtain ⟨g, rfl, h3d, hdm, hg1, hg2, hcell⟩ := own_cell0 hst (by simp)
    have k2 := hcell 2 _ rfl
    obtain ⟨o2, ho2⟩ := HPV.out (w.heap.size + 1) (0 + a.length + 1 + b.length + 1)
    rw [ho2] at k2
    clear hst hb hr hcell ho2
    go_wp2_with fail
    refine bodyPost_ret (v := .tuple #[.agg #[.string ⟨#[]⟩, .string ⟨#[]⟩, .int .i64 0], .bool false]) ?_ rfl ⟨rfl, three_below HB.out (by omega) _ _ _⟩
    simp [results, Try.results29, go_sem, c0, c1, c2]
  · obtain ⟨q1, q2, q3, q4⟩ := prs_some hn
    rw [q1, q2, q3, q4]
    show Calls Try.prog 29 #[.string s] w fun e w' => e = .returned (.tuple #[pzIf (pzB a b ((c.toNat : Int) - 48)) a b ((c.toNat : Int) - 48), .bool (pzB a b ((c.toNat : Int) - 48))]) ∧ Below w.heap.size w w'
    have hjl := join_split 58 l
    rw [h3] at hCT hTot hjl
    have hal : a.length ≤ 1048577 ∧ b.length ≤ 1048577 := by simp [sumP] at hTot; omega
    have hG := fun (W0 : World) => implIsPuzzle_any a b (dgO c.toNat) W0 (by unfold maxLen; omega) (by unfold maxLen; omega)
    have h255 : c.toNat ≤ 255 := by have := c.toNat_lt; omega
    have hDG := fun (W0 : World) => digitOf_u c.toNat W0 h255
    simp only [pzB_dgO] at hG
    obtain ⟨G, hGG⟩ : ∃ G, G = pzB a b ((c.toNat : Int) - 48) := ⟨_, rfl⟩
    have hdg : G = true → dgO c.toNat = (c.toNat : Int) - 48 := fun h => by
      have h1 := pzS_parts (pzB_parts (hGG.symm.trans h)).1
      unfold dgO; rw [if_pos (by omega)]
    rw [← hGG]; simp only [← hGG] at hG
    have hl3 : l = a ++ 58 :: (b ++ 58 :: [c]) := hjl.symm
    have HC3 := Lib.hid (fun (W0 : World) (g : Nat) (hB : BytQ W0 g l) => cells3 hB hl3)
    obtain ⟨A1, hA1⟩ : ∃ n, n = a.length := ⟨_, rfl⟩
    obtain ⟨B1, hB1⟩ : ∃ n, n = b.length := ⟨_, rfl⟩
    have hpv0 : ∀ g, ∃ o, pv g 0 a = .slice (some ⟨g, o, none⟩) A1 A1 := fun g => by rw [hA1]; exact pv_some g 0 a
    have hpv1 : ∀ g, ∃ o, pv g (0 + a.length + 1) b = .slice (some ⟨g, o, none⟩) B1 B1 := fun g => by rw [hB1]; exact pv_some g _ b
    have hpv2 : ∀ g, pv g (0 + a.length + 1 + b.length + 1) [c] = .slice (some ⟨g, 0 + a.length + 1 + b.length + 1, none⟩) 1 1 := fun g => rfl
    unfold pzV at hG
    have HP0 := Lib.hid hpv0; have HP1 := Lib.hid hpv1; have HP2 := Lib.hid hpv2
    have hA9 : A1 ≤ 1048577 := by omega
    have hB9 : B1 ≤ 1048577 := by omega
    obtain ⟨o2, ho2⟩ : ∃ o, o = 0 + a.length + 1 + b.length + 1 := ⟨_, rfl⟩
    rw [← ho2] at HP2
    have HO2 := Lib.hid ho2
    clear hn hsz hZ q1 q2 q3 q4 hTot h3 hsl hpv0 hpv1 hpv2 hjl hl3 hA1 hB1 hal ho2 hnn
    cases G with
    | false =>
      rw [pzIf_false]
      have HCT := Lib.hid hCT; have HG := Lib.hid hG; have HDG := Lib.hid hDG
      clear hCT hG hGG hdg hDG
      generalize dgO c.toNat = D at *
      go_enter Try.func29, Try.ntmps29
      go_wp2_with (refine wpList_bytes _ rfl 9 63 _ rfl 5 Try.underlying9 Try.underlying63 Try.underlying5 s rfl hnm ?_; intro w1 C hb1 hsz1 hC hCm hcell hfr; rw [hsn] at hC; have hb1' := hb1; simp only [World.size_alloc] at hcell hfr hsz1; have HQ := Lib.hid (HBQ.out w1 _ hcell C hC hfr); have HB1 := Lib.hid (below_trans (below_alloc _ _) hb1); have HR1 := Lib.hid (hR0.out.below hb1); have HZ1 := Lib.hid hsz1; have HCC := Lib.hid (And.intro hC hCm); clear hcell hfr hb1 hb1' hsz1 hCm)
      go_wp2_with fail
      refine (HCT.out _ _ _ HCC.out.1 HCC.out.2 HZ1.out HQ.out).mono ?_
      rintro e w2 ⟨q, d, rfl, hst, hb⟩
      have HR2 := Lib.hid (HR1.out.below hb)
      have HB2 := Lib.hid (below_trans HB1.out hb)
      have HQ2 := Lib.hid (HQ.out.below HZ1.out hb)
      have hlt2 := HR2.out.lt
      have hgl := HZ1.out
      have hgw : w.heap.size + 1 < w2.heap.size := Nat.lt_of_lt_of_le HZ1.out hb.size
      generalize hgg : w.heap.size + 1 = g at *
      obtain ⟨gp, rfl, h3d, hdm, hg1, hg2, hcell⟩ := own_cell0 hst (by simp)
      have k0 := hcell 0 (pv g 0 a) rfl
      have k1 := hcell 1 (pv g (0 + a.length + 1) b) rfl
      have k2 := hcell 2 (pv g (0 + a.length + 1 + b.length + 1) [c]) rfl
      rw [← HO2.out] at k2
      obtain ⟨cc0, cc1, cc2⟩ := HC3.out w2 g HQ2.out
      rw [← HO2.out] at cc2
      obtain ⟨Z, hZ⟩ : ∃ Z : Obj, Z = .cells #[.string ⟨#[]⟩, .string ⟨#[]⟩, .int .i64 0] 26 := ⟨_, rfl⟩
      obtain ⟨p0, hp0⟩ := HP0.out g
      obtain ⟨p1, hp1⟩ := HP1.out g
      have ea : ∀ W : World, (∀ i, W.cell? ⟨g, i, none⟩ = w2.cell? ⟨g, i, none⟩) → (convert 63 9 (.slice (some ⟨g, p0, none⟩) A1 A1)).run Try.prog W = .ok (.string (bs a)) W := fun W hW => by
        have := conv_pv (w := W) (g := g) (b := 0) (x := a) (fun i hi => (hW _).trans (cc0 i hi))
        rwa [hp0] at this
      have eb : ∀ W : World, (∀ i, W.cell? ⟨g, i, none⟩ = w2.cell? ⟨g, i, none⟩) → (convert 63 9 (.slice (some ⟨g, p1, none⟩) B1 B1)).run Try.prog W = .ok (.string (bs b)) W := fun W hW => by
        have := conv_pv (w := W) (g := g) (b := 0 + a.length + 1) (x := b) (fun i hi => (hW _).trans (cc1 i hi))
        rwa [hp1] at this
      have hal2 : ∀ i, (w2.alloc (.cells #[.string ⟨#[]⟩, .string ⟨#[]⟩, .int .i64 0] 26)).cell? ⟨g, i, none⟩ = w2.cell? ⟨g, i, none⟩ := fun i => (below_alloc w2 _).cell (p := ⟨g, i, none⟩) hgw
      rw [hp0] at k0
      rw [hp1] at k1
      rw [HP2.out g] at k2
      have hS : ∀ W : World, Below w2.heap.size w2 W → W.cell? ⟨gp, 0, none⟩ = some (.slice (some ⟨g, p0, none⟩) A1 A1) ∧ W.cell? ⟨gp, 1, none⟩ = some (.slice (some ⟨g, p1, none⟩) B1 B1) ∧ W.cell? ⟨gp, 2, none⟩ = some (.slice (some ⟨g, o2, none⟩) 1 1) ∧ W.cell? ⟨g, o2, none⟩ = some (.int .u8 (c.toNat : Int)) ∧ (convert 63 9 (.slice (some ⟨g, p0, none⟩) A1 A1)).run Try.prog W = .ok (.string (bs a)) W ∧ (convert 63 9 (.slice (some ⟨g, p1, none⟩) B1 B1)).run Try.prog W = .ok (.string (bs b)) W :=
        fun W hW => ⟨(hW.cell (p := ⟨gp, 0, none⟩) hg2).trans k0, (hW.cell (p := ⟨gp, 1, none⟩) hg2).trans k1, (hW.cell (p := ⟨gp, 2, none⟩) hg2).trans k2, (hW.cell (p := ⟨g, o2, none⟩) hgw).trans cc2, ea W (fun i => hW.cell (p := ⟨g, i, none⟩) hgw), eb W (fun i => hW.cell (p := ⟨g, i, none⟩) hgw)⟩
      clear hst hb hcell hgg hp0 hp1 cc0 cc1 ea eb hal2 hZ Z hgl
      generalize bs a = ta at *
      generalize bs b = tb at *
      have HS := Lib.hid hS
      clear hS
      go_wp2_with fail
      go_region_held3 (fun W : World => W.cell? ⟨gp, 0, none⟩ = some (.slice (some ⟨g, p0, none⟩) A1 A1) ∧ W.cell? ⟨gp, 1, none⟩ = some (.slice (some ⟨g, p1, none⟩) B1 B1) ∧ W.cell? ⟨gp, 2, none⟩ = some (.slice (some ⟨g, o2, none⟩) 1 1) ∧ W.cell? ⟨g, o2, none⟩ = some (.int .u8 (c.toNat : Int)) ∧ (convert 63 9 (.slice (some ⟨g, p0, none⟩) A1 A1)).run Try.prog W = .ok (.string ta) W ∧ (convert 63 9 (.slice (some ⟨g, p1, none⟩) B1 B1)).run Try.prog W = .ok (.string tb) W) (first | exact HS.out _ (below_drew _) | exact HS.out _ (below_trans (below_drew _) (below_alloc _ _)) | exact HS.out _ (below_trans (below_alloc _ _) (below_drew _)) | assumption) (first | (go_at_call 52; refine (HDG.out _).mono ?_; rintro e w5 ⟨rfl, rfl⟩))
      all_goals
        go_wp2_with fail
        refine (HG.out _).mono ?_
        rintro e w3 ⟨rfl, hb⟩
        have hb3 : Below w2.heap.size w2 w3 := below_trans (by first | exact below_trans (below_drew _) (below_alloc _ _) | exact below_trans (below_alloc _ _) (below_drew _)) hb
        have hr3 := HR2.out.below hb3
        obtain ⟨c0, c1, c2, f0, f1, f2⟩ := hr3.cells
        have HB3 := Lib.hid (below_trans HB2.out hb3)
        clear hb hb3 hr3
        go_wp2_with fail
        refine bodyPost_ret (v := .tuple #[.agg #[.string ⟨#[]⟩, .string ⟨#[]⟩, .int .i64 0], .bool false]) ?_ rfl ⟨rfl, three_below HB3.out (by omega) _ _ _⟩
        simp [results, Try.results29, go_sem, c0, c1, c2]
    | true =>
      rw [show pzIf true a b ((c.toNat : Int) - 48) = .agg #[.string (bs a), .string (bs b), .int .i64 ((c.toNat : Int) - 48)] from rfl, ← hdg rfl]
      have HCT := Lib.hid hCT; have HG := Lib.hid hG; have HDG := Lib.hid hDG
      clear hCT hG hGG hdg hDG
      generalize dgO c.toNat = D at *
      obtain ⟨ta', hta⟩ : ∃ t, t = bs a := ⟨_, rfl⟩
      obtain ⟨tb', htb⟩ : ∃ t, t = bs b := ⟨_, rfl⟩
      rw [← hta, ← htb]
      have HTA := Lib.hid hta; have HTB := Lib.hid htb
      clear hta htb
      go_enter Try.func29, Try.ntmps29
      go_wp2_with (refine wpList_bytes _ rfl 9 63 _ rfl 5 Try.underlying9 Try.underlying63 Try.underlying5 s rfl hnm ?_; intro w1 C hb1 hsz1 hC hCm hcell hfr; rw [hsn] at hC; have hb1' := hb1; simp only [World.size_alloc] at hcell hfr hsz1; have HQ := Lib.hid (HBQ.out w1 _ hcell C hC hfr); have HB1 := Lib.hid (below_trans (below_alloc _ _) hb1); have HR1 := Lib.hid (hR0.out.below hb1); have HZ1 := Lib.hid hsz1; have HCC := Lib.hid (And.intro hC hCm); clear hcell hfr hb1 hb1' hsz1 hCm)
      go_wp2_with fail
      refine (HCT.out _ _ _ HCC.out.1 HCC.out.2 HZ1.out HQ.out).mono ?_
      rintro e w2 ⟨q, d, rfl, hst, hb⟩
      have HR2 := Lib.hid (HR1.out.below hb)
      have HB2 := Lib.hid (below_trans HB1.out hb)
      have HQ2 := Lib.hid (HQ.out.below HZ1.out hb)
      have hlt2 := HR2.out.lt
      have hgl := HZ1.out
      have hgw : w.heap.size + 1 < w2.heap.size := Nat.lt_of_lt_of_le HZ1.out hb.size
      generalize hgg : w.heap.size + 1 = g at *
      obtain ⟨gp, rfl, h3d, hdm, hg1, hg2, hcell⟩ := own_cell0 hst (by simp)
      have k0 := hcell 0 (pv g 0 a) rfl
      have k1 := hcell 1 (pv g (0 + a.length + 1) b) rfl
      have k2 := hcell 2 (pv g (0 + a.length + 1 + b.length + 1) [c]) rfl
      rw [← HO2.out] at k2
      obtain ⟨cc0, cc1, cc2⟩ := HC3.out w2 g HQ2.out
      rw [← HO2.out] at cc2
      obtain ⟨Z, hZ⟩ : ∃ Z : Obj, Z = .cells #[.string ⟨#[]⟩, .string ⟨#[]⟩, .int .i64 0] 26 := ⟨_, rfl⟩
      obtain ⟨p0, hp0⟩ := HP0.out g
      obtain ⟨p1, hp1⟩ := HP1.out g
      have ea : ∀ W : World, (∀ i, W.cell? ⟨g, i, none⟩ = w2.cell? ⟨g, i, none⟩) → (convert 63 9 (.slice (some ⟨g, p0, none⟩) A1 A1)).run Try.prog W = .ok (.string (bs a)) W := fun W hW => by
        have := conv_pv (w := W) (g := g) (b := 0) (x := a) (fun i hi => (hW _).trans (cc0 i hi))
        rwa [hp0] at this
      have eb : ∀ W : World, (∀ i, W.cell? ⟨g, i, none⟩ = w2.cell? ⟨g, i, none⟩) → (convert 63 9 (.slice (some ⟨g, p1, none⟩) B1 B1)).run Try.prog W = .ok (.string (bs b)) W := fun W hW => by
        have := conv_pv (w := W) (g := g) (b := 0 + a.length + 1) (x := b) (fun i hi => (hW _).trans (cc1 i hi))
        rwa [hp1] at this
      have hal2 : ∀ i, (w2.alloc (.cells #[.string ⟨#[]⟩, .string ⟨#[]⟩, .int .i64 0] 26)).cell? ⟨g, i, none⟩ = w2.cell? ⟨g, i, none⟩ := fun i => (below_alloc w2 _).cell (p := ⟨g, i, none⟩) hgw
      rw [hp0] at k0
      rw [hp1] at k1
      rw [HP2.out g] at k2
      have hS : ∀ W : World, Below w2.heap.size w2 W → W.cell? ⟨gp, 0, none⟩ = some (.slice (some ⟨g, p0, none⟩) A1 A1) ∧ W.cell? ⟨gp, 1, none⟩ = some (.slice (some ⟨g, p1, none⟩) B1 B1) ∧ W.cell? ⟨gp, 2, none⟩ = some (.slice (some ⟨g, o2, none⟩) 1 1) ∧ W.cell? ⟨g, o2, none⟩ = some (.int .u8 (c.toNat : Int)) ∧ (convert 63 9 (.slice (some ⟨g, p0, none⟩) A1 A1)).run Try.prog W = .ok (.string (bs a)) W ∧ (convert 63 9 (.slice (some ⟨g, p1, none⟩) B1 B1)).run Try.prog W = .ok (.string (bs b)) W :=
        fun W hW => ⟨(hW.cell (p := ⟨gp, 0, none⟩) hg2).trans k0, (hW.cell (p := ⟨gp, 1, none⟩) hg2).trans k1, (hW.cell (p := ⟨gp, 2, none⟩) hg2).trans k2, (hW.cell (p := ⟨g, o2, none⟩) hgw).trans cc2, ea W (fun i => hW.cell (p := ⟨g, i, none⟩) hgw), eb W (fun i => hW.cell (p := ⟨g, i, none⟩) hgw)⟩
      clear hst hb hcell hgg hp0 hp1 cc0 cc1 ea eb hal2 hZ Z hgl
      rw [← HTA.out, ← HTB.out] at HG
      rw [← HTA.out, ← HTB.out] at hS
      have HS := Lib.hid hS
      clear hS
      go_wp2_with fail
      go_region_held3 (fun W : World => W.cell? ⟨gp, 0, none⟩ = some (.slice (some ⟨g, p0, none⟩) A1 A1) ∧ W.cell? ⟨gp, 1, none⟩ = some (.slice (some ⟨g, p1, none⟩) B1 B1) ∧ W.cell? ⟨gp, 2, none⟩ = some (.slice (some ⟨g, o2, none⟩) 1 1) ∧ W.cell? ⟨g, o2, none⟩ = some (.int .u8 (c.toNat : Int)) ∧ (convert 63 9 (.slice (some ⟨g, p0, none⟩) A1 A1)).run Try.prog W = .ok (.string ta') W ∧ (convert 63 9 (.slice (some ⟨g, p1, none⟩) B1 B1)).run Try.prog W = .ok (.string tb') W) (first | exact HS.out _ (below_drew _) | exact HS.out _ (below_trans (below_drew _) (below_alloc _ _)) | exact HS.out _ (below_trans (below_alloc _ _) (below_drew _)) | assumption) (first | (go_at_call 52; refine (HDG.out _).mono ?_; rintro e w5 ⟨rfl, rfl⟩))
      all_goals
        go_wp2_with fail
        refine (HG.out _).mono ?_
        rintro e w3 ⟨rfl, hb⟩
        have hb3 : Below w2.heap.size w2 w3 := below_trans (by first | exact below_trans (below_drew _) (below_alloc _ _) | exact below_trans (below_alloc _ _) (below_drew _)) hb
        have hp3 : ThreeAt w3 w2.heap.size (.string ta') (.string tb') (.int .i64 D) 26 := ThreeAt.below (by first | exact threeAt_new _ _ _ _ _ | exact (threeAt_new _ _ _ _ _).drew) hb
        have hr3 := HR2.out.below hb3
        obtain ⟨c0, c1, c2, f0, f1, f2⟩ := hr3.cells
        obtain ⟨d0, d1, d2, _, _, _⟩ := hp3.cells
        have HB3 := Lib.hid (below_trans HB2.out hb3)
        clear hb hb3 hr3 hp3
        go_wp2_with fail
        refine bodyPost_ret (v := .tuple #[.agg #[.string ta', .string tb', .int .i64 D], .bool true]) ?_ rfl ⟨rfl, three_below HB3.out (by omega) _ _ _⟩
        simp [results, Try.results29, go_sem, c0, c1, c2]
end Go.Proofs.Ytplcdofpikdigaa
