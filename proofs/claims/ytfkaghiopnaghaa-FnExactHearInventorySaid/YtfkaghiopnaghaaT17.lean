/- The words of the loop: the model's and the program's LoopWords, and the law. -/
import Derived.Test.YtfkaghiopnaghaaT16
import Derived.Test.YtfkaghiopnaghaaE5
namespace Go.Proofs.Ytfkaghiopnaghaa
open Go.RowKit Go.BigFrame
set_option linter.unusedSimpArgs false
set_option linter.unusedVariables false
set_option maxRecDepth 4000

def wordsO (o : Option (List (List UInt8) × Nat)) : List (List UInt8) := (o.getD ([], 0)).1.drop (o.getD ([], 0)).2
def WordsOk (o : Option (List (List UInt8) × Nat)) (w w' : World) (e : Ending) : Prop :=
  ∃ v, e = .returned (.tuple #[v, .bool o.isSome]) ∧ StrsO w' w.heap.size v (wordsO o) ∧ Below w.heap.size w w'
theorem add_plainT (b o r : Nat) : (⟨b, o, none⟩ : Addr).add r = ⟨b, o + r, none⟩ := by
  unfold Addr.add
  split
  · subst_vars; rfl
  · rfl

set_option maxHeartbeats 1000000 in
theorem l1OwnS_any (w : World) (g o m c : Nat) (ls : List (List UInt8)) (hm : m = ls.length) (h9 : m ≤ 2000000000) (hc : ∀ j (hj : j < ls.length), w.cell? ⟨g, o + j, none⟩ = some (.string (bs ls[j]))) :
    Calls Try.prog 54 #[.slice (some ⟨g, o, none⟩) m c] w fun e w' => ∃ v, e = .returned v ∧ w'.ownsRow w.heap.size 9 1 v m (strVs ls) ∧ Below w.heap.size w w' := by
  obtain ⟨i0, hi, hz0, hz1, hz2⟩ := info_parts info_str
  have HC := Lib.hid hc; have HM := Lib.hid hm; clear hc hm
  go_enter Try.func54, Try.ntmps54
  go_wp2_with (at_builtin; refine wpList_app _ rfl _ _ 32 rfl w.heap.size 9 i0 (.string ⟨#[]⟩) 16 Try.underlying32 hi hz0 hz1 hz2 rfl _ 0 [] rfl (own_lit w w.heap.size 9 [] (Nat.le_refl _) (by simp [maxLen])) ⟨g, o, none⟩ m c (strVs ls) rfl (by rw [HM.out]; simp [strVs]) ?c1 ?c2 ?c3 ?c4 ?c5 ?_)
  case c1 =>
    intro j u hj
    rw [add_plainT]
    obtain ⟨hjl, e⟩ := List.getElem?_eq_some_iff.1 hj
    have hjl' : j < ls.length := by simpa [strVs] using hjl
    have hlt := World.block_lt_of_cell? w _ (HC.out j hjl')
    rw [(below_alloc w _).cell (p := ⟨g, o + j, none⟩) hlt, HC.out j hjl', ← e]
    simp [strVs]
  case c2 =>
    intro u hu
    simp only [strVs, List.mem_map] at hu
    obtain ⟨l, _, rfl⟩ := hu
    rfl
  case c3 => unfold maxLen; omega
  case c4 => omega
  case c5 => simp
  intro v' w3 hown' hgrow _
  have R1 := Lib.hid hown'
  have R2 := Lib.hid ((below_alloc w _).grown hgrow (by simp) (fun q hq => by cases hq; exact Nat.le_refl _))
  clear hown' hgrow
  go_wp2_with fail
  go_ret
  refine ⟨_, rfl, ?_, R2.out⟩
  have := R1.out
  simpa using this

/-- A way that is owned: its cells. -/
theorem loopOk_cells {o : Option (List (List UInt8) × Nat)} {w w' : World} {e : Ending} (h : LoopOk o w w' e) :
    (o = none ∧ e = .returned (.tuple #[.slice none 0 0, .int .i64 0, .bool false]) ∧ Below w.heap.size w w') ∨
    ∃ way i g n c, o = some (way, i) ∧ n = way.length ∧ i < n ∧ n ≤ 2000000000 ∧ n ≤ c ∧ c ≤ 9223372036854775807 ∧ w.heap.size ≤ g ∧ g < w'.heap.size ∧ e = .returned (.tuple #[.slice (some ⟨g, 0, none⟩) n c, .int .i64 (i : Int), .bool true]) ∧
      (∀ j (hj : j < way.length), w'.cell? ⟨g, j, none⟩ = some (.string (bs way[j]))) ∧ (∀ j, w'.frozen? ⟨g, j, none⟩ = false) ∧ Below w.heap.size w w' := by
  obtain ⟨v, rfl, h2, h3, h4, h5⟩ := h
  cases o with
  | none => rw [h4 rfl]; exact .inl ⟨rfl, rfl, h3⟩
  | some p =>
    obtain ⟨way, i⟩ := p
    obtain ⟨h6, h7⟩ := h5 (by simp)
    simp only [Option.getD_some] at h2 h6 h7
    rcases own_open h2 with ⟨_, h0, _⟩ | ⟨g, c, rfl, hB, hg, hc1, hc2, _, _, hfr⟩
    · omega
    unfold maxLen at hc2
    exact .inr ⟨way, i, g, _, c, rfl, rfl, h6, h7, hc1, by omega, hB, hg, rfl, fun j hj => strs_cells h2 rfl j hj, hfr, h3⟩

set_option maxHeartbeats 1000000 in
theorem specLoopWords_any (s : ByteArray) (w : World) (hs : s.size ≤ maxLen) (K : Nat) (hK : 1000000010 ≤ K) :
    Calls Try.prog 32 #[.string s] w fun e w' => WordsOk (loopO K s.data.toList) w w' e := by
  have h1 := taWay_any s w hs K hK
  obtain ⟨o, ho⟩ : ∃ o, o = loopO K s.data.toList := ⟨_, rfl⟩
  rw [← ho] at h1 ⊢
  have H1 := Lib.hid h1; clear h1 ho
  go_enter Try.func32, Try.ntmps32
  go_wp2_with fail
  refine H1.out.mono ?_
  intro e w1 h
  rcases loopOk_cells h with ⟨rfl, rfl, hb⟩ | ⟨way, i, g, n, c, rfl, hn, hin, hn9, hnc, hcm, hBg, hg, rfl, hce, hfr, hb⟩
  · have HB := Lib.hid hb; clear hb h H1
    go_wp2_with fail
    go_ret2
    exact ⟨_, rfl, .inl ⟨rfl, rfl⟩, HB.out⟩
  · subst hn
    have hlen : way.length - i = (way.drop i).length := by simp
    have how := fun W (hbW : Below w1.heap.size w1 W) => l1OwnS_any W g i (way.length - i) (c - i) (way.drop i) hlen (by omega) (fun j hj => by
      rw [hbW.cell (p := ⟨g, i + j, none⟩) hg, hce (i + j) (by simp at hj; omega)]
      simp)
    have HB := Lib.hid hb; have HOW := Lib.hid how; have HL := Lib.hid hlen; clear hb h H1 hce hfr how hlen
    have hi0 : (0 : Int) ≤ (i : Int) := by omega
    have hile : (i : Int) ≤ (way.length : Int) := by omega
    have hadd : (⟨g, 0, none⟩ : Addr).add i = ⟨g, i, none⟩ := by rw [add_plainT, Nat.zero_add]
    go_wp2_with fail
    refine (HOW.out w1 (Below.refl _ _)).mono ?_
    rintro e w2 ⟨v, rfl, h2, h3⟩
    have H2 := Lib.hid h2; have H3 := Lib.hid h3; clear h2 h3
    go_wp2_with fail
    go_ret2
    refine ⟨v, rfl, strsO_of ?_, below_trans HB.out H3.out⟩
    have := own_mono H2.out HB.out.size
    rw [HL.out] at this
    exact this

set_option maxHeartbeats 1000000 in
theorem implLoopWords_any (s : ByteArray) (w : World) (hs : s.size ≤ maxLen) (K : Nat) (hK : 1000000010 ≤ K) :
    Calls Try.prog 33 #[.string s] w fun e w' => WordsOk (loopO K s.data.toList) w w' e := by
  have h1 := inventoriesFrom_any s w hs K hK
  obtain ⟨o, ho⟩ : ∃ o, o = loopO K s.data.toList := ⟨_, rfl⟩
  rw [← ho] at h1 ⊢
  have H1 := Lib.hid h1; clear h1 ho
  go_enter Try.func33, Try.ntmps33
  go_wp2_with fail
  refine H1.out.mono ?_
  intro e w1 h
  rcases loopOk_cells h with ⟨rfl, rfl, hb⟩ | ⟨way, i, g, n, c, rfl, hn, hin, hn9, hnc, hcm, hBg, hg, rfl, hce, hfr, hb⟩
  · have HB := Lib.hid hb; clear hb h H1
    go_wp2_with fail
    go_ret2
    exact ⟨_, rfl, .inl ⟨rfl, rfl⟩, HB.out⟩
  · subst hn
    have hlen : way.length - i = (way.drop i).length := by simp
    have hst : ∀ j (hj : j < (way.drop i).length), w1.cell? ⟨g, i + j, none⟩ = some (.string (bs (way.drop i)[j])) := fun j hj => by
      rw [hce (i + j) (by simp at hj; omega)]
      simp
    have HB := Lib.hid hb; have HL := Lib.hid hlen; have HST := Lib.hid hst; have HFR := Lib.hid hfr; clear hb h H1 hce hfr hlen hst
    have hi0 : (0 : Int) ≤ (i : Int) := by omega
    have hile : (i : Int) ≤ (way.length : Int) := by omega
    have hadd : (⟨g, 0, none⟩ : Addr).add i = ⟨g, i, none⟩ := by rw [add_plainT, Nat.zero_add]
    go_wp2_with fail
    go_ret2
    refine ⟨_, rfl, .inr ⟨g, i, c - i, ?_, hBg, hg, by rw [show (wordsO (some (way, i))).length = (way.drop i).length from rfl, ← HL.out]; omega, by omega, HST.out, HFR.out⟩, HB.out⟩
    show Value.slice _ _ _ = Value.slice _ _ _
    rw [show (wordsO (some (way, i))).length = (way.drop i).length from rfl, ← HL.out]

/-- A loop's way has at most so many texts. -/
theorem loopF_len (x0 : List UInt8) : ∀ (K : Nat) (way : List (List UInt8)) (x : List UInt8) (p : List (List UInt8) × Nat), Way invO x0 way x → loopF invO K way x = some p → p.1.length ≤ 1000000001
  | 0, _, _, _, _, h => by simp [loopF] at h
  | K + 1, way, x, p, hw, h => by
    unfold loopF at h
    split at h
    · rw [← Option.some.inj h]; exact wayI_len hw
    · rename_i hx
      split at h
      · cases h
      · rename_i y hy
        exact loopF_len x0 K _ _ p (way_snoc hw hx hy) h
theorem loopO_len (s : ByteArray) (K : Nat) (hK : 1000000010 ≤ K) : ((loopO K s.data.toList).getD ([], 0)).1.length ≤ 1000000001 := by
  cases h : loopO K s.data.toList with
  | none => simp
  | some p =>
    unfold loopO at h
    split at h
    · exact loopF_len s.data.toList K [] _ p (way_nil _ _) h
    · cases h
theorem wordsO_len (s : ByteArray) (w : World) (hs : s.size ≤ maxLen) (K : Nat) (hK : 1000000010 ≤ K) : (wordsO (loopO K s.data.toList)).length ≤ 2000000000 := by
  have h := loopO_len s K hK
  unfold wordsO
  rw [List.length_drop]
  omega

set_option maxHeartbeats 1000000 in
theorem law_LoopWords (s : ByteArray) (w : World) (hs : s.size ≤ maxLen) :
    Calls Try.prog 10 #[.string s] w fun e w' => e = .returned (.bool true) ∧ Below w.heap.size w w' := by
  by_cases hb : 1048576 < s.size
  · go_enter Try.func10, Try.ntmps10
    go_wp2_with fail
    go_ret
    exact ⟨rfl, Below.refl _ _⟩
  · obtain ⟨K, hK⟩ : ∃ K : Nat, 1000000010 ≤ K := ⟨1000000010, Nat.le_refl _⟩
    obtain ⟨o, ho⟩ : ∃ o, o = loopO K s.data.toList := ⟨_, rfl⟩
    have hlen : (wordsO o).length ≤ 2000000000 := by rw [ho]; exact wordsO_len s w hs K hK
    obtain ⟨y, hy⟩ : ∃ y, y = o.isSome := ⟨_, rfl⟩
    obtain ⟨ls, hls⟩ : ∃ ls, ls = wordsO o := ⟨_, rfl⟩
    obtain ⟨tt, ht⟩ : ∃ tt, tt = 1 + ls.length := ⟨_, rfl⟩
    have ht2 : tt ≤ 2000000001 := by rw [ht, hls]; omega
    have ht1 : 1 ≤ tt := by omega
    have e1 : ((tt : Int) != (tt : Int)) = false := by simp
    have e2 : (y != y) = false := by simp
    have hspec := fun (W : World) => specLoopWords_any s W hs K hK
    have himpl := fun (W : World) => implLoopWords_any s W hs K hK
    rw [← ho] at hspec himpl
    have hopen : ∀ (W W' : World) (e : Ending), WordsOk o W W' e → ∃ v, e = .returned (.tuple #[v, .bool y]) ∧ StrsO W' W.heap.size v ls ∧ Below W.heap.size W W' := by
      rintro W W' e ⟨v, h1, h2, h3⟩
      exact ⟨v, by rw [hy]; exact h1, by rw [hls]; exact h2, h3⟩
    have HS := Lib.hid hspec; have HI := Lib.hid himpl; have HO := Lib.hid hopen; have HT := Lib.hid ht; have HTT := Lib.hid ht2
    clear hy hls ht ho hlen hspec himpl hopen
    go_enter Try.func10, Try.ntmps10
    go_wp2_with fail
    refine (HS.out w).mono ?_
    intro e w1 h1
    obtain ⟨v0, rfl, h2, h3⟩ := HO.out _ _ _ h1
    have A1 := Lib.hid h2; have B1 := Lib.hid h3; clear h1 h2 h3
    go_wp2_with fail
    refine (HI.out w1).mono ?_
    intro e w2 h1
    obtain ⟨v1, rfl, h2, h3⟩ := HO.out _ _ _ h1
    have A2 := Lib.hid h2; have B2 := Lib.hid h3; clear h1 h2 h3
    go_wp2_with fail
    refine (eqStringO_same w2 _ _ v1 v0 ls A2.out (strsO_below A1.out B2.out)).mono ?_
    rintro e w3 ⟨rfl, h3⟩
    have B3 := Lib.hid h3; clear h3
    go_wp2_with fail
    refine (markStringO_any w3 _ 1 v1 ls (strsO_below A2.out B3.out) (Nat.le_trans B2.out.size B3.out.size) (by have h1 := HT.out; have h2 := HTT.out; omega)).mono ?_
    rintro e w4 ⟨rfl, h4, h5⟩
    rw [← HT.out]
    have A4 := Lib.hid h4; have B4 := Lib.hid h5; clear h4 h5
    go_wp2_with fail
    refine (heldStringO_any w4 _ 1 _ v1 A4.out (by have h1 := HT.out; have h2 := HTT.out; omega)).mono ?_
    rintro e w5 ⟨rfl, h5⟩
    rw [← HT.out]
    have B5 := Lib.hid h5; clear h5
    go_wp2_with fail
    refine (HI.out w5).mono ?_
    intro e w6 h1
    obtain ⟨v6, rfl, h2, h3⟩ := HO.out _ _ _ h1
    have A6 := Lib.hid h2; have B6 := Lib.hid h3; clear h1 h2 h3
    go_wp2_with fail
    have C6 := Lib.hid (below_trans (below_trans ((below_trans B2.out B3.out).trans B4.out) B5.out) B6.out)
    have A1' : Hid (StrsO w6 w.heap.size v0 ls) := strsO_below A1.out C6.out
    refine (eqStringO_same w6 _ _ v6 v0 ls A6.out A1'.out).mono ?_
    rintro e w7 ⟨rfl, h7⟩
    have B7 := Lib.hid h7; clear h7
    go_wp2_with fail
    refine (heldStringO_any w7 _ 1 _ v1 (strsO_below A4.out (below_trans B5.out (below_trans B6.out B7.out))) (by have h1 := HT.out; have h2 := HTT.out; omega)).mono ?_
    rintro e w8 ⟨rfl, h8⟩
    rw [← HT.out]
    have B8 := Lib.hid h8; clear h8
    go_wp2_with fail
    go_ret
    exact ⟨rfl, below_trans B1.out (below_trans C6.out (below_trans B7.out B8.out))⟩

end Go.Proofs.Ytfkaghiopnaghaa
