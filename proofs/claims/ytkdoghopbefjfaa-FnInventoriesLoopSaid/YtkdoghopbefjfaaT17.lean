/- The words of the loop: the model's and the program's LoopWords, and the law. -/
import Derived.Test.YtkdoghopbefjfaaT16
import Derived.Test.YtkdoghopbefjfaaE5
namespace Go.Proofs.Ytkdoghopbefjfaa
open Go.RowKit Go.BigFrame
set_option linter.unusedSimpArgs false
set_option linter.unusedVariables false
set_option maxRecDepth 4000

def wordsO (o : Option (List (List UInt8) × Nat)) : List (List UInt8) := (o.getD ([], 0)).1.drop (o.getD ([], 0)).2
def WordsOk (o : Option (List (List UInt8) × Nat)) (w w' : World) (e : Ending) : Prop :=
  ∃ v, e = .returned (.tuple #[v, .bool o.isSome]) ∧ StrsO w' w.heap.size v (wordsO o) ∧ Below w.heap.size w w'
theorem add_plainT (b o r : Nat) : (⟨b, o, none⟩ : Addr).add r = ⟨b, o + r, none⟩ := by
  unfold Addr.add
  split
  · subst_vars; rfl
  · rfl

set_option maxHeartbeats 1000000 in
theorem l1OwnS_any (w : World) (g o m c : Nat) (ls : List (List UInt8)) (hm : m = ls.length) (h9 : m ≤ 2000000000) (hc : ∀ j (hj : j < ls.length), w.cell? ⟨g, o + j, none⟩ = some (.string (bs ls[j]))) :
    Calls Try.prog 55 #[.slice (some ⟨g, o, none⟩) m c] w fun e w' => ∃ v, e = .returned v ∧ w'.ownsRow w.heap.size 9 1 v m (strVs ls) ∧ Below w.heap.size w w' := by
  obtain ⟨i0, hi, hz0, hz1, hz2⟩ := info_parts info_str
  have HC := Lib.hid hc; have HM := Lib.hid hm; clear hc hm
  go_enter Try.func55, Try.ntmps55
  go_wp2_with (at_builtin; refine wpList_app _ rfl _ _ 27 rfl w.heap.size 9 i0 (.string ⟨#[]⟩) 16 Try.underlying27 hi hz0 hz1 hz2 rfl _ 0 [] rfl (own_lit w w.heap.size 9 [] (Nat.le_refl _) (by simp [maxLen])) ⟨g, o, none⟩ m c (strVs ls) rfl (by rw [HM.out]; simp [strVs]) ?c1 ?c2 ?c3 ?c4 ?c5 ?_)
  case c1 =>
    intro j u hj
    rw [add_plainT]
    obtain ⟨hjl, e⟩ := List.getElem?_eq_some_iff.1 hj
    have hjl' : j < ls.length := by simpa [strVs] using hjl
    have hlt := World.block_lt_of_cell? w _ (HC.out j hjl')
    rw [(below_alloc w _).cell (p := ⟨g, o + j, none⟩) hlt, HC.out j hjl', ← e]
    simp [strVs]
  case c2 =>
    intro u hu
    simp only [strVs, List.mem_map] at hu
    obtain ⟨l, _, rfl⟩ := hu
    rfl
  case c3 => unfold maxLen; omega
  case c4 => omega
  case c5 => simp
  intro v' w3 hown' hgrow _
  have R1 := Lib.hid hown'
  have R2 := Lib.hid ((below_alloc w _).grown hgrow (by simp) (fun q hq => by cases hq; exact Nat.le_refl _))
  clear hown' hgrow
  go_wp2_with fail
  go_ret
  refine ⟨_, rfl, ?_, R2.out⟩
  have := R1.out
  simpa using this

/-- A way that is owned: its cells. -/
theorem loopOk_cells {o : Option (List (List UInt8) × Nat)} {w w' : World} {e : Ending} (h : LoopOk o w w' e) :
    (o = none ∧ e = .returned (.tuple #[.slice none 0 0, .int .i64 0, .bool false]) ∧ Below w.heap.size w w') ∨
    ∃ way i g n c, o = some (way, i) ∧ n = way.length ∧ i < n ∧ n ≤ 2000000000 ∧ n ≤ c ∧ c ≤ 9223372036854775807 ∧ w.heap.size ≤ g ∧ g < w'.heap.size ∧ e = .returned (.tuple #[.slice (some ⟨g, 0, none⟩) n c, .int .i64 (i : Int), .bool true]) ∧
      (∀ j (hj : j < way.length), w'.cell? ⟨g, j, none⟩ = some (.string (bs way[j]))) ∧ (∀ j, w'.frozen? ⟨g, j, none⟩ = false) ∧ Below w.heap.size w w' := by
  obtain ⟨v, rfl, h2, h3, h4, h5⟩ := h
  cases o with
  | none => rw [h4 rfl]; exact .inl ⟨rfl, rfl, h3⟩
  | some p =>
    obtain ⟨way, i⟩ := p
    obtain ⟨h6, h7⟩ := h5 (by simp)
    simp only [Option.getD_some] at h2 h6 h7
    rcases own_open h2 with ⟨_, h0, _⟩ | ⟨g, c, rfl, hB, hg, hc1, hc2, _, _, hfr⟩
    · omega
    unfold maxLen at hc2
    exact .inr ⟨way, i, g, _, c, rfl, rfl, h6, h7, hc1, by omega, hB, hg, rfl, fun j hj => strs_cells h2 rfl j hj, hfr, h3⟩

set_option maxHeartbeats 1000000 in
theorem specLoopWords_any (s : ByteArray) (w : World) (hs : s.size ≤ maxLen) (K : Nat) (hK : 1000000010 ≤ K) :
    Calls Try.prog 12 #[.string s] w fun e w' => WordsOk (loopO K s.data.toList) w w' e := by
  have h1 := taWay_any s w hs K hK
  obtain ⟨o, ho⟩ : ∃ o, o = loopO K s.data.toList := ⟨_, rfl⟩
  rw [← ho] at h1 ⊢
  have H1 := Lib.hid h1; clear h1 ho
  go_enter Try.func12, Try.ntmps12
  go_wp2_with fail
  refine H1.out.mono ?_
  intro e w1 h
  rcases loopOk_cells h with ⟨rfl, rfl, hb⟩ | ⟨way, i, g, n, c, rfl, hn, hin, hn9, hnc, hcm, hBg, hg, rfl, hce, hfr, hb⟩
  · have HB := Lib.hid hb; clear hb h H1
    go_wp2_with fail
    go_ret2
    exact ⟨_, rfl, .inl ⟨rfl, rfl⟩, HB.out⟩
  · subst hn
    have hlen : way.length - i = (way.drop i).length := by simp
    have how := fun W (hbW : Below w1.heap.size w1 W) => l1OwnS_any W g i (way.length - i) (c - i) (way.drop i) hlen (by omega) (fun j hj => by
      rw [hbW.cell (p := ⟨g, i + j, none⟩) hg, hce (i + j) (by simp at hj; omega)]
      simp)
    have HB := Lib.hid hb; have HOW := Lib.hid how; have HL := Lib.hid hlen; clear hb h H1 hce hfr how hlen
    have hi0 : (0 : Int) ≤ (i : Int) := by omega
    have hile : (i : Int) ≤ (way.length : Int) := by omega
    have hadd : (⟨g, 0, none⟩ : Addr).add i = ⟨g, i, none⟩ := by rw [add_plainT, Nat.zero_add]
    go_wp2_with fail
    refine (HOW.out w1 (Below.refl _ _)).mono ?_
    rintro e w2 ⟨v, rfl, h2, h3⟩
    have H2 := Lib.hid h2; have H3 := Lib.hid h3; clear h2 h3
    go_wp2_with fail
    go_ret2
    refine ⟨v, rfl, strsO_of ?_, below_trans HB.out H3.out⟩
    have := own_mono H2.out HB.out.size
    rw [HL.out] at this
    exact this

set_option maxHeartbeats 1000000 in
theorem implLoopWords_any (s : ByteArray) (w : World) (hs : s.size ≤ maxLen) (K : Nat) (hK : 1000000010 ≤ K) :
    Calls Try.prog 11 #[.string s] w fun e w' => WordsOk (loopO K s.data.toList) w w' e := by
  have h1 := inventoriesFrom_any s w hs K hK
  obtain ⟨o, ho⟩ : ∃ o, o = loopO K s.data.toList := ⟨_, rfl⟩
  rw [← ho] at h1 ⊢
  have H1 := Lib.hid h1; clear h1 ho
  go_enter Try.func11, Try.ntmps11
  go_wp2_with fail
  refine H1.out.mono ?_
  intro e w1 h
  rcases loopOk_cells h with ⟨rfl, rfl, hb⟩ | ⟨way, i, g, n, c, rfl, hn, hin, hn9, hnc, hcm, hBg, hg, rfl, hce, hfr, hb⟩
  · have HB := Lib.hid hb; clear hb h H1
    go_wp2_with fail
    go_ret2
    exact ⟨_, rfl, .inl ⟨rfl, rfl⟩, HB.out⟩
  · subst hn
    have hlen : way.length - i = (way.drop i).length := by simp
    have hst : ∀ j (hj : j < (way.drop i).length), w1.cell? ⟨g, i + j, none⟩ = some (.string (bs (way.drop i)[j])) := fun j hj => by
      rw [hce (i + j) (by simp at hj; omega)]
      simp
    have HB := Lib.hid hb; have HL := Lib.hid hlen; have HST := Lib.hid hst; have HFR := Lib.hid hfr; clear hb h H1 hce hfr hlen hst
    have hi0 : (0 : Int) ≤ (i : Int) := by omega
    have hile : (i : Int) ≤ (way.length : Int) := by omega
    have hadd : (⟨g, 0, none⟩ : Addr).add i = ⟨g, i, none⟩ := by rw [add_plainT, Nat.zero_add]
    go_wp2_with fail
    go_ret2
    refine ⟨_, rfl, .inr ⟨g, i, c - i, ?_, hBg, hg, by rw [show (wordsO (some (way, i))).length = (way.drop i).length from rfl, ← HL.out]; omega, by omega, HST.out, HFR.out⟩, HB.out⟩
    show Value.slice _ _ _ = Value.slice _ _ _
    rw [show (wordsO (some (way, i))).length = (way.drop i).length from rfl, ← HL.out]

/-- A loop's way has at most so many texts. -/
theorem loopF_len (x0 : List UInt8) : ∀ (K : Nat) (way : List (List UInt8)) (x : List UInt8) (p : List (List UInt8) × Nat), Way invO x0 way x → loopF invO K way x = some p → p.1.length ≤ 1000000001
  | 0, _, _, _, _, h => by simp [loopF] at h
  | K + 1, way, x, p, hw, h => by
    unfold loopF at h
    split at h
    · rw [← Option.some.inj h]; exact wayI_len hw
    · rename_i hx
      split at h
      · cases h
      · rename_i y hy
        exact loopF_len x0 K _ _ p (way_snoc hw hx hy) h
theorem loopO_len (s : ByteArray) (K : Nat) (hK : 1000000010 ≤ K) : ((loopO K s.data.toList).getD ([], 0)).1.length ≤ 1000000001 := by
  cases h : loopO K s.data.toList with
  | none => simp
  | some p =>
    unfold loopO at h
    split at h
    · exact loopF_len s.data.toList K [] _ p (way_nil _ _) h
    · cases h
theorem wordsO_len (s : ByteArray) (w : World) (hs : s.size ≤ maxLen) (K : Nat) (hK : 1000000010 ≤ K) : (wordsO (loopO K s.data.toList)).length ≤ 2000000000 := by
  have h := loopO_len s K hK
  unfold wordsO
  rw [List.length_drop]
  omega

end Go.Proofs.Ytkdoghopbefjfaa
