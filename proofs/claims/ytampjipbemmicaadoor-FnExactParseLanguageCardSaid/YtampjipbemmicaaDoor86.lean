/- Chapter 7: ParseLanguage, both sides. -/
import Derived.Test.YtampjipbemmicaaDoor85
import Derived.Deep.RegionWith
namespace Go.Proofs.YtampjipbemmicaaDoor
open Go.RowKit Go.BigFrame Go.Deep
set_option linter.unusedSimpArgs false
set_option linter.unusedVariables false
set_option maxRecDepth 4000

def parseS (l : List UInt8) : Option (List (List UInt8) × List UInt8) :=
  if l.length ≤ 150 then match splitL 58 l with
    | [a, b] => if langB (splitL 44 a) b = true then some (splitL 44 a, b) else none
    | _ => none
  else none
def parseI (l : List UInt8) : Option (List (List UInt8) × List UInt8) :=
  if (cutV l).2.2 = true ∧ langB (splitL 44 (cutV l).1) (cutV l).2.1 = true then some (splitL 44 (cutV l).1, (cutV l).2.1) else none
theorem szT_le8 : ∀ (ns : List (List UInt8)), (∀ x ∈ ns, x.length ≤ 8) → szT ns ≤ 8 * ns.length
  | [], _ => by simp [szT]
  | a :: t, h => by
    have h1 := szT_le8 t (fun m hm => h m (by simp [hm]))
    have h2 := h a (by simp)
    have e : szT (a :: t) = a.length + szT t := by simp [szT]
    rw [e, List.length_cons]; omega
theorem lang_szT {ns : List (List UInt8)} {fr : List UInt8} (h : langB ns fr = true) : szT ns ≤ 8 * ns.length := by
  refine szT_le8 ns fun x hx => ?_
  obtain ⟨i, hi, e⟩ := List.getElem_of_mem hx
  have := (nameB_len ((langB_parts h).2.2.2.2 i hi)).2
  rw [show ns.getD i [] = x from by rw [← e]; simp [List.getD, hi]] at this
  exact this
theorem ltrs_no58 {l : List UInt8} (h : ltrsB l = true) : 58 ∉ l := fun e => by
  have := List.all_eq_true.1 h 58 e
  revert this; decide
theorem parse_eq (l : List UInt8) : parseI l = parseS l := by
  unfold parseI parseS cutV
  by_cases hm : 58 ∈ l
  · obtain ⟨m, hml, h1, h2, h3, _⟩ := indexByte_mem hm
    have hsp := splitL_at m hml h2 h3
    rw [if_pos hm, h1]
    simp only [Int.toNat_natCast, true_and]
    obtain ⟨a, ha⟩ : ∃ a, a = l.take m := ⟨_, rfl⟩
    obtain ⟨f, hf⟩ : ∃ f, f = l.drop (m + 1) := ⟨_, rfl⟩
    rw [hsp, ← ha, ← hf]
    by_cases hg : langB (splitL 44 a) f = true
    · obtain ⟨p1, p2, p3, p4, _⟩ := langB_parts hg
      have hsz := lang_szT hg
      have htot := splitL_total 44 a
      have hal : a.length = m := by rw [ha, List.length_take]; omega
      have hfl : f.length = l.length - (m + 1) := by rw [hf, List.length_drop]
      rw [if_pos hg, if_pos (by omega), splitL_not (ltrs_no58 p4)]
      simp [hg]
    · rw [if_neg hg]
      by_cases h150 : l.length ≤ 150
      · rw [if_pos h150]
        cases hs : splitL 58 f with
        | nil => rfl
        | cons b r =>
          cases r with
          | cons x y => rfl
          | nil =>
            obtain ⟨_, rfl⟩ := splitL_one hs
            simp [hg]
      · rw [if_neg h150]
  · rw [if_neg hm, splitL_not hm]
    simp
/-- A language handed back, or the zero one. -/
def LangOk (o : Option (List (List UInt8) × List UInt8)) (w w' : World) (e : Ending) : Prop :=
  ∃ q d, e = .returned (.tuple #[.agg #[.slice q (o.getD ([], [])).1.length d, .string (bs (o.getD ([], [])).2)], .bool o.isSome]) ∧ Strs w' w.heap.size (.slice q (o.getD ([], [])).1.length d) (o.getD ([], [])).1 ∧ Below w.heap.size w w'
theorem langOk_none {w w' : World} (hb : Below w.heap.size w w') : LangOk none w w' (.returned (.tuple #[.agg #[.slice none 0 0, .string ⟨#[]⟩], .bool false])) := ⟨none, 0, rfl, World.ownsRow_nil _ _ _ _, hb⟩
/-- Zeros stored into a block of two cells. -/
theorem zero_below {w w1 : World} (h : Below w.heap.size w w1) (a b : Value) : Below w.heap.size w ((w1.setCell ⟨w.heap.size, 0, none⟩ a).setCell ⟨w.heap.size, 1, none⟩ b) := (h.setCell (Nat.le_refl _) _).setCell (Nat.le_refl _) _

theorem cloneN_any (s : ByteArray) (w : World) (hs : s.size ≤ 281474976710656) :
    Calls Tryd.prog 78 #[.string s] w fun e w' => e = .returned (.string s) ∧ Below w.heap.size w w' := by
  go_enter Tryd.func78, Tryd.ntmps78
  go_wp2_with fail
  refine (Tryd.stringslite_Clone s w hs).mono ?_
  rintro e w1 ⟨rfl, hb⟩
  have HB := Lib.hid hb; clear hb
  go_wp2_with fail
  go_ret
  exact ⟨rfl, HB.out⟩
theorem splitN_any (l : List UInt8) (w : World) (h9 : l.length ≤ 2000000) :
    Calls Tryd.prog 79 #[.string (bs l), .string ⟨#[44]⟩] w fun e w' => ∃ g d, e = .returned (.slice (some ⟨g, 0, none⟩) (splitL 44 l).length d) ∧ Strs w' w.heap.size (.slice (some ⟨g, 0, none⟩) (splitL 44 l).length d) (splitL 44 l) ∧ Below w.heap.size w w' := by
  have HG := Lib.hid (fun (W : World) => genSplit_any l W h9)
  obtain ⟨R, hR⟩ : ∃ R, R = splitL 44 l := ⟨_, rfl⟩
  rw [← hR] at HG ⊢
  obtain ⟨n, hn⟩ : ∃ n, n = R.length := ⟨_, rfl⟩
  rw [← hn] at HG ⊢
  clear hR hn
  go_enter Tryd.func79, Tryd.ntmps79
  go_wp2_with fail
  refine (HG.out _).mono ?_
  rintro e w1 ⟨g, d, rfl, hs, hb⟩
  have HS := Lib.hid hs; have HB := Lib.hid hb; clear hs hb
  go_wp2_with fail
  go_ret
  exact ⟨g, d, rfl, HS.out, HB.out⟩

set_option maxHeartbeats 2000000 in
theorem implParseLanguage_any (l : List UInt8) (w : World) (h9 : l.length ≤ 1048576) :
    Calls Tryd.prog 46 #[.string (bs l)] w fun e w' => LangOk (parseI l) w w' e := by
  have HCL := Lib.hid (fun (W : World) => cloneN_any (bs l) W (by rw [bs_size]; omega))
  have hcut := fun (W : World) => cutN_any l W (by omega)
  have hal : (cutV l).1.length ≤ 1048576 := by
    unfold cutV; split
    · rw [List.length_take]; omega
    · exact h9
  have hbl : (cutV l).2.1.length ≤ 1048576 := by
    unfold cutV; split
    · rw [List.length_drop]; omega
    · simp
  obtain ⟨O, hO⟩ : ∃ O, O = parseI l := ⟨_, rfl⟩
  rw [← hO]
  unfold parseI at hO
  obtain ⟨⟨a, f, t⟩, hv⟩ : ∃ v, v = cutV l := ⟨_, rfl⟩
  rw [← hv] at hcut hO hal hbl
  simp only at hcut hO hal hbl
  have hgs := fun (W : World) => splitN_any a W (by omega)
  obtain ⟨ns, hns⟩ : ∃ ns, ns = splitL 44 a := ⟨_, rfl⟩
  have hszn : szT ns ≤ 1048576 := by have := splitL_total 44 a; have := splitL_len 44 a; rw [hns]; omega
  rw [← hns] at hO hgs
  obtain ⟨N, hN⟩ : ∃ N, N = ns.length := ⟨_, rfl⟩
  rw [← hN] at hgs
  have HLG := Lib.hid (fun (W : World) (B : Nat) (v : Value) (hs : Strs W B v ns) => implIsLanguage_any W v ns f (strsO_argS hs hszn) (by omega))
  have HCU := Lib.hid hcut; have HGS := Lib.hid hgs; have HO := Lib.hid hO; have HN := Lib.hid hN
  clear hcut hgs hO hv hns hszn hal hbl hN h9
  go_enter Tryd.func46, Tryd.ntmps46
  go_wp2_with fail
  refine (HCL.out _).mono ?_
  rintro e w1 ⟨rfl, hb1⟩
  have hz1 := (twoAt_new w (.slice none 0 0) (.string ⟨#[]⟩) 27).below hb1
  have HB1 := Lib.hid (below_trans (below_alloc _ _) hb1); have HZ1 := Lib.hid hz1
  clear hb1 hz1
  go_wp2_with fail
  refine (HCU.out _).mono ?_
  rintro e w2 ⟨rfl, hb2⟩
  have HB2 := Lib.hid (below_trans HB1.out hb2); have HZ2 := Lib.hid (HZ1.out.below hb2)
  clear hb2
  go_wp2_with fail
  refine (HGS.out _).mono ?_
  rintro e w3 ⟨g, d, rfl, hs3, hb3⟩
  have HS3 := Lib.hid hs3; have HB3 := Lib.hid (below_trans HB2.out hb3); have hz3 := HZ2.out.below hb3
  have HX3 := Lib.hid hb3.size
  cases t with
  | false =>
    have E : O = none := by rw [HO.out]; simp
    subst E
    have hz4 := hz3.below (below_alloc w3 (.cells #[.slice (some ⟨g, 0, none⟩) N d, .string (bs f)] 27))
    obtain ⟨c0, c1, f0, f1⟩ := hz4.cells
    have HB4 := Lib.hid (below_trans HB3.out (below_alloc w3 (.cells #[.slice (some ⟨g, 0, none⟩) N d, .string (bs f)] 27)))
    clear hs3 hb3 hz3 hz4
    go_wp2_with fail
    refine bodyPost_ret (v := .tuple #[.agg #[.slice none 0 0, .string ⟨#[]⟩], .bool false]) ?_ rfl (langOk_none (zero_below HB4.out _ _))
    simp [results, Tryd.results46, go_sem, c0, c1]
  | true =>
    have hO2 : O = if langB ns f = true then some (ns, f) else none := by rw [HO.out]; simp
    have HO2 := Lib.hid hO2
    have HZ3 := Lib.hid hz3
    clear hs3 hb3 hz3 hO2
    go_wp2_with fail
    refine (HLG.out _ w2.heap.size _ (strs_below HS3.out (below_alloc _ _))).mono ?_
    rintro e w4 ⟨rfl, hb4⟩
    have hb34 := below_trans (below_alloc w3 (.cells #[.slice (some ⟨g, 0, none⟩) N d, .string (bs f)] 27)) hb4
    have hz4 := HZ3.out.below hb34
    have hy4 := (twoAt_new w3 (.slice (some ⟨g, 0, none⟩) N d) (.string (bs f)) 27).below hb4
    have HS4 := Lib.hid (strs_below HS3.out hb34)
    have HB4 := Lib.hid (below_trans HB3.out hb34)
    obtain ⟨c0, c1, f0, f1⟩ := hz4.cells
    obtain ⟨k0, k1, _, _⟩ := hy4.cells
    have HZ2L := Lib.hid HZ2.out.lt
    clear hb4 hb34 hz4 hy4
    generalize hL : langB ns f = b at *
    cases b with
    | false =>
      have E : O = none := by rw [HO2.out]; rfl
      subst E
      go_wp2_with fail
      refine bodyPost_ret (v := .tuple #[.agg #[.slice none 0 0, .string ⟨#[]⟩], .bool false]) ?_ rfl (langOk_none (zero_below HB4.out _ _))
      simp [results, Tryd.results46, go_sem, c0, c1]
    | true =>
      have E : O = some (ns, f) := by rw [HO2.out]; rfl
      subst E
      go_wp2_with fail
      refine bodyPost_ret (v := .tuple #[.agg #[.slice (some ⟨g, 0, none⟩) N d, .string (bs f)], .bool true]) ?_ rfl ⟨some ⟨g, 0, none⟩, d, ?_, ?_, zero_below HB4.out _ _⟩
      · simp [results, Tryd.results46, go_sem, c0, c1]
      · rw [HN.out]; rfl
      · show Strs _ _ (.slice (some ⟨g, 0, none⟩) ns.length d) ns
        have hs := HS4.out
        rw [HN.out] at hs
        refine own_mono (own_block hs fun q hq => ?_) HB2.out.size
        have hq2 := (World.ownsRow.lt hs q hq).1
        have := HZ2L.out
        rw [Below.heap_setCell _ _ _ _ (by show q ≠ w.heap.size; omega), Below.heap_setCell _ _ _ _ (by show q ≠ w.heap.size; omega)]
end Go.Proofs.YtampjipbemmicaaDoor
