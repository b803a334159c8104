/- Told again and again until a list comes again: pure facts; the model's LoopOfTelling. -/
import Derived.Test.YtkdoghopbefjfaaU8
import Derived.Test.YtkdoghopbefjfaaT3
namespace Go.Proofs.Ytkdoghopbefjfaa
open Go.RowKit Go.BigFrame
set_option linter.unusedSimpArgs false
set_option linter.unusedVariables false
set_option maxRecDepth 4000

/-- What is told of a list of L numbers. -/
def fT (L : Nat) (a : List Nat) : Option (List Nat) := if a.length = L then some (tel L a) else none
theorem fT_some {L : Nat} {a u : List Nat} (h : fT L a = some u) : u.length = L ∧ ∀ x ∈ u, x ≤ L := by
  unfold fT at h
  split at h
  · rename_i e
    cases h
    exact ⟨tel_len _ _, fun x hx => by have := tel_le L a x hx; omega⟩
  · cases h
theorem wayT_len {L : Nat} (h9 : L ≤ 9) {x0 x : List Nat} {way : List (List Nat)} (h : Way (fT L) x0 way x) : way.length ≤ 1000000001 := by
  refine way_len h code9 1000000000 (fun a b u v ha hb e => ?_) (fun a u ha => ?_)
  · obtain ⟨h1, h2⟩ := fT_some ha
    obtain ⟨k1, k2⟩ := fT_some hb
    exact code9_inj u v (by omega) (fun n hn => by have := h2 n hn; omega) (fun n hn => by have := k2 n hn; omega) e
  · obtain ⟨h1, h2⟩ := fT_some ha
    have := code9_lt u (fun n hn => by have := h2 n hn; omega)
    rw [h1] at this
    have h10 : 10 ^ L ≤ 10 ^ 9 := Nat.pow_le_pow_right (by omega) h9
    have h11 : 10 ^ 9 = 1000000000 := by decide
    omega
theorem wayT_good {L : Nat} {x0 x : List Nat} {way : List (List Nat)} (h : Way (fT L) x0 way x) (h0 : x0.length = L ∧ ∀ y ∈ x0, y ≤ L) : ∀ a ∈ way, a.length = L ∧ ∀ y ∈ a, y ≤ L := by
  intro a ha
  rcases way_made h a ha with rfl | ⟨b, hb⟩
  · exact h0
  · exact fT_some hb
theorem idxN_at (x : List Nat) : ∀ (l : List (List Nat)) (k : Nat) (hk : k < l.length), l[k] = x → (∀ j (hj : j < l.length), j < k → l[j] ≠ x) → x ∈ l ∧ posL x l = k
  | [], k, hk, _, _ => by simp at hk
  | a :: r, 0, _, h, _ => by
    simp at h; subst h
    exact ⟨List.mem_cons_self, by simp [posL]⟩
  | a :: r, k + 1, hk, h, hn => by
    have h0 : a ≠ x := hn 0 (by simp) (by omega)
    obtain ⟨h1, h2⟩ := idxN_at x r k (by simpa using hk) (by simpa using h) (fun j hj hjk => hn (j + 1) (by simpa using hj) (by omega))
    exact ⟨List.mem_cons_of_mem _ h1, by unfold posL; rw [if_neg h0, h2]⟩
theorem idxN_none {x : List Nat} {l : List (List Nat)} (h : ∀ j (hj : j < l.length), l[j] ≠ x) : x ∉ l := by
  intro hm
  obtain ⟨i, hi, e⟩ := List.mem_iff_getElem.1 hm
  exact h i hi e
theorem loopN_step {K m : Nat} {f : List Nat → Option (List Nat)} {way : List (List Nat)} {x : List Nat} (hK : K = m + 1) (hx : x ∉ way) : loopF f K way x = match f x with | none => none | some y => loopF f m (way ++ [x]) y := by
  subst hK; rw [loopF, if_neg hx]; cases f x <;> rfl
theorem loopN_end {K m : Nat} {f : List Nat → Option (List Nat)} {way : List (List Nat)} {x : List Nat} (hK : K = m + 1) (hx : x ∈ way) : loopF f K way x = some (way, posL x way) := by
  subst hK; rw [loopF, if_pos hx]
def tailN (o : Option (List (List Nat) × Nat)) : Int := ((o.getD ([], 0)).2 : Int)
def cycN (o : Option (List (List Nat) × Nat)) : Int := ((o.getD ([], 0)).1.length : Int) - ((o.getD ([], 0)).2 : Int)
/-- Three results: the tail, the loop, and whether they are there. -/
def loopV (o : Option (List (List Nat) × Nat)) : Value := .tuple #[.int .i64 (tailN o), .int .i64 (cycN o), .bool o.isSome]
def lenT : Value → Nat
  | .slice _ n _ => n
  | _ => 0
/-- The loop of a told list, or nothing. -/
def loopTO (K : Nat) (xs : List Int) : Option (List (List Nat) × Nat) := if tolL xs = true then loopF (fT xs.length) K [] (xs.map Int.toNat) else none
theorem loopTO_ti {K : Nat} {ns : List Nat} (h : tolL (ti ns) = true) : loopTO K (ti ns) = loopF (fT ns.length) K [] ns := by
  unfold loopTO
  rw [if_pos h, ti_len]
  congr 1
  simp only [ti, List.map_map]
  exact List.map_id ns

set_option maxHeartbeats 4000000 in
theorem specLoopOfTelling_good (w : World) (B : Nat) (v : Value) (ns : List Nat) (K : Nat) (hK : 1000000010 ≤ K) (ha : IntsA w B v (ti ns)) (ht : tolL (ti ns) = true) (h1 : 1 ≤ ns.length) (h9 : ns.length ≤ 9) (hle : ∀ x ∈ ns, x ≤ ns.length) :
    Calls Try.prog 41 #[v] w fun e w' => e = .returned (loopV (loopF (fT ns.length) K [] ns)) ∧ Below w.heap.size w w' := by
  obtain ⟨i0, hi, hz0, hz1, hz2⟩ := info_parts info_rowT
  have hL := taList_any w B v _ ha
  have hown := l1Own_any w B v _ ha (by rw [ti_len]; exact h1) (by rw [ti_len]; omega)
  rw [ht] at hL
  rw [ti_len] at hown
  obtain ⟨R, hR⟩ : ∃ R, R = loopF (fT ns.length) K [] ns := ⟨_, rfl⟩
  rw [← hR]
  obtain ⟨L, hLL⟩ : ∃ L, L = ns.length := ⟨_, rfl⟩
  rw [← hLL] at hown h1 h9 hR
  have hns : ns.length = L ∧ ∀ y ∈ ns, y ≤ L := ⟨hLL.symm, by rw [hLL]; exact hle⟩
  obtain ⟨a, cap, rfl, _, _⟩ := intsA_slice ha
  have HL := Lib.hid hL; have HOW := Lib.hid hown; have HR := Lib.hid hR; have HNS := Lib.hid hns
  clear hL hown ht hle ha hLL hR hns
  go_enter Try.func41, Try.ntmps41
  go_wp2_with fail
  refine HL.out.mono ?_
  rintro e w1 ⟨rfl, rfl⟩
  go_wp2_with fail
  refine HOW.out.mono ?_
  rintro e w1 ⟨g, c, rfl, ho, hb⟩
  have h1r := intsRA_one ho hb.size
  have H1 := Lib.hid h1r; have HB1 := Lib.hid (below_trans hb (below_alloc w1 (.cells #[.slice (some ⟨g, 0, none⟩) L c] 32)))
  clear ho hb h1r HL HOW
  go_wp2_with fail
  go_loopw [5] (fun v wr => ∃ (way : List (List Nat)) (x : List Nat) (n : Nat) (vs : List Value) (q : Option Addr) (d : Nat), n = way.length ∧ v = .slice q (n + 1) d ∧ Hid (Way (fT L) ns way x ∧ x ∉ way ∧ (x.length = L ∧ ∀ y ∈ x, y ≤ L) ∧ loopF (fT L) (K - n) way x = R ∧ IntsRA wr w.heap.size (.slice q (n + 1) d) vs ((way ++ [x]).map ti) ∧ Below w.heap.size w wr)) (fun v _ => K + 1 - lenT v)
  case atStart => exact ⟨[], ns, 0, _, _, _, rfl, rfl, way_nil _ _, by simp, HNS.out, HR.out.symm, H1.out, HB1.out⟩
  case round =>
    obtain ⟨way, x, n, vs, q, d, hn, rfl, HX⟩ := hrel
    obtain ⟨hway, hxn, hxg, hloop, hra, hbl⟩ := HX.out
    have hwl := wayT_len h9 hway
    have hn9 : n ≤ 1000000001 := by omega
    rcases intsRA_open hra with ⟨e, _⟩ | ⟨g', cap', e, _, hcp, hg', _, hce⟩
    · cases e
    have hgg : q = some ⟨g', 0, none⟩ ∧ d = cap' := by simp only [Value.slice.injEq] at e; exact ⟨e.1, e.2.2⟩
    obtain ⟨rfl, rfl⟩ := hgg
    obtain ⟨u, hu0, hu, hcu⟩ := hce n (by simp; omega)
    have hrk : ((way ++ [x]).map ti)[n]'(by simp; omega) = ti x := by simp [hn]
    rw [hrk] at hu
    have htl := taTell_any wr w.heap.size u x hu (by omega) (by omega)
    rw [hxg.1] at htl
    have hst := loopN_step (K := K - n) (m := K - (n + 1)) (f := fT L) (way := way) (x := x) (by omega) hxn
    have hft : fT L x = some (tel L x) := by unfold fT; rw [if_pos hxg.1]
    rw [hloop, hft] at hst
    dsimp only at hst
    obtain ⟨y, hy⟩ : ∃ y, y = tel L x := ⟨_, rfl⟩
    rw [← hy] at htl hst hft
    have hyg := fT_some hft
    have hvl := hra.len
    have hszr := hbl.size
    have HTL := Lib.hid htl; have HST := Lib.hid hst; have HFT := Lib.hid hft; have HYG := Lib.hid hyg; have HVL := Lib.hid hvl; have HNN := Lib.hid hn; have HCE := Lib.hid hce
    clear htl hst hft hyg hvl hrk hu hu0 hn hway hxn hxg hloop hra hbl hwl e hy hce
    go_wp2_with fail
    refine HTL.out.mono ?_
    rintro e w2 ⟨gt, rfl, ho2, hb2⟩
    have hnew : IntsA w2 wr.heap.size (.slice (some ⟨gt, 0, none⟩) L L) (ti y) := intsA_of (by
      rw [tvl_ti] at ho2
      unfold Ints
      simpa [ti_len, HYG.out.1] using ho2)
    have HNEW := Lib.hid hnew; have HB2 := Lib.hid hb2
    clear ho2 hb2 hnew hcu
    go_wp2_with fail
    go_loopw [24] (fun i wq => ∃ k : Nat, i = .int .i64 k ∧ k ≤ n + 1 ∧ Hid ((∀ j (hj : j < (way ++ [x]).length), j < k → (way ++ [x])[j] ≠ y) ∧ Below w2.heap.size w2 wq)) (fun i _ => n + 1 - (intOf i).toNat)
    case atStart => exact ⟨0, rfl, Nat.zero_le _, fun j _ h => by omega, below_refl _⟩
    case round =>
      obtain ⟨k, rfl, hk, HY⟩ := hrel
      by_cases hlt : k < n + 1
      · have hk' : k < (way ++ [x]).length := by have := HNN.out; simp; omega
        obtain ⟨u, _, hu, hcu⟩ := HCE.out k (by simpa using hk')
        have hbr := below_trans HB2.out HY.out.2
        have h1 : wr.cell? ⟨g', k, none⟩ = some u := (hbr.cell (p := ⟨g', k, none⟩) hg').trans hcu
        obtain ⟨z, hz⟩ : ∃ z, z = (way ++ [x])[k] := ⟨_, rfl⟩
        have hzk : ((way ++ [x]).map ti)[k]'(by simpa using hk') = ti z := by rw [hz, List.getElem_map]
        rw [hzk] at hu
        have hzl : z.length = L := by
          have hm : z ∈ way ++ [x] := by rw [hz]; exact List.getElem_mem _
          rw [List.mem_append] at hm
          rcases hm with hm | hm
          · exact (wayT_good HX.out.1 HNS.out z hm).1
          · simp at hm; subst hm; exact HX.out.2.2.1.1
        have hsm := l1Same_any wr _ _ u (.slice (some ⟨gt, 0, none⟩) L L) (ti z) (ti y) (intsA_below hu hbr) (intsA_below HNEW.out HY.out.2) (by rw [ti_len]; omega) (by rw [ti_len, ti_len, hzl, HYG.out.1])
        have hdd : decide (ti z = ti y) = decide (z = y) := by
          by_cases e : z = y
          · rw [decide_eq_true e]; exact decide_eq_true (by rw [e])
          · rw [decide_eq_false e]; exact decide_eq_false (fun h => e (ti_inj h))
        rw [hdd] at hsm
        by_cases he : z = y
        · rw [decide_eq_true he] at hsm
          obtain ⟨i1, i2⟩ := idxN_at y (way ++ [x]) k hk' (by rw [← hz]; exact he) HY.out.1
          have hst := HST.out
          rw [loopN_end (m := K - (n + 2)) (by omega) i1, i2] at hst
          have HS2 := Lib.hid hst; have HSM := Lib.hid hsm
          clear hst hz he i1 i2 HST hsm hdd hzk hu hcu hzl hbr
          go_wp2_with fail
          refine HSM.out.mono ?_
          rintro e w4 ⟨rfl, hb4⟩
          have HB4 := Lib.hid hb4; clear hb4
          go_wp2_with fail
          go_ret3
          refine ⟨?_, HX.out.2.2.2.2.2.trans ((below_trans HB2.out (below_trans HY.out.2 HB4.out)).mono hszr)⟩
          rw [HS2.out]
          have e : (((way ++ [x]).length : Nat) : Int) = (n : Int) + 1 := by have := HNN.out; simp; omega
          simp only [loopV, tailN, cycN, Option.getD_some, Option.isSome_some, e]
          rfl
        · rw [decide_eq_false he] at hsm
          have hnw : Hid (∀ j (hj : j < (way ++ [x]).length), j < k + 1 → (way ++ [x])[j] ≠ y) := fun j hj h => by
            by_cases e : j = k
            · subst e; rw [← hz]; exact he
            · exact HY.out.1 j hj (by omega)
          have HSM := Lib.hid hsm
          clear hz he hsm hdd hzk hu hcu hzl hbr
          go_wp2_with fail
          refine HSM.out.mono ?_
          rintro e w4 ⟨rfl, hb4⟩
          have HB4 := Lib.hid hb4; clear hb4
          go_wp2_with fail
          go_roundw
          case rel => exact ⟨k + 1, by go_num, by omega, hnw.out, below_trans HY.out.2 HB4.out⟩
          case measure => simp [intOf] <;> omega
      · obtain rfl : k = n + 1 := by omega
        have hno : y ∉ way ++ [x] := idxN_none (fun j hj => HY.out.1 j hj (by have := HNN.out; simp at hj; omega))
        have HNO := Lib.hid hno; clear hno
        have hbr := below_trans HB2.out HY.out.2
        have hX2 := intsRA_below HX.out.2.2.2.2.1 hbr
        have hX3 := intsRA_below hX2 (below_alloc wr (.cells #[.slice (some ⟨gt, 0, none⟩) L L] 32))
        have hN3 := intsA_below (intsA_below HNEW.out HY.out.2) (below_alloc wr (.cells #[.slice (some ⟨gt, 0, none⟩) L L] 32))
        have HX3 := Lib.hid hX3; have HN3 := Lib.hid hN3; have HX2 := Lib.hid hX2
        have HBW := Lib.hid (HX.out.2.2.2.2.2.trans (hbr.mono hszr))
        have HLT := Lib.hid (fun z hz => (HX.out.2.2.2.2.1.outer.lt z hz).2)
        clear hX2 hX3 hN3 hbr
        go_wp2_with (at_builtin; refine wpList_app _ rfl _ _ 51 rfl w.heap.size 32 i0 (.slice none 0 0) 24 Try.underlying51 hi hz0 hz1 hz2 rfl _ (n + 1) vs rfl (by have := HX3.out.outer; have e : vs.length = n + 1 := (by rw [← HVL.out]; have := HNN.out; simp; omega); rw [e] at this; exact this) ⟨wr.heap.size, 0, none⟩ 1 1 [.slice (some ⟨gt, 0, none⟩) L L] rfl rfl ?c1 ?c2 ?c3 ?c4 ?c5 ?_)
        case c2 => intro u hu; simp at hu; subst hu; rfl
        case c3 => unfold maxLen; omega
        case c4 => omega
        case c5 => have := HBW.out.size; simp; omega
        all_goals try (intro j u hj; match j, hj with | 0, hj => (simp at hj; subst hj; simp [Addr.add]))
        intro v' w3 hown' hgrow hwh
        obtain ⟨av', cv', rfl⟩ := own_slice hown'
        have hvl : vs.length = n + 1 := by rw [← HVL.out]; have := HNN.out; simp; omega
        have hsn := intsRA_snoc (u := .slice (some ⟨gt, 0, none⟩) L L) (xs := ti y) HX3.out (intsA_mono HN3.out hszr) (fun i u' hi' => by
            intro z e1 e2
            have e' := (intsA_lt HN3.out z e2).1
            obtain ⟨u2, f1, f2⟩ := intsRA_row HX.out.2.2.2.2.1 i (by rw [HX.out.2.2.2.2.1.len]; exact get_lt hi')
            rw [hi'] at f1; cases f1
            have := (intsA_lt f2 z e1).2
            omega) (by
            intro z e1 e2
            have e' := (intsA_lt HN3.out z e1).1
            have := HLT.out z e2
            omega) (by rw [hvl]; exact hown') hgrow (by rw [Go.Deep.nblk_alloc]; exact hwh)
        have R1 := Lib.hid hsn
        have R2 := Lib.hid ((HBW.out.alloc HBW.out.size _).grown hgrow (by have := HBW.out.size; simp; omega) (fun q hq => (HX2.out.outer.lt q hq).1))
        clear hown' hgrow hwh hsn
        go_wp2_with fail
        go_roundw
        case rel =>
          refine ⟨way ++ [x], y, n + 1, vs ++ [.slice (some ⟨gt, 0, none⟩) L L], _, _, by have := HNN.out; simp; omega, rfl, way_snoc HX.out.1 HX.out.2.1 HFT.out, HNO.out, HYG.out, HST.out.symm, ?_, R2.out⟩
          have := R1.out
          simpa using this
        case measure => simp [lenT] <;> omega
end Go.Proofs.Ytkdoghopbefjfaa
