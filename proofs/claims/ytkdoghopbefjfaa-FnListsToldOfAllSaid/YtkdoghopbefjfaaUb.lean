/- Chapter 3, at rows of numbers that lie anywhere: ways and loops (by tools/genwide3.py). -/
import Derived.Test.YtkdoghopbefjfaaUa
import Derived.Test.YtkdoghopbefjfaaU9
import Derived.Test.YtkdoghopbefjfaaU13
namespace Go.Proofs.Ytkdoghopbefjfaa
open Go.RowKit Go.BigFrame
set_option linter.unusedSimpArgs false
set_option linter.unusedVariables false
set_option maxRecDepth 4000

theorem own_copyL {w w3 : World} {g o : Nat} {xs : List Int} (hce : ∀ i (hi : i < xs.length), w.cell? ⟨g, o + i, none⟩ = some (.int .i64 xs[i])) : ∀ j u, (ivs xs)[j]? = some u → (w.alloc (.cells #[] 3)).cell? ((⟨g, o, none⟩ : Addr).add j) = some u := by
  intro j u hj
  rw [add_plainL]
  obtain ⟨hjl, e⟩ := List.getElem?_eq_some_iff.1 hj
  have hjl' : j < xs.length := by simpa [ivs] using hjl
  have hlt := World.block_lt_of_cell? w _ (hce j hjl')
  rw [(below_alloc w _).cell (p := ⟨g, o + j, none⟩) hlt, hce j hjl', ← e]
  simp [ivs]

set_option maxHeartbeats 1000000 in
theorem l1Own_arg (w : World) (v : Value) (xs : List Int) (ha : ArgL w v xs) (h1 : 1 ≤ xs.length) (h9 : xs.length ≤ 1000) :
    Calls Try.prog 89 #[v] w fun e w' => ∃ g c, e = .returned (.slice (some ⟨g, 0, none⟩) xs.length c) ∧ IntsA w' w.heap.size (.slice (some ⟨g, 0, none⟩) xs.length c) xs ∧ Below w.heap.size w w' := by
  obtain ⟨i0, hi, hz0, hz1, hz2⟩ := info_parts info_intT
  obtain ⟨g, o, cap, rfl, hc1, hc2, hg, hce⟩ := argL_at ha h1
  have hcp := own_copyL (w3 := w) hce
  obtain ⟨N, hN⟩ : ∃ N, N = xs.length := ⟨_, rfl⟩
  have HC := Lib.hid hcp; have HN := Lib.hid hN
  rw [← hN] at hc1 h1 h9 ⊢
  clear ha hce hcp hN
  go_enter Try.func89, Try.ntmps89
  go_wp2_with (at_builtin; refine wpList_app _ rfl _ _ 32 rfl w.heap.size 3 i0 (.int .i64 0) 8 Try.underlying32 hi hz0 hz1 hz2 rfl _ 0 [] rfl (own_lit w w.heap.size 3 [] (Nat.le_refl _) (by simp [maxLen])) ⟨g, o, none⟩ N cap (ivs xs) rfl (by rw [HN.out]; simp [ivs]) HC.out ?c2 ?c3 ?c4 ?c5 ?_)
  case c2 =>
    intro u hu
    simp only [ivs, List.mem_map] at hu
    obtain ⟨l, _, rfl⟩ := hu
    rfl
  case c3 => unfold maxLen; omega
  case c4 => omega
  case c5 => simp
  intro v' w3 hown' hgrow _
  rcases own_open hown' with ⟨_, h0, _⟩ | ⟨g', c', rfl, _, _, _, _, _, _, _⟩
  · omega
  have R1 := Lib.hid hown'
  have R2 := Lib.hid ((below_alloc w _).grown hgrow (by simp) (fun q hq => by cases hq; exact Nat.le_refl _))
  clear hown' hgrow
  go_wp2_with fail
  go_ret
  have hr : w3.ownsRow w.heap.size 3 1 (.slice (some ⟨g', 0, none⟩) N c') N (ivs xs) := by have := R1.out; simpa using this
  refine ⟨g', c', by first | rfl | (simp; done), intsA_of ?_, R2.out⟩
  unfold Ints
  rw [← HN.out]
  exact hr

set_option maxHeartbeats 1000000 in
theorem cloneI_arg (w : World) (v : Value) (xs : List Int) (ha : ArgL w v xs) (h1 : 1 ≤ xs.length) (h9 : xs.length ≤ 1000) :
    Calls Try.prog 91 #[v] w fun e w' => ∃ g c, e = .returned (.slice (some ⟨g, 0, none⟩) xs.length c) ∧ IntsA w' w.heap.size (.slice (some ⟨g, 0, none⟩) xs.length c) xs ∧ Below w.heap.size w w' := by
  obtain ⟨i0, hi, hz0, hz1, hz2⟩ := info_parts info_intT
  obtain ⟨g, o, cap, rfl, hc1, hc2, hg, hce⟩ := argL_at ha h1
  have hcp := own_copyL (w3 := w) hce
  obtain ⟨N, hN⟩ : ∃ N, N = xs.length := ⟨_, rfl⟩
  have HC := Lib.hid hcp; have HN := Lib.hid hN
  rw [← hN] at hc1 h1 h9 ⊢
  clear ha hce hcp hN
  have hnil : ∀ W, (binOp .eql 32 (.slice (some ⟨g, o, none⟩) N cap) (.slice none 0 0)).run Try.prog W = .ok (.bool false) W := fun W => Lib.run_eql_slice_nil (P := Try.prog) W 32 3 (some ⟨g, o, none⟩) N cap 0 0 Try.underlying32
  go_enter Try.func91, Try.ntmps91
  go_wp2_with (at_builtin; refine wpList_app _ rfl _ _ 32 rfl w.heap.size 3 i0 (.int .i64 0) 8 Try.underlying32 hi hz0 hz1 hz2 rfl _ 0 [] rfl (own_lit w w.heap.size 3 [] (Nat.le_refl _) (by simp [maxLen])) ⟨g, o, none⟩ N cap (ivs xs) rfl (by rw [HN.out]; simp [ivs]) HC.out ?c2 ?c3 ?c4 ?c5 ?_)
  case c2 =>
    intro u hu
    simp only [ivs, List.mem_map] at hu
    obtain ⟨l, _, rfl⟩ := hu
    rfl
  case c3 => unfold maxLen; omega
  case c4 => omega
  case c5 => simp
  intro v' w3 hown' hgrow _
  rcases own_open hown' with ⟨_, h0, _⟩ | ⟨g', c', rfl, _, _, _, _, _, _, _⟩
  · omega
  have R1 := Lib.hid hown'
  have R2 := Lib.hid ((below_alloc w _).grown hgrow (by simp) (fun q hq => by cases hq; exact Nat.le_refl _))
  clear hown' hgrow
  go_wp2_with fail
  go_ret
  have hr : w3.ownsRow w.heap.size 3 1 (.slice (some ⟨g', 0, none⟩) N c') N (ivs xs) := by have := R1.out; simpa using this
  refine ⟨g', c', by first | rfl | (simp; done), intsA_of ?_, R2.out⟩
  unfold Ints
  rw [← HN.out]
  exact hr

set_option maxHeartbeats 2000000 in
theorem specWayOfTelling_good_arg (w : World) (v : Value) (ns : List Nat) (n : Int) (ha : ArgL w v (ti ns)) (ht : tolL (ti ns) = true) (h1 : 1 ≤ ns.length) (h9 : ns.length ≤ 9) (hle : ∀ x ∈ ns, x ≤ ns.length) (h0 : 0 ≤ n) (h40 : n ≤ 40) :
    Calls Try.prog 51 #[v, .int .i64 n] w fun e w' => TellOk (some (rowsW ns.length n.toNat ns)) w w' e := by
  obtain ⟨i0, hi, hz0, hz1, hz2⟩ := info_parts info_rowT
  obtain ⟨N, rfl⟩ := Int.eq_ofNat_of_zero_le h0
  rw [Int.toNat_natCast]
  have hN : N ≤ 40 := by omega
  have hL := taList_arg w v _ ha
  have hown := l1Own_arg w v _ ha (by rw [ti_len]; exact h1) (by rw [ti_len]; omega)
  rw [ht] at hL
  rw [ti_len] at hown
  obtain ⟨L, hLL⟩ : ∃ L, L = ns.length := ⟨_, rfl⟩
  have hmem := fun k => wayN_mem L k ns hLL.symm (by rw [hLL]; exact hle)
  rw [← hLL] at hown h1 h9 ⊢
  have hn : decide ((0 : Int) ≤ N ∧ (N : Int) ≤ 40) = true := by simp; omega
  obtain ⟨a, cap, rfl, _, _⟩ := argL_slice ha
  have HL := Lib.hid hL; have HOW := Lib.hid hown; have HN := Lib.hid hn; have HM := Lib.hid hmem
  clear hL hown hn hmem ht hle ha hLL h0 h40
  go_enter Try.func51, Try.ntmps51
  go_wp2_with fail
  refine HL.out.mono ?_
  rintro e w1 ⟨rfl, rfl⟩
  go_wp2_with fail
  refine (l1In_is true _ _ _ _ HN.out).mono ?_
  rintro e w1 ⟨rfl, rfl⟩
  go_wp2_with fail
  refine HOW.out.mono ?_
  rintro e w1 ⟨g, c, rfl, ho, hb⟩
  have h1r := intsRA_one ho hb.size
  have H1 := Lib.hid h1r; have HB1 := Lib.hid (below_trans hb (below_alloc w1 (.cells #[.slice (some ⟨g, 0, none⟩) L c] 32)))
  clear ho hb h1r HL HOW
  go_wp2_with fail
  go_loopw [1, 6] (fun t v wr => ∃ (k : Nat) (vs : List Value) (q : Option Addr) (d : Nat), k ≤ N ∧ t = .int .i64 (((N - k : Nat)) : Int) ∧ v = .slice q (k + 1) d ∧ Hid (IntsRA wr w.heap.size (.slice q (k + 1) d) vs (rowsW L k ns) ∧ Below w.heap.size w wr)) (fun t _ _ => (intOf t).toNat)
  case atStart => exact ⟨0, _, _, _, Nat.zero_le _, rfl, rfl, H1.out, HB1.out⟩
  case round =>
    obtain ⟨k, vs, q, d, hk, rfl, rfl, HX⟩ := hrel
    by_cases hlt : k < N
    · have hlast := wayN_last L k ns
      obtain ⟨last, hla⟩ : ∃ last, last = (wayN L k ns).getLastD [] := ⟨_, rfl⟩
      rw [← hla] at hlast
      obtain ⟨hm1, hm2⟩ := HM.out k last (List.mem_of_getElem? hlast)
      rcases intsRA_open HX.out.1 with ⟨e, _⟩ | ⟨g', cap', e, _, hcp, hg', _, hce⟩
      · cases e
      have hgg : q = some ⟨g', 0, none⟩ ∧ d = cap' := by simp only [Value.slice.injEq] at e; exact ⟨e.1, e.2.2⟩
      obtain ⟨rfl, rfl⟩ := hgg
      obtain ⟨u, hu0, hu, hcu⟩ := hce k (by rw [rowsW_len]; omega)
      have hrk : (rowsW L k ns)[k]'(by rw [rowsW_len]; omega) = ti last := by
        have : (rowsW L k ns)[k]? = some (ti last) := by unfold rowsW; rw [List.getElem?_map, hlast]; rfl
        exact (List.getElem?_eq_some_iff.1 this).2
      rw [hrk] at hu
      have htl := taTell_any wr w.heap.size u last hu (by omega) (by omega)
      rw [hm1] at htl
      have hvl := HX.out.1.len
      rw [rowsW_len] at hvl
      have hws : rowsW L (k + 1) ns = rowsW L k ns ++ [ti (tel L last)] := by unfold rowsW; rw [wayN, ← hla]; simp
      have hsub : (((N - k : Nat)) : Int) = (N : Int) - (k : Int) := by omega
      have hszr := HX.out.2.size
      have HTL := Lib.hid htl; have HWS := Lib.hid hws; have HVL := Lib.hid hvl
      rw [hsub]
      have hpos : (0 : Int) < (N : Int) - (k : Int) := by omega
      clear htl hws hvl hrk hce hla hlast hu hu0 hm1 hm2 e
      go_wp2_with fail
      refine HTL.out.mono ?_
      rintro e w2 ⟨gt, rfl, ho2, hb2⟩
      have hnew : IntsA w2 wr.heap.size (.slice (some ⟨gt, 0, none⟩) L L) (ti (tel L last)) := intsA_of (by
        rw [tvl_ti] at ho2
        unfold Ints
        simpa [ti_len, tel_len] using ho2)
      have hX2 := intsRA_below HX.out.1 hb2
      have hX3 := intsRA_below hX2 (below_alloc w2 (.cells #[.slice (some ⟨gt, 0, none⟩) L L] 32))
      have hN3 := intsA_below hnew (below_alloc w2 (.cells #[.slice (some ⟨gt, 0, none⟩) L L] 32))
      have HX3 := Lib.hid hX3; have HN3 := Lib.hid hN3; have HX2 := Lib.hid hX2
      have HB2 := Lib.hid (HX.out.2.trans (hb2.mono hszr)); have HS2 := Lib.hid hb2.size
      clear ho2 hb2 hnew hX2 hX3 hN3 hcu
      go_wp2_with (at_builtin; refine wpList_app _ rfl _ _ 51 rfl w.heap.size 32 i0 (.slice none 0 0) 24 Try.underlying51 hi hz0 hz1 hz2 rfl _ (k + 1) vs rfl (by have := HX3.out.outer; rw [← HVL.out] at this; exact this) ⟨w2.heap.size, 0, none⟩ 1 1 [.slice (some ⟨gt, 0, none⟩) L L] rfl rfl ?c1 ?c2 ?c3 ?c4 ?c5 ?_)
      case c1 =>
        intro j u hj
        match j, hj with
        | 0, hj => simp at hj; subst hj; simp [Addr.add]
      case c2 => intro u hu; simp at hu; subst hu; rfl
      case c3 => unfold maxLen; omega
      case c4 => omega
      case c5 => have := HB2.out.size; simp; omega
      intro v' w3 hown' hgrow hwh
      obtain ⟨av', cv', rfl⟩ := own_slice hown'
      have hsn := intsRA_snoc (u := .slice (some ⟨gt, 0, none⟩) L L) (xs := ti (tel L last)) HX3.out (intsA_mono HN3.out hszr) (fun i u' hi' => by
          intro z e1 e2
          have e' := (intsA_lt HN3.out z e2).1
          obtain ⟨u2, f1, f2⟩ := intsRA_row HX.out.1 i (by rw [HX.out.1.len]; exact get_lt hi')
          rw [hi'] at f1; cases f1
          have := (intsA_lt f2 z e1).2
          omega) (by
          intro z e1 e2
          have e' := (intsA_lt HN3.out z e1).1
          have := (HX.out.1.outer.lt z e2).2
          omega) (by rw [← HVL.out]; exact hown') hgrow (by rw [Go.Deep.nblk_alloc]; exact hwh)
      have R1 := Lib.hid hsn
      have R2 := Lib.hid ((HB2.out.alloc HB2.out.size _).grown hgrow (by have := HB2.out.size; simp; omega) (fun q hq => (HX2.out.outer.lt q hq).1))
      clear hown' hgrow hwh hsn
      go_wp2_with fail
      go_roundw
      case rel => exact ⟨k + 1, _, _, _, by omega, by go_num, rfl, by rw [HWS.out]; exact R1.out, R2.out⟩
      case measure => simp [intOf] <;> omega
    · obtain rfl : k = N := by omega
      have hz : (((k - k : Nat)) : Int) = 0 := by omega
      rw [hz]
      go_wp2_with fail
      go_ret2
      exact ⟨_, vs, rfl, HX.out.1, HX.out.2, fun h => by cases h⟩

theorem specWayOfTelling_arg (w : World) (v : Value) (xs : List Int) (n : Int) (ha : ArgL w v xs) :
    Calls Try.prog 51 #[v, .int .i64 n] w fun e w' => TellOk (wayTO xs n) w w' e := by
  cases ht : tolL xs with
  | true =>
    obtain ⟨ns, rfl, h1, h9, hle⟩ := tolL_nat ht
    by_cases hn : 0 ≤ n ∧ n ≤ 40
    · rw [wayTO_ti ht hn]
      exact specWayOfTelling_good_arg w v ns n ha ht h1 h9 hle hn.1 hn.2
    · rw [wayTO_none (fun h => hn h.2)]
      have hL := taList_arg w v _ ha
      rw [ht] at hL
      have hd : decide ((0 : Int) ≤ n ∧ n ≤ 40) = false := decide_eq_false hn
      obtain ⟨a, cap, rfl, _, _⟩ := argL_slice ha
      have HL := Lib.hid hL; have HD := Lib.hid hd; clear hL hd ha ht hle hn
      go_enter Try.func51, Try.ntmps51
      go_wp2_with fail
      refine HL.out.mono ?_
      rintro e w1 ⟨rfl, rfl⟩
      go_wp2_with fail
      refine (l1In_is false _ _ _ _ HD.out).mono ?_
      rintro e w1 ⟨rfl, rfl⟩
      go_wp2_with fail
      go_ret2
      exact ⟨_, _, rfl, intsRA_nil _ _, Below.refl _ _, fun _ => rfl⟩
  | false =>
    rw [wayTO_none (fun h => by rw [ht] at h; cases h.1)]
    have hL := taList_arg w v _ ha
    rw [ht] at hL
    obtain ⟨a, cap, rfl, _, _⟩ := argL_slice ha
    have HL := Lib.hid hL; clear hL ha ht
    go_enter Try.func51, Try.ntmps51
    go_wp2_with fail
    refine HL.out.mono ?_
    rintro e w1 ⟨rfl, rfl⟩
    go_wp2_with fail
    go_ret2
    exact ⟨_, _, rfl, intsRA_nil _ _, Below.refl _ _, fun _ => rfl⟩

set_option maxHeartbeats 2000000 in
theorem implWayOfTelling_arg (w : World) (v : Value) (xs : List Int) (n : Int) (ha : ArgL w v xs) :
    Calls Try.prog 42 #[v, .int .i64 n] w fun e w' => TellOk (wayTO xs n) w w' e := by
  have hL := tallyList_arg w v xs ha
  cases ht : tolL xs with
  | false =>
    rw [wayTO_none (fun h => by rw [ht] at h; cases h.1)]
    have hP : padO xs = zeros9 := by unfold padO; rw [if_neg (by rw [ht]; simp)]
    rw [ht, hP] at hL
    obtain ⟨a, cap, rfl, _, _⟩ := argL_slice ha
    have HL := Lib.hid hL; clear hL ha ht hP
    go_enter Try.func42, Try.ntmps42
    go_wp2_with fail
    refine HL.out.mono ?_
    rintro e w1 ⟨rfl, hb⟩
    have HB := Lib.hid hb; clear hb
    go_wp2_with (refine wpList_putT rfl _ _ rfl w1.heap.size rfl zeros9 zeros9 rfl ⟨heap_alloc_new _ _, rfl⟩ rfl ?_; intro w2 hB2 _ hbb _; have HB2 := Lib.hid ((below_alloc w1 _).trans (hbb _ (Nat.le_refl _))); clear hbb)
    go_ret2
    exact ⟨_, _, rfl, intsRA_nil _ _, below_trans HB.out HB2.out, fun _ => rfl⟩
  | true =>
    obtain ⟨ns, rfl, h1, h9, hle⟩ := tolL_nat ht
    rw [ht, padO_ti ht] at hL
    have hp9 := pad_len ns h9
    obtain ⟨ts, hts⟩ : ∃ ts, ts = pad ns := ⟨_, rfl⟩
    rw [← hts] at hL hp9
    by_cases hn : 0 ≤ n ∧ n ≤ 40
    · rw [wayTO_ti ht hn]
      obtain ⟨N, rfl⟩ := Int.eq_ofNat_of_zero_le hn.1
      rw [Int.toNat_natCast]
      have hN : N ≤ 40 := by omega
      have hd : decide ((0 : Int) ≤ (N : Int) ∧ (N : Int) ≤ 40) = true := decide_eq_true hn
      obtain ⟨L, hLL⟩ : ∃ L, L = ns.length := ⟨_, rfl⟩
      have hcl := fun W (hb : Below w.heap.size w W) => cloneI_arg W v (ti ns) (argL_below ha hb) (by rw [ti_len]; exact h1) (by rw [ti_len]; omega)
      have hwf := fun W B' g c (h : IntsA W B' (.slice (some ⟨g, 0, none⟩) L c) (ti ns)) (hB : B' ≤ W.heap.size) => wayFromTell_any W B' g c ns N L h hB hLL (by omega) (by omega) (by rw [hLL]; exact hle) hN
      rw [ti_len, ← hLL] at hcl
      rw [← hLL]
      obtain ⟨R, hR⟩ : ∃ R, R = rowsW L N ns := ⟨_, rfl⟩
      rw [← hR] at hwf ⊢
      obtain ⟨a, cap, rfl, _, _⟩ := argL_slice ha
      have HL := Lib.hid hL; have HD := Lib.hid hd; have HCL := Lib.hid hcl; have HWF := Lib.hid hwf
      clear hL ha ht hd hn hcl hwf hR hLL hts hle h1 h9
      go_enter Try.func42, Try.ntmps42
      go_wp2_with fail
      refine HL.out.mono ?_
      rintro e w1 ⟨rfl, hb⟩
      have HB := Lib.hid hb; clear hb
      go_wp2_with (refine wpList_putT rfl _ _ rfl w1.heap.size rfl zeros9 ts rfl ⟨heap_alloc_new _ _, rfl⟩ hp9 ?_; intro w2 hB2 _ hbb _; have HB2 := Lib.hid ((below_alloc w1 _).trans (hbb _ (Nat.le_refl _))); clear hbb)
      refine (isWithin_is true _ _ _ _ HD.out).mono ?_
      rintro e w3 ⟨rfl, rfl⟩
      have HB3 := Lib.hid (below_trans HB.out HB2.out)
      clear hB2
      go_wp2_with fail
      refine (HCL.out w2 HB3.out).mono ?_
      rintro e w3 ⟨g, c, rfl, ho, hb⟩
      have HO := Lib.hid ho; have HB4 := Lib.hid hb; clear ho hb
      go_wp2_with fail
      refine (HWF.out w3 _ g c HO.out HB4.out.size).mono ?_
      rintro e w4 ⟨u, vs, rfl, hr, hb⟩
      have HR := Lib.hid hr; have HB5 := Lib.hid hb; clear hr hb
      go_wp2_with fail
      go_ret2
      exact ⟨u, vs, rfl, intsRA_mono HR.out HB3.out.size, below_trans HB3.out (below_trans HB4.out HB5.out), fun h => by cases h⟩
    · rw [wayTO_none (fun h => hn h.2)]
      have hd : decide ((0 : Int) ≤ n ∧ n ≤ 40) = false := decide_eq_false hn
      obtain ⟨a, cap, rfl, _, _⟩ := argL_slice ha
      have HL := Lib.hid hL; have HD := Lib.hid hd
      clear hL ha ht hd hn hts hle h1 h9
      go_enter Try.func42, Try.ntmps42
      go_wp2_with fail
      refine HL.out.mono ?_
      rintro e w1 ⟨rfl, hb⟩
      have HB := Lib.hid hb; clear hb
      go_wp2_with (refine wpList_putT rfl _ _ rfl w1.heap.size rfl zeros9 ts rfl ⟨heap_alloc_new _ _, rfl⟩ hp9 ?_; intro w2 hB2 _ hbb _; have HB2 := Lib.hid ((below_alloc w1 _).trans (hbb _ (Nat.le_refl _))); clear hbb)
      refine (isWithin_is false _ _ _ _ HD.out).mono ?_
      rintro e w3 ⟨rfl, rfl⟩
      clear hB2
      go_wp2_with fail
      go_ret2
      exact ⟨_, _, rfl, intsRA_nil _ _, below_trans HB.out HB2.out, fun _ => rfl⟩

set_option maxHeartbeats 4000000 in
theorem specLoopOfTelling_good_arg (w : World) (v : Value) (ns : List Nat) (K : Nat) (hK : 1000000010 ≤ K) (ha : ArgL w v (ti ns)) (ht : tolL (ti ns) = true) (h1 : 1 ≤ ns.length) (h9 : ns.length ≤ 9) (hle : ∀ x ∈ ns, x ≤ ns.length) :
    Calls Try.prog 41 #[v] w fun e w' => e = .returned (loopV (loopF (fT ns.length) K [] ns)) ∧ Below w.heap.size w w' := by
  obtain ⟨i0, hi, hz0, hz1, hz2⟩ := info_parts info_rowT
  have hL := taList_arg w v _ ha
  have hown := l1Own_arg w v _ ha (by rw [ti_len]; exact h1) (by rw [ti_len]; omega)
  rw [ht] at hL
  rw [ti_len] at hown
  obtain ⟨R, hR⟩ : ∃ R, R = loopF (fT ns.length) K [] ns := ⟨_, rfl⟩
  rw [← hR]
  obtain ⟨L, hLL⟩ : ∃ L, L = ns.length := ⟨_, rfl⟩
  rw [← hLL] at hown h1 h9 hR
  have hns : ns.length = L ∧ ∀ y ∈ ns, y ≤ L := ⟨hLL.symm, by rw [hLL]; exact hle⟩
  obtain ⟨a, cap, rfl, _, _⟩ := argL_slice ha
  have HL := Lib.hid hL; have HOW := Lib.hid hown; have HR := Lib.hid hR; have HNS := Lib.hid hns
  clear hL hown ht hle ha hLL hR hns
  go_enter Try.func41, Try.ntmps41
  go_wp2_with fail
  refine HL.out.mono ?_
  rintro e w1 ⟨rfl, rfl⟩
  go_wp2_with fail
  refine HOW.out.mono ?_
  rintro e w1 ⟨g, c, rfl, ho, hb⟩
  have h1r := intsRA_one ho hb.size
  have H1 := Lib.hid h1r; have HB1 := Lib.hid (below_trans hb (below_alloc w1 (.cells #[.slice (some ⟨g, 0, none⟩) L c] 32)))
  clear ho hb h1r HL HOW
  go_wp2_with fail
  go_loopw [5] (fun v wr => ∃ (way : List (List Nat)) (x : List Nat) (n : Nat) (vs : List Value) (q : Option Addr) (d : Nat), n = way.length ∧ v = .slice q (n + 1) d ∧ Hid (Way (fT L) ns way x ∧ x ∉ way ∧ (x.length = L ∧ ∀ y ∈ x, y ≤ L) ∧ loopF (fT L) (K - n) way x = R ∧ IntsRA wr w.heap.size (.slice q (n + 1) d) vs ((way ++ [x]).map ti) ∧ Below w.heap.size w wr)) (fun v _ => K + 1 - lenT v)
  case atStart => exact ⟨[], ns, 0, _, _, _, rfl, rfl, way_nil _ _, by simp, HNS.out, HR.out.symm, H1.out, HB1.out⟩
  case round =>
    obtain ⟨way, x, n, vs, q, d, hn, rfl, HX⟩ := hrel
    obtain ⟨hway, hxn, hxg, hloop, hra, hbl⟩ := HX.out
    have hwl := wayT_len h9 hway
    have hn9 : n ≤ 1000000001 := by omega
    rcases intsRA_open hra with ⟨e, _⟩ | ⟨g', cap', e, _, hcp, hg', _, hce⟩
    · cases e
    have hgg : q = some ⟨g', 0, none⟩ ∧ d = cap' := by simp only [Value.slice.injEq] at e; exact ⟨e.1, e.2.2⟩
    obtain ⟨rfl, rfl⟩ := hgg
    obtain ⟨u, hu0, hu, hcu⟩ := hce n (by simp; omega)
    have hrk : ((way ++ [x]).map ti)[n]'(by simp; omega) = ti x := by simp [hn]
    rw [hrk] at hu
    have htl := taTell_any wr w.heap.size u x hu (by omega) (by omega)
    rw [hxg.1] at htl
    have hst := loopN_step (K := K - n) (m := K - (n + 1)) (f := fT L) (way := way) (x := x) (by omega) hxn
    have hft : fT L x = some (tel L x) := by unfold fT; rw [if_pos hxg.1]
    rw [hloop, hft] at hst
    dsimp only at hst
    obtain ⟨y, hy⟩ : ∃ y, y = tel L x := ⟨_, rfl⟩
    rw [← hy] at htl hst hft
    have hyg := fT_some hft
    have hvl := hra.len
    have hszr := hbl.size
    have HTL := Lib.hid htl; have HST := Lib.hid hst; have HFT := Lib.hid hft; have HYG := Lib.hid hyg; have HVL := Lib.hid hvl; have HNN := Lib.hid hn; have HCE := Lib.hid hce
    clear htl hst hft hyg hvl hrk hu hu0 hn hway hxn hxg hloop hra hbl hwl e hy hce
    go_wp2_with fail
    refine HTL.out.mono ?_
    rintro e w2 ⟨gt, rfl, ho2, hb2⟩
    have hnew : IntsA w2 wr.heap.size (.slice (some ⟨gt, 0, none⟩) L L) (ti y) := intsA_of (by
      rw [tvl_ti] at ho2
      unfold Ints
      simpa [ti_len, HYG.out.1] using ho2)
    have HNEW := Lib.hid hnew; have HB2 := Lib.hid hb2
    clear ho2 hb2 hnew hcu
    go_wp2_with fail
    go_loopw [24] (fun i wq => ∃ k : Nat, i = .int .i64 k ∧ k ≤ n + 1 ∧ Hid ((∀ j (hj : j < (way ++ [x]).length), j < k → (way ++ [x])[j] ≠ y) ∧ Below w2.heap.size w2 wq)) (fun i _ => n + 1 - (intOf i).toNat)
    case atStart => exact ⟨0, rfl, Nat.zero_le _, fun j _ h => by omega, below_refl _⟩
    case round =>
      obtain ⟨k, rfl, hk, HY⟩ := hrel
      by_cases hlt : k < n + 1
      · have hk' : k < (way ++ [x]).length := by have := HNN.out; simp; omega
        obtain ⟨u, _, hu, hcu⟩ := HCE.out k (by simpa using hk')
        have hbr := below_trans HB2.out HY.out.2
        have h1 : wr.cell? ⟨g', k, none⟩ = some u := (hbr.cell (p := ⟨g', k, none⟩) hg').trans hcu
        obtain ⟨z, hz⟩ : ∃ z, z = (way ++ [x])[k] := ⟨_, rfl⟩
        have hzk : ((way ++ [x]).map ti)[k]'(by simpa using hk') = ti z := by rw [hz, List.getElem_map]
        rw [hzk] at hu
        have hzl : z.length = L := by
          have hm : z ∈ way ++ [x] := by rw [hz]; exact List.getElem_mem _
          rw [List.mem_append] at hm
          rcases hm with hm | hm
          · exact (wayT_good HX.out.1 HNS.out z hm).1
          · simp at hm; subst hm; exact HX.out.2.2.1.1
        have hsm := l1Same_any wr _ _ u (.slice (some ⟨gt, 0, none⟩) L L) (ti z) (ti y) (intsA_below hu hbr) (intsA_below HNEW.out HY.out.2) (by rw [ti_len]; omega) (by rw [ti_len, ti_len, hzl, HYG.out.1])
        have hdd : decide (ti z = ti y) = decide (z = y) := by
          by_cases e : z = y
          · rw [decide_eq_true e]; exact decide_eq_true (by rw [e])
          · rw [decide_eq_false e]; exact decide_eq_false (fun h => e (ti_inj h))
        rw [hdd] at hsm
        by_cases he : z = y
        · rw [decide_eq_true he] at hsm
          obtain ⟨i1, i2⟩ := idxN_at y (way ++ [x]) k hk' (by rw [← hz]; exact he) HY.out.1
          have hst := HST.out
          rw [loopN_end (m := K - (n + 2)) (by omega) i1, i2] at hst
          have HS2 := Lib.hid hst; have HSM := Lib.hid hsm
          clear hst hz he i1 i2 HST hsm hdd hzk hu hcu hzl hbr
          go_wp2_with fail
          refine HSM.out.mono ?_
          rintro e w4 ⟨rfl, hb4⟩
          have HB4 := Lib.hid hb4; clear hb4
          go_wp2_with fail
          go_ret3
          refine ⟨?_, HX.out.2.2.2.2.2.trans ((below_trans HB2.out (below_trans HY.out.2 HB4.out)).mono hszr)⟩
          rw [HS2.out]
          have e : (((way ++ [x]).length : Nat) : Int) = (n : Int) + 1 := by have := HNN.out; simp; omega
          simp only [loopV, tailN, cycN, Option.getD_some, Option.isSome_some, e]
          rfl
        · rw [decide_eq_false he] at hsm
          have hnw : Hid (∀ j (hj : j < (way ++ [x]).length), j < k + 1 → (way ++ [x])[j] ≠ y) := fun j hj h => by
            by_cases e : j = k
            · subst e; rw [← hz]; exact he
            · exact HY.out.1 j hj (by omega)
          have HSM := Lib.hid hsm
          clear hz he hsm hdd hzk hu hcu hzl hbr
          go_wp2_with fail
          refine HSM.out.mono ?_
          rintro e w4 ⟨rfl, hb4⟩
          have HB4 := Lib.hid hb4; clear hb4
          go_wp2_with fail
          go_roundw
          case rel => exact ⟨k + 1, by go_num, by omega, hnw.out, below_trans HY.out.2 HB4.out⟩
          case measure => simp [intOf] <;> omega
      · obtain rfl : k = n + 1 := by omega
        have hno : y ∉ way ++ [x] := idxN_none (fun j hj => HY.out.1 j hj (by have := HNN.out; simp at hj; omega))
        have HNO := Lib.hid hno; clear hno
        have hbr := below_trans HB2.out HY.out.2
        have hX2 := intsRA_below HX.out.2.2.2.2.1 hbr
        have hX3 := intsRA_below hX2 (below_alloc wr (.cells #[.slice (some ⟨gt, 0, none⟩) L L] 32))
        have hN3 := intsA_below (intsA_below HNEW.out HY.out.2) (below_alloc wr (.cells #[.slice (some ⟨gt, 0, none⟩) L L] 32))
        have HX3 := Lib.hid hX3; have HN3 := Lib.hid hN3; have HX2 := Lib.hid hX2
        have HBW := Lib.hid (HX.out.2.2.2.2.2.trans (hbr.mono hszr))
        have HLT := Lib.hid (fun z hz => (HX.out.2.2.2.2.1.outer.lt z hz).2)
        clear hX2 hX3 hN3 hbr
        go_wp2_with (at_builtin; refine wpList_app _ rfl _ _ 51 rfl w.heap.size 32 i0 (.slice none 0 0) 24 Try.underlying51 hi hz0 hz1 hz2 rfl _ (n + 1) vs rfl (by have := HX3.out.outer; have e : vs.length = n + 1 := (by rw [← HVL.out]; have := HNN.out; simp; omega); rw [e] at this; exact this) ⟨wr.heap.size, 0, none⟩ 1 1 [.slice (some ⟨gt, 0, none⟩) L L] rfl rfl ?c1 ?c2 ?c3 ?c4 ?c5 ?_)
        case c2 => intro u hu; simp at hu; subst hu; rfl
        case c3 => unfold maxLen; omega
        case c4 => omega
        case c5 => have := HBW.out.size; simp; omega
        all_goals try (intro j u hj; match j, hj with | 0, hj => (simp at hj; subst hj; simp [Addr.add]))
        intro v' w3 hown' hgrow hwh
        obtain ⟨av', cv', rfl⟩ := own_slice hown'
        have hvl : vs.length = n + 1 := by rw [← HVL.out]; have := HNN.out; simp; omega
        have hsn := intsRA_snoc (u := .slice (some ⟨gt, 0, none⟩) L L) (xs := ti y) HX3.out (intsA_mono HN3.out hszr) (fun i u' hi' => by
            intro z e1 e2
            have e' := (intsA_lt HN3.out z e2).1
            obtain ⟨u2, f1, f2⟩ := intsRA_row HX.out.2.2.2.2.1 i (by rw [HX.out.2.2.2.2.1.len]; exact get_lt hi')
            rw [hi'] at f1; cases f1
            have := (intsA_lt f2 z e1).2
            omega) (by
            intro z e1 e2
            have e' := (intsA_lt HN3.out z e1).1
            have := HLT.out z e2
            omega) (by rw [hvl]; exact hown') hgrow (by rw [Go.Deep.nblk_alloc]; exact hwh)
        have R1 := Lib.hid hsn
        have R2 := Lib.hid ((HBW.out.alloc HBW.out.size _).grown hgrow (by have := HBW.out.size; simp; omega) (fun q hq => (HX2.out.outer.lt q hq).1))
        clear hown' hgrow hwh hsn
        go_wp2_with fail
        go_roundw
        case rel =>
          refine ⟨way ++ [x], y, n + 1, vs ++ [.slice (some ⟨gt, 0, none⟩) L L], _, _, by have := HNN.out; simp; omega, rfl, way_snoc HX.out.1 HX.out.2.1 HFT.out, HNO.out, HYG.out, HST.out.symm, ?_, R2.out⟩
          have := R1.out
          simpa using this
        case measure => simp [lenT] <;> omega

theorem specLoopOfTelling_arg (w : World) (v : Value) (xs : List Int) (K : Nat) (hK : 1000000010 ≤ K) (ha : ArgL w v xs) :
    Calls Try.prog 41 #[v] w fun e w' => e = .returned (loopV (loopTO K xs)) ∧ Below w.heap.size w w' := by
  cases ht : tolL xs with
  | true =>
    obtain ⟨ns, rfl, h1, h9, hle⟩ := tolL_nat ht
    rw [loopTO_ti ht]
    exact specLoopOfTelling_good_arg w v ns K hK ha ht h1 h9 hle
  | false =>
    rw [loopTO_bad ht]
    have hL := taList_arg w v _ ha
    rw [ht] at hL
    obtain ⟨a, cap, rfl, _, _⟩ := argL_slice ha
    have HL := Lib.hid hL; clear hL ha ht
    go_enter Try.func41, Try.ntmps41
    go_wp2_with fail
    refine HL.out.mono ?_
    rintro e w1 ⟨rfl, rfl⟩
    go_wp2_with fail
    go_ret3
    exact ⟨rfl, Below.refl _ _⟩

set_option maxHeartbeats 2000000 in
theorem implLoopOfTelling_arg (w : World) (v : Value) (xs : List Int) (K : Nat) (hK : 1000000010 ≤ K) (ha : ArgL w v xs) :
    Calls Try.prog 40 #[v] w fun e w' => e = .returned (loopV (loopTO K xs)) ∧ Below w.heap.size w w' := by
  have hL := fun W (hb : Below w.heap.size w W) => tallyList_arg W v xs (argL_below ha hb)
  cases ht : tolL xs with
  | false =>
    rw [loopTO_bad ht]
    have hP : padO xs = zeros9 := by unfold padO; rw [if_neg (by rw [ht]; simp)]
    rw [ht, hP] at hL
    obtain ⟨a, cap, rfl, _, _⟩ := argL_slice ha
    have HL := Lib.hid hL; clear hL ha ht hP
    go_enter Try.func40, Try.ntmps40
    go_wp2_with fail
    refine (HL.out _ (below_alloc _ _)).mono ?_
    rintro e w1 ⟨rfl, hb⟩
    have HB := Lib.hid (below_trans (below_alloc w _) hb); clear hb
    go_wp2_with (refine wpList_putT rfl _ _ rfl w1.heap.size rfl zeros9 zeros9 rfl ⟨heap_alloc_new _ _, rfl⟩ rfl ?_; intro w2 hB2 _ hbb _; have HB2 := Lib.hid ((below_alloc w1 _).trans (hbb _ (Nat.le_refl _))); clear hbb)
    go_ret3
    exact ⟨rfl, below_trans HB.out HB2.out⟩
  | true =>
    obtain ⟨ns, rfl, h1, h9, hle⟩ := tolL_nat ht
    rw [loopTO_ti ht]
    rw [ht, padO_ti ht] at hL
    have hp9 := pad_len ns h9
    obtain ⟨a, cap, hv, _, _⟩ := argL_slice ha
    rw [ti_len] at hv
    obtain ⟨L, hLL⟩ : ∃ L, L = ns.length := ⟨_, rfl⟩
    have hlp := fun W (hc : W.cell? ⟨w.heap.size, 0, none⟩ = some (.slice a L cap)) => loopTell_any W w.heap.size L a cap ns K hK hc (by omega) ⟨hLL.symm, by rw [hLL]; exact hle⟩
    rw [← hLL] at hv ⊢
    subst hv
    obtain ⟨R, hR⟩ : ∃ R, R = loopF (fT L) K [] ns := ⟨_, rfl⟩
    rw [← hR] at hlp ⊢
    obtain ⟨ts, hts⟩ : ∃ ts, ts = pad ns := ⟨_, rfl⟩
    rw [← hts] at hL hlp hp9
    have HL := Lib.hid hL; have HLP := Lib.hid hlp
    clear hL ha ht hlp hR hts hle hLL h1 h9
    go_enter Try.func40, Try.ntmps40
    go_wp2_with fail
    refine (HL.out _ (below_alloc _ _)).mono ?_
    rintro e w1 ⟨rfl, hb⟩
    have hc1 : w1.cell? ⟨w.heap.size, 0, none⟩ = some (.slice a L cap) := by
      rw [hb.cell (p := ⟨w.heap.size, 0, none⟩) (by simp), cell_of_row _ _ _ _ _ _ (heap_alloc_new _ _)]; rfl
    have hlt1 := World.block_lt_of_cell? w1 _ hc1
    have HB := Lib.hid (below_trans (below_alloc w _) hb); clear hb
    go_wp2_with (first
      | (refine wpList_putT rfl _ _ rfl w1.heap.size rfl zeros9 ts rfl ⟨heap_alloc_new _ _, rfl⟩ hp9 ?_; intro w2 hB2 _ hbb _; have HB2 := Lib.hid ((below_alloc w1 _).trans (hbb _ (Nat.le_refl _))); clear hbb)
      | (refine wpList_getT rfl _ rfl w1.heap.size rfl ts hB2 ?_; unfold aggT tvA))
    have hc2 : w2.cell? ⟨w.heap.size, 0, none⟩ = some (.slice a L cap) := (HB2.out.cell (p := ⟨w.heap.size, 0, none⟩) hlt1).trans hc1
    refine (HLP.out w2 hc2).mono ?_
    rintro e w3 ⟨g, n, c, i, rfl, hsome, hi, hcy, hin, hn, hb⟩
    have HB3 := Lib.hid hb; have HI := Lib.hid hi; have HC := Lib.hid hcy; have HS := Lib.hid hsome
    clear hb hi hcy hsome hc1 hc2 hB2
    go_wp2_with fail
    go_ret3
    refine ⟨?_, below_trans HB.out (below_trans HB2.out HB3.out)⟩
    unfold loopV
    rw [← HI.out, ← HC.out, HS.out]
    rfl

end Go.Proofs.Ytkdoghopbefjfaa
