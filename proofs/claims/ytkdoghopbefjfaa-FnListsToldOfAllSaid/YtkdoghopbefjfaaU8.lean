/- Told again and again: the model's and the program's WayOfTelling. -/
import Derived.Test.YtkdoghopbefjfaaU7
import Derived.WalkSpells
namespace Go.Proofs.Ytkdoghopbefjfaa
open Go.RowKit Go.BigFrame
set_option linter.unusedSimpArgs false
set_option linter.unusedVariables false
set_option maxRecDepth 4000

def wayN (L : Nat) : Nat → List Nat → List (List Nat)
  | 0, ns => [ns]
  | n + 1, ns => wayN L n ns ++ [tel L ((wayN L n ns).getLastD [])]
theorem wayN_len (L : Nat) : ∀ (n : Nat) (ns : List Nat), (wayN L n ns).length = n + 1
  | 0, ns => rfl
  | n + 1, ns => by simp [wayN, wayN_len L n ns]
theorem wayN_mem (L : Nat) (n : Nat) (ns : List Nat) (h : ns.length = L) (hle : ∀ x ∈ ns, x ≤ L) : ∀ m ∈ wayN L n ns, m.length = L ∧ ∀ x ∈ m, x ≤ L := by
  induction n with
  | zero => intro m hm; simp [wayN] at hm; subst hm; exact ⟨h, hle⟩
  | succ n ih =>
    intro m hm
    unfold wayN at hm
    rw [List.mem_append] at hm
    rcases hm with hm | hm
    · exact ih m hm
    · simp only [List.mem_singleton] at hm
      subst hm
      have hne : wayN L n ns ≠ [] := by intro e; have := wayN_len L n ns; rw [e] at this; simp at this
      have hl := ih ((wayN L n ns).getLastD []) (by rw [List.getLastD_eq_getLast?, List.getLast?_eq_some_getLast hne]; exact List.getLast_mem _)
      exact ⟨tel_len _ _, fun x hx => Nat.le_trans (tel_le _ _ x hx) (Nat.le_of_eq hl.1)⟩
theorem wayN_last (L n : Nat) (ns : List Nat) : (wayN L n ns)[n]? = some ((wayN L n ns).getLastD []) := by
  rw [List.getLastD_eq_getLast?, List.getLast?_eq_getElem?, wayN_len]
  simp [show n < (wayN L n ns).length by rw [wayN_len]; omega]
theorem info_rowT : (Try.prog.info? 32).map (fun i => (i.zero, i.size, i.bytes)) = some (some (.slice none 0 0), 1, 24) := by kernel_rfl

/-- A copy of a row. -/
theorem own_copy {w w3 : World} {g : Nat} {xs : List Int} (hce : ∀ i (hi : i < xs.length), w.cell? ⟨g, i, none⟩ = some (.int .i64 xs[i])) : ∀ j u, (ivs xs)[j]? = some u → (w.alloc (.cells #[] 3)).cell? ((⟨g, 0, none⟩ : Addr).add j) = some u := by
  intro j u hj
  rw [add_plainL, Nat.zero_add]
  obtain ⟨hjl, e⟩ := List.getElem?_eq_some_iff.1 hj
  have hjl' : j < xs.length := by simpa [ivs] using hjl
  have hlt := World.block_lt_of_cell? w _ (hce j hjl')
  rw [(below_alloc w _).cell (p := ⟨g, j, none⟩) hlt, hce j hjl', ← e]
  simp [ivs]

set_option maxHeartbeats 1000000 in
theorem l1Own_any (w : World) (B : Nat) (v : Value) (xs : List Int) (ha : IntsA w B v xs) (h1 : 1 ≤ xs.length) (h9 : xs.length ≤ 1000) :
    Calls Try.prog 89 #[v] w fun e w' => ∃ g c, e = .returned (.slice (some ⟨g, 0, none⟩) xs.length c) ∧ IntsA w' w.heap.size (.slice (some ⟨g, 0, none⟩) xs.length c) xs ∧ Below w.heap.size w w' := by
  obtain ⟨i0, hi, hz0, hz1, hz2⟩ := info_parts info_intT
  obtain ⟨g, cap, rfl, hc1, hc2, _, hg, hce⟩ := intsA_at ha h1
  have hcp := own_copy (w3 := w) hce
  obtain ⟨N, hN⟩ : ∃ N, N = xs.length := ⟨_, rfl⟩
  have HC := Lib.hid hcp; have HN := Lib.hid hN
  rw [← hN] at hc1 h1 h9 ⊢
  clear ha hce hcp hN
  go_enter Try.func89, Try.ntmps89
  go_wp2_with (at_builtin; refine wpList_app _ rfl _ _ 32 rfl w.heap.size 3 i0 (.int .i64 0) 8 Try.underlying32 hi hz0 hz1 hz2 rfl _ 0 [] rfl (own_lit w w.heap.size 3 [] (Nat.le_refl _) (by simp [maxLen])) ⟨g, 0, none⟩ N cap (ivs xs) rfl (by rw [HN.out]; simp [ivs]) HC.out ?c2 ?c3 ?c4 ?c5 ?_)
  case c2 =>
    intro u hu
    simp only [ivs, List.mem_map] at hu
    obtain ⟨l, _, rfl⟩ := hu
    rfl
  case c3 => unfold maxLen; omega
  case c4 => omega
  case c5 => simp
  intro v' w3 hown' hgrow _
  rcases own_open hown' with ⟨_, h0, _⟩ | ⟨g', c', rfl, _, _, _, _, _, _, _⟩
  · omega
  have R1 := Lib.hid hown'
  have R2 := Lib.hid ((below_alloc w _).grown hgrow (by simp) (fun q hq => by cases hq; exact Nat.le_refl _))
  clear hown' hgrow
  go_wp2_with fail
  go_ret
  have hr : w3.ownsRow w.heap.size 3 1 (.slice (some ⟨g', 0, none⟩) N c') N (ivs xs) := by have := R1.out; simpa using this
  refine ⟨g', c', by first | rfl | (simp; done), intsA_of ?_, R2.out⟩
  unfold Ints
  rw [← HN.out]
  exact hr

set_option maxHeartbeats 1000000 in
theorem cloneI_any (w : World) (B : Nat) (v : Value) (xs : List Int) (ha : IntsA w B v xs) (h1 : 1 ≤ xs.length) (h9 : xs.length ≤ 1000) :
    Calls Try.prog 91 #[v] w fun e w' => ∃ g c, e = .returned (.slice (some ⟨g, 0, none⟩) xs.length c) ∧ IntsA w' w.heap.size (.slice (some ⟨g, 0, none⟩) xs.length c) xs ∧ Below w.heap.size w w' := by
  obtain ⟨i0, hi, hz0, hz1, hz2⟩ := info_parts info_intT
  obtain ⟨g, cap, rfl, hc1, hc2, _, hg, hce⟩ := intsA_at ha h1
  have hcp := own_copy (w3 := w) hce
  obtain ⟨N, hN⟩ : ∃ N, N = xs.length := ⟨_, rfl⟩
  have HC := Lib.hid hcp; have HN := Lib.hid hN
  rw [← hN] at hc1 h1 h9 ⊢
  clear ha hce hcp hN
  have hnil : ∀ W, (binOp .eql 32 (.slice (some ⟨g, 0, none⟩) N cap) (.slice none 0 0)).run Try.prog W = .ok (.bool false) W := fun W => Lib.run_eql_slice_nil (P := Try.prog) W 32 3 (some ⟨g, 0, none⟩) N cap 0 0 Try.underlying32
  go_enter Try.func91, Try.ntmps91
  go_wp2_with (at_builtin; refine wpList_app _ rfl _ _ 32 rfl w.heap.size 3 i0 (.int .i64 0) 8 Try.underlying32 hi hz0 hz1 hz2 rfl _ 0 [] rfl (own_lit w w.heap.size 3 [] (Nat.le_refl _) (by simp [maxLen])) ⟨g, 0, none⟩ N cap (ivs xs) rfl (by rw [HN.out]; simp [ivs]) HC.out ?c2 ?c3 ?c4 ?c5 ?_)
  case c2 =>
    intro u hu
    simp only [ivs, List.mem_map] at hu
    obtain ⟨l, _, rfl⟩ := hu
    rfl
  case c3 => unfold maxLen; omega
  case c4 => omega
  case c5 => simp
  intro v' w3 hown' hgrow _
  rcases own_open hown' with ⟨_, h0, _⟩ | ⟨g', c', rfl, _, _, _, _, _, _, _⟩
  · omega
  have R1 := Lib.hid hown'
  have R2 := Lib.hid ((below_alloc w _).grown hgrow (by simp) (fun q hq => by cases hq; exact Nat.le_refl _))
  clear hown' hgrow
  go_wp2_with fail
  go_ret
  have hr : w3.ownsRow w.heap.size 3 1 (.slice (some ⟨g', 0, none⟩) N c') N (ivs xs) := by have := R1.out; simpa using this
  refine ⟨g', c', by first | rfl | (simp; done), intsA_of ?_, R2.out⟩
  unfold Ints
  rw [← HN.out]
  exact hr

theorem intsRA_one {w : World} {B : Nat} {u : Value} {xs : List Int} (hu : IntsA w B u xs) (hB : B ≤ w.heap.size) : IntsRA (w.alloc (.cells #[u] 32)) B (.slice (some ⟨w.heap.size, 0, none⟩) 1 1) [u] [xs] := by
  refine ⟨own_lit w B 32 [u] hB (by simp [maxLen]), rfl, ?_, ?_, ?_⟩
  · intro i x ys h1 h2
    match i, h1, h2 with
    | 0, h1, h2 => simp at h1 h2; subst h1; subst h2; exact intsA_below hu (below_alloc _ _)
    | i + 1, h1, _ => simp at h1
  · intro i j x x' hij h1 h2
    match i, j, h1, h2 with
    | 0, 0, _, _ => omega
    | i + 1, _, h1, _ => simp at h1
    | 0, j + 1, _, h2 => simp at h2
  · intro i x h1
    match i, h1 with
    | 0, h1 =>
      simp at h1; subst h1
      intro k e1 e2
      have := (intsA_lt hu k e1).2
      have e' : w.heap.size = k := by simpa [Value.ownBlock] using e2
      omega
    | i + 1, h1 => simp at h1
/-- Rows and true, or nil and false. -/
def TellOk (o : Option (List (List Int))) (w w' : World) (e : Ending) : Prop :=
  ∃ v vs, e = .returned (.tuple #[v, .bool o.isSome]) ∧ IntsRA w' w.heap.size v vs (o.getD []) ∧ Below w.heap.size w w' ∧ (o = none → v = .slice none 0 0)
def rowsW (L n : Nat) (ns : List Nat) : List (List Int) := (wayN L n ns).map ti
theorem rowsW_len (L n : Nat) (ns : List Nat) : (rowsW L n ns).length = n + 1 := by simp [rowsW, wayN_len]

/-- The way of a told list, or nothing. -/
def wayTO (xs : List Int) (n : Int) : Option (List (List Int)) := if tolL xs = true ∧ 0 ≤ n ∧ n ≤ 40 then some (rowsW xs.length n.toNat (xs.map Int.toNat)) else none
theorem wayTO_ti {ns : List Nat} {n : Int} (h : tolL (ti ns) = true) (hn : 0 ≤ n ∧ n ≤ 40) : wayTO (ti ns) n = some (rowsW ns.length n.toNat ns) := by
  unfold wayTO
  rw [if_pos ⟨h, hn.1, hn.2⟩, ti_len]
  congr 2
  simp only [ti, List.map_map]
  exact List.map_id ns
theorem wayTO_none {xs : List Int} {n : Int} (h : ¬ (tolL xs = true ∧ 0 ≤ n ∧ n ≤ 40)) : wayTO xs n = none := by
  unfold wayTO; rw [if_neg h]
set_option maxHeartbeats 2000000 in
theorem specWayOfTelling_good (w : World) (B : Nat) (v : Value) (ns : List Nat) (n : Int) (ha : IntsA w B v (ti ns)) (ht : tolL (ti ns) = true) (h1 : 1 ≤ ns.length) (h9 : ns.length ≤ 9) (hle : ∀ x ∈ ns, x ≤ ns.length) (h0 : 0 ≤ n) (h40 : n ≤ 40) :
    Calls Try.prog 51 #[v, .int .i64 n] w fun e w' => TellOk (some (rowsW ns.length n.toNat ns)) w w' e := by
  obtain ⟨i0, hi, hz0, hz1, hz2⟩ := info_parts info_rowT
  obtain ⟨N, rfl⟩ := Int.eq_ofNat_of_zero_le h0
  rw [Int.toNat_natCast]
  have hN : N ≤ 40 := by omega
  have hL := taList_any w B v _ ha
  have hown := l1Own_any w B v _ ha (by rw [ti_len]; exact h1) (by rw [ti_len]; omega)
  rw [ht] at hL
  rw [ti_len] at hown
  obtain ⟨L, hLL⟩ : ∃ L, L = ns.length := ⟨_, rfl⟩
  have hmem := fun k => wayN_mem L k ns hLL.symm (by rw [hLL]; exact hle)
  rw [← hLL] at hown h1 h9 ⊢
  have hn : decide ((0 : Int) ≤ N ∧ (N : Int) ≤ 40) = true := by simp; omega
  obtain ⟨a, cap, rfl, _, _⟩ := intsA_slice ha
  have HL := Lib.hid hL; have HOW := Lib.hid hown; have HN := Lib.hid hn; have HM := Lib.hid hmem
  clear hL hown hn hmem ht hle ha hLL h0 h40
  go_enter Try.func51, Try.ntmps51
  go_wp2_with fail
  refine HL.out.mono ?_
  rintro e w1 ⟨rfl, rfl⟩
  go_wp2_with fail
  refine (l1In_is true _ _ _ _ HN.out).mono ?_
  rintro e w1 ⟨rfl, rfl⟩
  go_wp2_with fail
  refine HOW.out.mono ?_
  rintro e w1 ⟨g, c, rfl, ho, hb⟩
  have h1r := intsRA_one ho hb.size
  have H1 := Lib.hid h1r; have HB1 := Lib.hid (below_trans hb (below_alloc w1 (.cells #[.slice (some ⟨g, 0, none⟩) L c] 32)))
  clear ho hb h1r HL HOW
  go_wp2_with fail
  go_loopw [1, 6] (fun t v wr => ∃ (k : Nat) (vs : List Value) (q : Option Addr) (d : Nat), k ≤ N ∧ t = .int .i64 (((N - k : Nat)) : Int) ∧ v = .slice q (k + 1) d ∧ Hid (IntsRA wr w.heap.size (.slice q (k + 1) d) vs (rowsW L k ns) ∧ Below w.heap.size w wr)) (fun t _ _ => (intOf t).toNat)
  case atStart => exact ⟨0, _, _, _, Nat.zero_le _, rfl, rfl, H1.out, HB1.out⟩
  case round =>
    obtain ⟨k, vs, q, d, hk, rfl, rfl, HX⟩ := hrel
    by_cases hlt : k < N
    · have hlast := wayN_last L k ns
      obtain ⟨last, hla⟩ : ∃ last, last = (wayN L k ns).getLastD [] := ⟨_, rfl⟩
      rw [← hla] at hlast
      obtain ⟨hm1, hm2⟩ := HM.out k last (List.mem_of_getElem? hlast)
      rcases intsRA_open HX.out.1 with ⟨e, _⟩ | ⟨g', cap', e, _, hcp, hg', _, hce⟩
      · cases e
      have hgg : q = some ⟨g', 0, none⟩ ∧ d = cap' := by simp only [Value.slice.injEq] at e; exact ⟨e.1, e.2.2⟩
      obtain ⟨rfl, rfl⟩ := hgg
      obtain ⟨u, hu0, hu, hcu⟩ := hce k (by rw [rowsW_len]; omega)
      have hrk : (rowsW L k ns)[k]'(by rw [rowsW_len]; omega) = ti last := by
        have : (rowsW L k ns)[k]? = some (ti last) := by unfold rowsW; rw [List.getElem?_map, hlast]; rfl
        exact (List.getElem?_eq_some_iff.1 this).2
      rw [hrk] at hu
      have htl := taTell_any wr w.heap.size u last hu (by omega) (by omega)
      rw [hm1] at htl
      have hvl := HX.out.1.len
      rw [rowsW_len] at hvl
      have hws : rowsW L (k + 1) ns = rowsW L k ns ++ [ti (tel L last)] := by unfold rowsW; rw [wayN, ← hla]; simp
      have hsub : (((N - k : Nat)) : Int) = (N : Int) - (k : Int) := by omega
      have hszr := HX.out.2.size
      have HTL := Lib.hid htl; have HWS := Lib.hid hws; have HVL := Lib.hid hvl
      rw [hsub]
      have hpos : (0 : Int) < (N : Int) - (k : Int) := by omega
      clear htl hws hvl hrk hce hla hlast hu hu0 hm1 hm2 e
      go_wp2_with fail
      refine HTL.out.mono ?_
      rintro e w2 ⟨gt, rfl, ho2, hb2⟩
      have hnew : IntsA w2 wr.heap.size (.slice (some ⟨gt, 0, none⟩) L L) (ti (tel L last)) := intsA_of (by
        rw [tvl_ti] at ho2
        unfold Ints
        simpa [ti_len, tel_len] using ho2)
      have hX2 := intsRA_below HX.out.1 hb2
      have hX3 := intsRA_below hX2 (below_alloc w2 (.cells #[.slice (some ⟨gt, 0, none⟩) L L] 32))
      have hN3 := intsA_below hnew (below_alloc w2 (.cells #[.slice (some ⟨gt, 0, none⟩) L L] 32))
      have HX3 := Lib.hid hX3; have HN3 := Lib.hid hN3; have HX2 := Lib.hid hX2
      have HB2 := Lib.hid (HX.out.2.trans (hb2.mono hszr)); have HS2 := Lib.hid hb2.size
      clear ho2 hb2 hnew hX2 hX3 hN3 hcu
      go_wp2_with (at_builtin; refine wpList_app _ rfl _ _ 51 rfl w.heap.size 32 i0 (.slice none 0 0) 24 Try.underlying51 hi hz0 hz1 hz2 rfl _ (k + 1) vs rfl (by have := HX3.out.outer; rw [← HVL.out] at this; exact this) ⟨w2.heap.size, 0, none⟩ 1 1 [.slice (some ⟨gt, 0, none⟩) L L] rfl rfl ?c1 ?c2 ?c3 ?c4 ?c5 ?_)
      case c1 =>
        intro j u hj
        match j, hj with
        | 0, hj => simp at hj; subst hj; simp [Addr.add]
      case c2 => intro u hu; simp at hu; subst hu; rfl
      case c3 => unfold maxLen; omega
      case c4 => omega
      case c5 => have := HB2.out.size; simp; omega
      intro v' w3 hown' hgrow hwh
      obtain ⟨av', cv', rfl⟩ := own_slice hown'
      have hsn := intsRA_snoc (u := .slice (some ⟨gt, 0, none⟩) L L) (xs := ti (tel L last)) HX3.out (intsA_mono HN3.out hszr) (fun i u' hi' => by
          intro z e1 e2
          have e' := (intsA_lt HN3.out z e2).1
          obtain ⟨u2, f1, f2⟩ := intsRA_row HX.out.1 i (by rw [HX.out.1.len]; exact get_lt hi')
          rw [hi'] at f1; cases f1
          have := (intsA_lt f2 z e1).2
          omega) (by
          intro z e1 e2
          have e' := (intsA_lt HN3.out z e1).1
          have := (HX.out.1.outer.lt z e2).2
          omega) (by rw [← HVL.out]; exact hown') hgrow (by rw [Go.Deep.nblk_alloc]; exact hwh)
      have R1 := Lib.hid hsn
      have R2 := Lib.hid ((HB2.out.alloc HB2.out.size _).grown hgrow (by have := HB2.out.size; simp; omega) (fun q hq => (HX2.out.outer.lt q hq).1))
      clear hown' hgrow hwh hsn
      go_wp2_with fail
      go_roundw
      case rel => exact ⟨k + 1, _, _, _, by omega, by go_num, rfl, by rw [HWS.out]; exact R1.out, R2.out⟩
      case measure => simp [intOf] <;> omega
    · obtain rfl : k = N := by omega
      have hz : (((k - k : Nat)) : Int) = 0 := by omega
      rw [hz]
      go_wp2_with fail
      go_ret2
      exact ⟨_, vs, rfl, HX.out.1, HX.out.2, fun h => by cases h⟩

theorem specWayOfTelling_any (w : World) (B : Nat) (v : Value) (xs : List Int) (n : Int) (ha : IntsA w B v xs) :
    Calls Try.prog 51 #[v, .int .i64 n] w fun e w' => TellOk (wayTO xs n) w w' e := by
  cases ht : tolL xs with
  | true =>
    obtain ⟨ns, rfl, h1, h9, hle⟩ := tolL_nat ht
    by_cases hn : 0 ≤ n ∧ n ≤ 40
    · rw [wayTO_ti ht hn]
      exact specWayOfTelling_good w B v ns n ha ht h1 h9 hle hn.1 hn.2
    · rw [wayTO_none (fun h => hn h.2)]
      have hL := taList_any w B v _ ha
      rw [ht] at hL
      have hd : decide ((0 : Int) ≤ n ∧ n ≤ 40) = false := decide_eq_false hn
      obtain ⟨a, cap, rfl, _, _⟩ := intsA_slice ha
      have HL := Lib.hid hL; have HD := Lib.hid hd; clear hL hd ha ht hle hn
      go_enter Try.func51, Try.ntmps51
      go_wp2_with fail
      refine HL.out.mono ?_
      rintro e w1 ⟨rfl, rfl⟩
      go_wp2_with fail
      refine (l1In_is false _ _ _ _ HD.out).mono ?_
      rintro e w1 ⟨rfl, rfl⟩
      go_wp2_with fail
      go_ret2
      exact ⟨_, _, rfl, intsRA_nil _ _, Below.refl _ _, fun _ => rfl⟩
  | false =>
    rw [wayTO_none (fun h => by rw [ht] at h; cases h.1)]
    have hL := taList_any w B v _ ha
    rw [ht] at hL
    obtain ⟨a, cap, rfl, _, _⟩ := intsA_slice ha
    have HL := Lib.hid hL; clear hL ha ht
    go_enter Try.func51, Try.ntmps51
    go_wp2_with fail
    refine HL.out.mono ?_
    rintro e w1 ⟨rfl, rfl⟩
    go_wp2_with fail
    go_ret2
    exact ⟨_, _, rfl, intsRA_nil _ _, Below.refl _ _, fun _ => rfl⟩

set_option maxHeartbeats 4000000 in
theorem wayFromTell_any (w : World) (B g c : Nat) (ns : List Nat) (N L : Nat) (ha : IntsA w B (.slice (some ⟨g, 0, none⟩) L c) (ti ns)) (hB : B ≤ w.heap.size) (hLL : L = ns.length) (h1 : 1 ≤ L) (h9 : L ≤ 9) (hle : ∀ x ∈ ns, x ≤ L) (hN : N ≤ 40) :
    Calls Try.prog 90 #[.slice (some ⟨g, 0, none⟩) L c, .int .i64 N, .func (.func 36) #[] #[]] w fun e w' => ∃ v vs, e = .returned (.tuple #[v, .bool true]) ∧ IntsRA w' B v vs (rowsW L N ns) ∧ Below w.heap.size w w' := by
  obtain ⟨i0, hi, hz0, hz1, hz2⟩ := info_parts info_rowT
  have hmem := fun k => wayN_mem L k ns hLL.symm hle
  have HA := Lib.hid ha; have HM := Lib.hid hmem
  clear ha hmem hle hLL
  go_enter Try.func90, Try.ntmps90
  go_wp2_with (first
    | (refine wpList_make_own _ rfl _ _ 51 rfl w.heap.size 32 i0 (.slice none 0 0) 1 Try.underlying51 hi hz0 hz1 .i64 .i64 ((N : Int) + 1) (N + 1) rfl rfl (by omega) (by rw [hz2]; omega) (by unfold maxLen; omega) (Nat.le_refl _) ?_; intro w1 hown hgr)
    | (at_builtin; refine wpList_app _ rfl _ _ 51 rfl w.heap.size 32 i0 (.slice none 0 0) 24 Try.underlying51 hi hz0 hz1 hz2 rfl _ 0 [] rfl (hown.alloc _) ⟨w1.heap.size, 0, none⟩ 1 1 [.slice (some ⟨g, 0, none⟩) L c] rfl rfl ?a1 ?a2 ?a3 ?a4 ?a5 ?_))
  case a1 =>
    intro j u hj
    match j, hj with
    | 0, hj => simp at hj; subst hj; simp [Addr.add]
  case a2 => intro u hu; simp at hu; subst hu; rfl
  case a3 => unfold maxLen; omega
  case a4 => omega
  case a5 => have h1 := hgr.size; simp; omega
  intro v0 w3 hown3 hg3 hw3
  have hbb := (Below.refl w.heap.size w).grown hgr (Nat.le_refl _) (fun k h => by cases h)
  have B0 := Lib.hid ((hbb.alloc hbb.size (.cells #[.slice (some ⟨g, 0, none⟩) L c] 32)).grown hg3 (by have := hbb.size; simp; omega) (fun q hq => (hown.lt q hq).1))
  rcases own_open hown3 with ⟨_, h0, _⟩ | ⟨g3, c3, rfl, hB3, hg3', _, _, _, _, _⟩
  · omega
  have hr0 : IntsRA w3 B (.slice (some ⟨g3, 0, none⟩) (0 + 1) c3) [.slice (some ⟨g, 0, none⟩) L c] (rowsW L 0 ns) := by
    refine ⟨own_mono (by simpa using hown3) hB, rfl, ?_, ?_, ?_⟩
    · intro i x ys h1 h2
      match i, h1, h2 with
      | 0, h1, h2 =>
        simp [rowsW, wayN] at h1 h2; subst h1; subst h2
        exact intsA_below HA.out B0.out
      | i + 1, h1, _ => simp at h1
    · intro i j x x' hij h1 h2
      match i, j, h1, h2 with
      | 0, 0, _, _ => omega
      | i + 1, _, h1, _ => simp at h1
      | 0, j + 1, _, h2 => simp at h2
    · intro i x h1
      match i, h1 with
      | 0, h1 =>
        simp at h1; subst h1
        intro k e1 e2
        have := (intsA_lt HA.out k e1).2
        have e' : g3 = k := by simpa [Value.ownBlock] using e2
        omega
      | i + 1, h1 => simp at h1
  have R0 := Lib.hid hr0
  clear hown3 hg3 hbb hown hgr hw3 hr0
  go_wp2_with fail
  go_loopw [8, 20] (fun v t wr => ∃ (k : Nat) (vs : List Value) (g0 d : Nat), k ≤ N ∧ w.heap.size ≤ g0 ∧ t = .int .i64 (k : Int) ∧ v = .slice (some ⟨g0, 0, none⟩) (k + 1) d ∧ Hid (IntsRA wr B (.slice (some ⟨g0, 0, none⟩) (k + 1) d) vs (rowsW L k ns) ∧ Below w.heap.size w wr)) (fun _ t _ => N - (intOf t).toNat)
  case atStart => exact ⟨0, _, _, _, Nat.zero_le _, hB3, rfl, rfl, R0.out, B0.out⟩
  case round =>
    obtain ⟨k, vs, g0, d, hk, hg0, rfl, rfl, HX⟩ := hrel
    by_cases hlt : k < N
    · have hlast := wayN_last L k ns
      obtain ⟨last, hla⟩ : ∃ last, last = (wayN L k ns).getLastD [] := ⟨_, rfl⟩
      rw [← hla] at hlast
      obtain ⟨hm1, hm2⟩ := HM.out k last (List.mem_of_getElem? hlast)
      rcases intsRA_open HX.out.1 with ⟨e, _⟩ | ⟨g', cap', e, _, hcp, hg', _, hce⟩
      · cases e
      have hgg : g0 = g' ∧ d = cap' := by simp only [Value.slice.injEq, Option.some.injEq, Addr.mk.injEq] at e; exact ⟨e.1.1, e.2.2⟩
      obtain ⟨rfl, rfl⟩ := hgg
      obtain ⟨u, hu0, hu, hcu⟩ := hce k (by rw [rowsW_len]; omega)
      have hrk : (rowsW L k ns)[k]'(by rw [rowsW_len]; omega) = ti last := by
        have : (rowsW L k ns)[k]? = some (ti last) := by unfold rowsW; rw [List.getElem?_map, hlast]; rfl
        exact (List.getElem?_eq_some_iff.1 this).2
      rw [hrk] at hu
      have hto : tolL (ti last) = true := tolL_ti (by omega) (by omega) (by rw [hm1]; exact hm2)
      have htl := fun W (hbW : Below wr.heap.size wr W) => implTellList_any W B u (ti last) (intsA_below hu hbW)
      rw [tellO_ti hto, hm1] at htl
      have hvl := HX.out.1.len
      rw [rowsW_len] at hvl
      have hws : rowsW L (k + 1) ns = rowsW L k ns ++ [ti (tel L last)] := by unfold rowsW; rw [wayN, ← hla]; simp
      have hszr := HX.out.2.size
      have HTL := Lib.hid htl; have HWS := Lib.hid hws; have HVL := Lib.hid hvl
      have hkk : (k : Int) < (N : Int) := by omega
      clear htl hws hvl hrk hce hla hlast hu0 hu hm1 hm2 hto e
      go_wp2_with fail
      refine (HTL.out wr (Below.refl _ _)).mono ?_
      rintro e w2 ⟨tv, rfl, hnew, hb2, _⟩
      simp only [Option.getD_some, Option.isSome_some] at hnew ⊢
      obtain ⟨pt, ct, htv, _, _⟩ := intsA_slice hnew
      rw [ti_len, tel_len] at htv
      subst htv
      have hX2 := intsRA_below HX.out.1 hb2
      have hX3 := intsRA_below hX2 (below_alloc w2 (.cells #[.slice pt L ct] 32))
      have hN3 := intsA_below hnew (below_alloc w2 (.cells #[.slice pt L ct] 32))
      have HX3 := Lib.hid hX3; have HN3 := Lib.hid hN3; have HX2 := Lib.hid hX2
      have HB2 := Lib.hid (HX.out.2.trans (hb2.mono hszr)); have HS2 := Lib.hid hb2.size
      clear hb2 hnew hX2 hX3 hN3 hcu
      go_wp2_with (at_builtin; refine wpList_app _ rfl _ _ 51 rfl B 32 i0 (.slice none 0 0) 24 Try.underlying51 hi hz0 hz1 hz2 rfl _ (k + 1) vs rfl (by have := HX3.out.outer; rw [← HVL.out] at this; exact this) ⟨w2.heap.size, 0, none⟩ 1 1 [.slice pt L ct] rfl rfl ?c1 ?c2 ?c3 ?c4 ?c5 ?_)
      case c1 =>
        intro j u hj
        match j, hj with
        | 0, hj => simp at hj; subst hj; simp [Addr.add]
      case c2 => intro u hu; simp at hu; subst hu; rfl
      case c3 => unfold maxLen; omega
      case c4 => omega
      case c5 => have := HB2.out.size; simp; omega
      intro v' w3 hown' hgrow hwh
      rcases own_open hown' with ⟨_, h0, _⟩ | ⟨gv, cv', rfl, hBv, hgv, _, _, _, _, _⟩
      · omega
      have hgw : w.heap.size ≤ gv := by
        rcases hwh with h | h
        · have : gv = g0 := by simpa [Value.ownBlock] using h
          omega
        · have : gv = w2.heap.size + 1 := by simpa [Value.ownBlock] using h
          have := HB2.out.size
          omega
      have hsn := intsRA_snoc (u := .slice pt L ct) (xs := ti (tel L last)) HX3.out (intsA_mono HN3.out (by omega)) (fun i u' hi' => by
          intro z e1 e2
          have e' := (intsA_lt HN3.out z e2).1
          obtain ⟨u2, f1, f2⟩ := intsRA_row HX.out.1 i (by rw [HX.out.1.len]; exact get_lt hi')
          rw [hi'] at f1; cases f1
          have := (intsA_lt f2 z e1).2
          omega) (by
          intro z e1 e2
          have e' := (intsA_lt HN3.out z e1).1
          have := (HX.out.1.outer.lt z e2).2
          omega) (by rw [← HVL.out]; exact hown') hgrow (by rw [Go.Deep.nblk_alloc]; exact hwh)
      have R1 := Lib.hid hsn
      have R2 := Lib.hid ((HB2.out.alloc HB2.out.size _).grown hgrow (by have := HB2.out.size; simp; omega) (fun q hq => by
        have e' : g0 = q := by simpa [Value.ownBlock] using hq
        omega))
      clear hown' hgrow hwh hsn
      go_wp2_with fail
      go_roundw
      case rel => exact ⟨k + 1, _, _, _, by omega, hgw, by go_num, rfl, by rw [HWS.out]; exact R1.out, R2.out⟩
      case measure => simp [intOf] <;> omega
    · obtain rfl : k = N := by omega
      go_wp2_with fail
      go_ret2
      exact ⟨_, vs, rfl, HX.out.1, HX.out.2⟩
end Go.Proofs.Ytkdoghopbefjfaa
