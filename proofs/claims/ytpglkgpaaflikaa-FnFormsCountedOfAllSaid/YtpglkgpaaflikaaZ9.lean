/- Chapter 6: AllForms on both sides, and the law. -/
import Derived.Test.YtpglkgpaaflikaaZ7
import Derived.Test.YtpglkgpaaflikaaZ8
namespace Go.Proofs.Ytpglkgpaaflikaa
open Go.RowKit Go.BigFrame Go.Maps
set_option linter.unusedSimpArgs false
set_option linter.unusedVariables false
set_option maxRecDepth 4000

def afB (n : Int) : Bool := decide (1 ≤ n ∧ n ≤ 7)
def afO (n : Int) : Option (List (List Int)) := if afB n = true then some (allF n.toNat) else none
def RROk (o : Option (List (List Int))) (w w' : World) (e : Ending) : Prop :=
  ∃ v vs, e = .returned (.tuple #[v, .bool o.isSome]) ∧ IntsRR w' w.heap.size v vs (o.getD []) ∧ Below w.heap.size w w'
theorem afO_total (n : Int) : totalSS ((afO n).getD []) ≤ 100000 := by
  unfold afO
  split
  · rename_i h; have := of_decide_eq_true h; exact allF_total _ (by omega)
  · exact Nat.zero_le _
theorem rr_nil0 (w : World) (B : Nat) : IntsRR w B (.slice none 0 0) [] [] := ownsRR_nil _ _ _ _

set_option maxHeartbeats 2000000 in
theorem specAllForms_any (n : Int) (w : World) :
    Calls Try.prog 30 #[.int .i64 n] w fun e w' => RROk (afO n) w w' e := by
  cases hd : afB n with
  | false =>
    rw [show afO n = none by unfold afO; rw [hd]; rfl]
    have HD := Lib.hid hd; clear hd
    go_enter Try.func30, Try.ntmps30
    go_wp2_with fail
    refine (l1In_is false _ _ _ _ HD.out).mono ?_
    rintro e w1 ⟨rfl, rfl⟩
    go_wp2_with fail
    go_ret2
    exact ⟨_, _, rfl, rr_nil0 _ _, Below.refl _ _⟩
  | true =>
    rw [show afO n = some (allF n.toNat) by unfold afO; rw [hd]; rfl]
    have hn := of_decide_eq_true hd
    obtain ⟨K, rfl⟩ := Int.eq_ofNat_of_zero_le (show 0 ≤ n by omega)
    rw [Int.toNat_natCast]
    have hK7 : K ≤ 7 := by omega
    have hP := plAll_any K (w.alloc (.cells #[.slice none 0 0] 37)) w.heap.size w.heap.size w.heap.size K (.slice none 0 0) [] (.slice none 0 0) [] [] 0 (World.ownsRow_nil _ _ _ _) ⟨heap_alloc_new _ _, Nat.le_refl _, rr_nil0 _ _, by simp⟩ (by simp) hK7 rfl (Nat.le_refl _) (by rw [dfs_nil]; have := allF_len K hK7; simpa using this) (by simp)
    rw [dfs_nil, List.nil_append] at hP
    have HD := Lib.hid hd; have HP := Lib.hid hP; clear hd hP hn
    go_enter Try.func30, Try.ntmps30
    go_wp2_with fail
    refine (l1In_is true _ _ _ _ HD.out).mono ?_
    rintro e w1 ⟨rfl, rfl⟩
    go_wp2_with fail
    refine HP.out.mono ?_
    rintro e w1 ⟨rfl, v', vs', ho, hb, _⟩
    obtain ⟨A, C, rfl⟩ := own_slice ho.rr.outer
    have hc : w1.cell? ⟨w.heap.size, 0, none⟩ = some (.slice A vs'.length C) := by simp only [World.cell?, ho.box]; rfl
    have HR := Lib.hid ho.rr; have HB := Lib.hid ((below_alloc w _).trans hb); clear ho hb
    go_wp2_with fail
    go_ret2
    exact ⟨_, _, rfl, HR.out, HB.out⟩

/-- append(out, row), out rows of the call's own. -/
theorem wpRR_app {ops : Array Oper} {rest : List Oper} {o : Oper} {a : Act} {Q : Exit → Act → World → Prop} (W : World) (hgd : o.guard = none) (s x : Operand)
    (ho : o.op = .call { callee := .builtin .append, args := #[s, x], argTypes := #[37, 37] })
    (n0 W0 : World) {v u : Value} {vs : List Value} {R : List (List Int)} {b : List Int} (h : IntsRR W0 n0.heap.size v vs R) (hu : Ints W W0.heap.size u b) (hb0 : Below W0.heap.size W0 W) (hbn : Below n0.heap.size n0 W0)
    (hs : a.eval s = v) (hx : a.eval x = .slice (some ⟨W.heap.size, 0, none⟩) 1 1) (hl : R.length + 1 ≤ 1000)
    (hK : ∀ v' w', IntsRR w' n0.heap.size v' (vs ++ [u]) (R ++ [b]) → Below n0.heap.size n0 w' → wpList Try.prog ops Q rest (a.put o.dst v') w') :
    wpList Try.prog ops Q (o :: rest) a (W.alloc (.cells #[u] 22)) := by
  obtain ⟨i0, hi, hz0, hz1, hz2⟩ := info_parts info_rowT
  have h1 := ownsRR_below h hb0
  have s0 := hb0.size
  have s1 := hbn.size
  have hlen : vs.length ≤ 999 := by have := h.len; simp at this; omega
  refine wpList_app _ hgd s x 37 ho n0.heap.size 22 i0 (.slice none 0 0) 24 Try.underlying37 hi hz0 hz1 hz2 rfl v vs.length vs hs (own_below h1.outer (below_alloc W _)) ⟨W.heap.size, 0, none⟩ 1 1 [u] hx rfl (cell_one_new _ _ _) (by
    intro y hy; simp at hy; subst hy
    rcases own_slice hu with ⟨a, c, rfl⟩; rfl) (by unfold maxLen; omega) (by omega) (by simp; omega) ?_
  intro v' w' ho' hgr _
  refine hK v' w' ?_ (((hbn.trans (hb0.mono s1)).alloc (by omega) _).grown hgr (by simp; omega) (fun g e => (h.outer.lt g e).1))
  exact rr_snoc (ownsRR_below h1 (below_alloc W _)) (own_mono (own_below hu (below_alloc W _)) s1) (rr_new (B2 := W0.heap.size) h1 (fun g e => (hu.lt g e).1) (fun i u' g e1 e2 => rr_lt h i u' g e1 e2)) ho' hgr

theorem concat_new (ws : World) (B : Nat) (u : Value) (b : List Int) (x : Int) (hu : Ints ws B u b) (hl : b.length ≤ 900) :
    Calls Try.prog 86 #[.slice (some ⟨ws.heap.size + 1, 0, none⟩) 2 2] ((ws.alloc (.cells #[.int .i64 x] 3)).alloc (.cells #[u, .slice (some ⟨ws.heap.size, 0, none⟩) 1 1] 22)) fun e w' => ∃ q c, e = .returned (.slice q (b.length + 1) c) ∧ Ints w' ws.heap.size (.slice q (b.length + 1) c) (b ++ [x]) ∧ Below ws.heap.size ws w' := by
  have hn := heap_alloc2_new ws (.cells #[.int .i64 x] 3) (.cells #[u, .slice (some ⟨ws.heap.size, 0, none⟩) 1 1] 22)
  have hb : Below ws.heap.size ws ((ws.alloc (.cells #[.int .i64 x] 3)).alloc (.cells #[u, .slice (some ⟨ws.heap.size, 0, none⟩) 1 1] 22)) := below_trans (below_alloc _ _) (below_alloc _ _)
  have h2 : Ints ((ws.alloc (.cells #[.int .i64 x] 3)).alloc (.cells #[u, .slice (some ⟨ws.heap.size, 0, none⟩) 1 1] 22)) ws.heap.size (.slice (some ⟨ws.heap.size, 0, none⟩) 1 1) [x] := own_below (own_lit ws ws.heap.size 3 [.int .i64 x] (Nat.le_refl _) (by simp [maxLen])) (below_alloc _ _)
  refine (concat_any _ (ws.heap.size + 1) B ws.heap.size u _ b [x] (by simp only [World.cell?, hn]; rfl) (by simp only [World.cell?, hn]; rfl) (by simp) (own_below hu hb) h2 (by simp) (by simp; omega)).mono ?_
  rintro e w' ⟨q, c, he, ho, hbw⟩
  exact ⟨q, c, he, own_mono ho (by simp; omega), below_trans hb hbw⟩

set_option maxHeartbeats 4000000 in
theorem longerForms_any (w : World) (B : Nat) (fv : Value) (fvs : List Value) (R : List (List Int)) (k : Nat) (h : IntsRR w B fv fvs R) (hR : ∀ b ∈ R, b.length = k ∧ mxL b ≤ (k : Int)) (hk : k ≤ 10) (h1 : 1 ≤ R.length) (h9 : R.length ≤ 1000) (h99 : (R.flatMap exts).length ≤ 1000) :
    Calls Try.prog 69 #[fv] w fun e w' => ∃ v vs, e = .returned v ∧ IntsRR w' w.heap.size v vs (R.flatMap exts) ∧ Below w.heap.size w w' := by
  rcases intsRR_open h with ⟨_, h0⟩ | ⟨g, cap, rfl, hn, hcp, hg, _, hca⟩
  · rw [h0] at h1; simp at h1
  obtain ⟨L, hL⟩ : ∃ L, L = R.length := ⟨_, rfl⟩
  have HL := Lib.hid hL; have HC := Lib.hid hca; have HR := Lib.hid hR; have H99 := Lib.hid h99
  rw [← hL] at hn h1 h9 ⊢
  clear h hca hR h99 hL
  go_enter Try.func69, Try.ntmps69
  go_wp2_with fail
  go_loopw [3, 10] (fun ov iv wr => ∃ (i : Nat) (vs : List Value), i ≤ L ∧ iv = .int .i64 i ∧ Hid (IntsRR wr w.heap.size ov vs ((R.take i).flatMap exts) ∧ Below w.heap.size w wr)) (fun _ iv _ => L - (intOf iv).toNat)
  case atStart =>
    refine ⟨0, [], Nat.zero_le _, rfl, ⟨own_lit w w.heap.size 22 [] (Nat.le_refl _) (by simp [maxLen]), rfl, fun i u xs h => by simp at h, fun i j u u' _ h => by simp at h, fun i u h => by simp at h⟩, below_alloc _ _⟩
  case round =>
    obtain ⟨i, vs, hi, rfl, HX⟩ := hrel
    by_cases hlt : i < L
    · have hie : i < R.length := by rw [← HL.out]; exact hlt
      obtain ⟨u, _, hu, hcu⟩ := HC.out i hie
      obtain ⟨hbl, hbm⟩ := HR.out R[i] (List.getElem_mem _)
      have htk := flat_take exts R i hie
      have hle := flat_take_le exts R (i + 1)
      obtain ⟨b, hb⟩ : ∃ b, b = R[i] := ⟨_, rfl⟩
      rw [← hb] at hu hbl hbm htk
      rw [htk, List.length_append] at hle
      have hwc : wr.cell? ⟨g, i, none⟩ = some u := (HX.out.2.cell (p := ⟨g, i, none⟩) hg).trans hcu
      have hu2 := own_below hu HX.out.2
      have hgr := greatestOf_any wr u b (argL_of_ints hu2) (by omega)
      have hm0 : 0 ≤ mxL b := mxS_nonneg _ _
      rw [show mxS (sq b) b.length = mxL b from rfl] at hgr
      obtain ⟨A, C, hA⟩ := own_slice hu
      obtain ⟨nb, hnb⟩ : ∃ nb, nb = b.length := ⟨_, rfl⟩
      rw [← hnb] at hA
      subst hA
      have hel := exts_len b
      obtain ⟨mb, hmb⟩ : ∃ mb : Nat, mxL b = (mb : Int) := ⟨(mxL b).toNat, by omega⟩
      rw [hmb] at hgr hel
      obtain ⟨M, hM⟩ : ∃ M, M = mb + 1 := ⟨_, rfl⟩
      have eM : (mb : Int) + 1 = (M : Int) := by omega
      have hM20 : M ≤ 20 := by omega
      have hel2 : (exts b).length = M := by rw [hel, hM]; simp
      have HU := Lib.hid hu; have HG := Lib.hid hgr; have HTK := Lib.hid htk; have HLE := Lib.hid hle; have HEL := Lib.hid hel2; have HNB := Lib.hid hnb; have HBL := Lib.hid hbl
      clear hu hgr hcu hbl hbm htk hle hb hu2 hm0 hnb hel hmb hM hel2 hie
      go_wp2_with fail
      refine HG.out.mono ?_
      rintro e w2 ⟨rfl, rfl⟩
      go_wp2_with fail
      go_loopw [3, 17] (fun ov jv ws => ∃ (j : Nat) (vs' : List Value), j ≤ M ∧ jv = .int .i64 j ∧ Hid (IntsRR ws w.heap.size ov vs' ((R.take i).flatMap exts ++ (exts b).take j) ∧ Below w.heap.size w ws)) (fun _ jv _ => M - (intOf jv).toNat)
      case atStart => exact ⟨0, vs, Nat.zero_le _, rfl, by simpa using HX.out.1, HX.out.2⟩
      case round =>
        obtain ⟨j, vs', hj, rfl, HY⟩ := hrel
        by_cases hjl : j < M
        · have hje : j < (exts b).length := by rw [HEL.out]; exact hjl
          have htj : (exts b).take (j + 1) = (exts b).take j ++ [b ++ [(j : Int) + 1]] := by rw [List.take_succ_eq_append_getElem hje, exts_at hje]
          obtain ⟨wz, hwz⟩ : ∃ wz, wz = wr := ⟨_, rfl⟩
          subst hwz
          have hcon := concat_new wz B (.slice A nb C) b ((j : Int) + 1) (own_below HU.out HY.out.2) (by have := HBL.out; omega)
          rw [← HNB.out] at hcon
          have hlen : ((R.take i).flatMap exts ++ (exts b).take j).length + 1 ≤ 1000 := by
            have h1 := HLE.out
            have h2 := H99.out
            have h3 := HEL.out
            rw [List.length_append, List.length_take]
            omega
          have HCON := Lib.hid hcon; have HTJ := Lib.hid htj; have HLEN := Lib.hid hlen
          clear hcon htj hlen hje
          go_wp2_with fail
          refine HCON.out.mono ?_
          rintro e w3 ⟨q, c, rfl, ho3, hb3⟩
          have HO3 := Lib.hid ho3; have HB3 := Lib.hid hb3; clear ho3 hb3
          go_wp2_with (at_builtin; refine wpRR_app w3 rfl _ _ rfl w wz HY.out.1 HO3.out HB3.out HY.out.2 rfl rfl HLEN.out ?_; intro v4 w4 ho4 hb4; have HO4 := Lib.hid ho4; have HB4 := Lib.hid hb4; clear ho4 hb4)
          go_roundw
          case rel => exact ⟨j + 1, _, by omega, by go_num, by rw [HTJ.out, ← List.append_assoc]; exact HO4.out, HB4.out⟩
          case measure => simp [intOf] <;> omega
        · obtain rfl : j = M := by omega
          go_wp2_with fail
          go_roundw
          case rel =>
            refine ⟨i + 1, vs', by omega, by go_num, ?_, HY.out.2⟩
            have := HY.out.1
            rw [show (exts b).take j = exts b from List.take_of_length_le (by rw [HEL.out]; exact Nat.le_refl _)] at this
            rw [HTK.out]
            exact this
          case measure => simp [intOf] <;> omega
    · obtain rfl : i = L := by omega
      go_wp2_with fail
      go_ret
      refine ⟨_, vs, rfl, ?_, HX.out.2⟩
      have := HX.out.1
      rw [List.take_of_length_le (by rw [← HL.out]; exact Nat.le_refl _)] at this
      exact this
end Go.Proofs.Ytpglkgpaaflikaa
