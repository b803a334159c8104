/- Chapter 6: all forms by the model: the recursion, AllForms. -/
import Derived.Test.YtpglkgpaaflikaaZ6
import Derived.Deep.RegionLaw
namespace Go.Proofs.Ytpglkgpaaflikaa
open Go.RowKit Go.BigFrame Go.Maps
set_option linter.unusedSimpArgs false
set_option linter.unusedVariables false
set_option maxRecDepth 4000

theorem flat_take {α β : Type} (f : α → List β) (l : List α) (i : Nat) (h : i < l.length) : (l.take (i + 1)).flatMap f = (l.take i).flatMap f ++ f l[i] := by
  rw [List.take_succ_eq_append_getElem h, List.flatMap_append]; simp
theorem flat_take_le {α β : Type} (f : α → List β) (l : List α) (i : Nat) : ((l.take i).flatMap f).length ≤ (l.flatMap f).length := by
  conv => rhs; rw [← List.take_append_drop i l]
  rw [List.flatMap_append, List.length_append]
  omega
/-- An append whose run is known, as one step of a region that draws its order. -/
theorem step_append_run {P : Program} {w : World} {ops : Array Oper} {o : Oper} {a : Act} {K : Act → World → Prop} {Q : Exit → Act → World → Prop} {E : Prop} (hgd : o.guard = none) (s x : Operand) (t : TypeId)
    (ho : o.op = .call { callee := .builtin .append, args := #[s, x], argTypes := #[t, t] }) {vs vx v' : Value} {w' : World} (hr : (Builtin.append_ #[t, t] o.type #[vs, vx]).run P w = .ok v' w') (hs : a.eval s = vs) (hx : a.eval x = vx)
    (h : K (a.put o.dst v') w') : if Region.wanted o (yielded ops a.tmps) = true then Oper.wp P o a w K Q else E := by
  have hwt : Region.wanted o (yielded ops a.tmps) = true := by simp [Region.wanted, hgd]
  rw [if_pos hwt]
  unfold Oper.wp execOp
  simp only [ho, resolve, invoke, builtin, Sem.run_bind, Sem.run_pure, Result.andThen_ok, List.map_toArray, List.map_cons, List.map_nil, hs, hx, hr]
  exact h
theorem exts_len (b : List Int) : (exts b).length = (mxL b).toNat + 1 := by simp [exts]
theorem exts_at {b : List Int} {i : Nat} (h : i < (exts b).length) : (exts b)[i] = b ++ [(i : Int) + 1] := by simp [exts]

set_option maxHeartbeats 4000000 in
theorem plAll_any : ∀ (r : Nat) (w : World) (B B' ob n : Nat) (u : Value) (b : List Int) (v : Value) (vs : List Value) (R : List (List Int)) (m : Nat),
    Ints w B' u b → OutAt w B ob v vs R → b.length + r = n → n ≤ 7 → mxL b = (m : Int) → m ≤ b.length → R.length + (dfsF r b).length ≤ 1000 → B ≤ w.heap.size →
    Calls Try.prog 70 #[u, .int .i64 m, .int .i64 n, .pointer (some ⟨ob, 0, none⟩)] w fun e w' => e = .returned (.tuple #[]) ∧ ∃ v' vs', OutAt w' B ob v' vs' (R ++ dfsF r b) ∧ Below B w w' ∧ KeepInt w w' := by
  intro r
  induction r with
  | zero =>
    intro w B B' ob n u b v vs R m hu hO hbn hn7 hm hmb hR hB
    have hown := fun (W : World) (hb : Below w.heap.size w W) => l1Own_any W B' u b (own_below hu hb) (by omega)
    have hcell : w.cell? ⟨ob, 0, none⟩ = some v := by simp only [World.cell?, hO.box]; rfl
    obtain ⟨N, hN⟩ : ∃ N, N = b.length := ⟨_, rfl⟩
    have happ := fun (W : World) (u2 : Value) (hb : Below w.heap.size w W) (h2 : Ints W w.heap.size u2 b) => out_app hO hb h2 hB (by simpa [dfsF] using hR)
    have hobw : ob < w.heap.size := (Array.getElem?_eq_some_iff.1 hO.box).1
    obtain ⟨A, C, hA⟩ := own_slice hu
    obtain ⟨A2, C2, hA2⟩ := own_slice hO.rr.outer
    rw [← hN] at hown hA hbn
    obtain rfl : n = N := by omega
    obtain ⟨L2, hL2⟩ : ∃ L2, L2 = vs.length := ⟨_, rfl⟩
    rw [← hL2] at hA2
    subst hA; subst hA2
    have HOWN := Lib.hid hown; have HAPP := Lib.hid happ; have HN := Lib.hid hN
    clear hu hO hown happ hm hmb hR hN hL2
    go_enter Try.func70, Try.ntmps70
    go_wp2_with fail
    go_region_law (first
      | (go_simp; go_at_call 87; refine (HOWN.out _ (below_drew _)).mono ?_; rintro e w1 ⟨q, c, rfl, hu1, hb1⟩; have hbw1 := (below_drew w).trans hb1; obtain ⟨v', w4, hr, hc4, hf4, ho4, hbl4, hk4⟩ := HAPP.out w1 _ hbw1 hu1; obtain ⟨A4, C4, rfl⟩ := own_slice ho4.rr.outer; rw [show (vs ++ [Value.slice q n c]).length = vs.length + 1 by simp] at hr ho4 hbl4 hk4; have hcell1 : w1.cell? ⟨ob, 0, none⟩ = some (Value.slice A2 L2 C2) := (hbw1.cell (p := ⟨ob, 0, none⟩) hobw).trans hcell; have hobw1 : ob < w1.heap.size := Nat.lt_of_lt_of_le hobw hbw1.size; have HO4 := Lib.hid ho4; have HBL4 := Lib.hid hbl4; have HK4 := Lib.hid hk4; have HRR := Lib.hid hr; clear hu1 hb1 hbw1 ho4 hbl4 hk4 hr)
      | (refine step_append_run rfl (.tmp 16) (.tmp 19) 37 rfl HRR.out rfl rfl ?_))
    all_goals
      go_wp2_with fail
      refine bodyPost_ret (v := .tuple #[]) ?_ rfl ?_
      · simp [results, Try.results70, go_sem]
      · exact ⟨rfl, _, _, HO4.out, HBL4.out, HK4.out⟩
  | succ r ih =>
    intro w B B' ob n u b v vs R m hu hO hbn hn7 hm hmb hR hB
    have hown := fun (W : World) (hb : Ints W B' u b) => l1Own_any W B' u b hb (by omega)
    have hel : (exts b).length = m + 1 := by rw [exts_len, hm]; simp
    have hdfs : dfsF (r + 1) b = (exts b).flatMap (dfsF r) := rfl
    obtain ⟨A, C, hA⟩ := own_slice hu
    obtain ⟨L, hL⟩ : ∃ L, L = b.length := ⟨_, rfl⟩
    have hLn : ((L : Int) == (n : Int)) = false := by simp; omega
    have hob := hO.le
    rw [← hL] at hA
    have HU := Lib.hid hu; have HO := Lib.hid hO; have HOWN := Lib.hid hown; have HM := Lib.hid hm; have HL := Lib.hid hL; have HEL := Lib.hid hel; have HDF := Lib.hid hdfs; have HRL := Lib.hid hR; have HBN := Lib.hid hbn
    rw [← hL] at hmb hbn
    subst hA
    clear hu hO hown hm hL hel hdfs hR
    go_enter Try.func70, Try.ntmps70
    go_wp2_with fail
    go_loopw [8] (fun xv wr => ∃ (K i : Nat) (v' : Value) (vs' : List Value), Hid (K = i + 1) ∧ i ≤ m + 1 ∧ xv = .int .i64 K ∧ Hid (OutAt wr B ob v' vs' (R ++ ((exts b).take i).flatMap (dfsF r)) ∧ Below B w wr ∧ KeepInt w wr)) (fun xv _ => m + 3 - (intOf xv).toNat)
    case atStart => exact ⟨1, 0, v, vs, Lib.hid rfl, Nat.zero_le _, rfl, by simpa using HO.out, Below.refl _ _, keepInt_refl _⟩
    case round =>
      obtain ⟨K, i, v', vs', HK, hi, rfl, HX⟩ := hrel
      have hKi := HK.out
      by_cases hlt : K ≤ m + 1
      · have hle : (K : Int) ≤ (m : Int) + 1 := by omega
        have hie : i < (exts b).length := by rw [HEL.out]; omega
        have hat : (exts b)[i] = b ++ [(K : Int)] := by rw [exts_at hie, hKi]; simp
        have htk := flat_take (dfsF r) (exts b) i hie
        have hle2 := flat_take_le (dfsF r) (exts b) (i + 1)
        rw [hat] at htk
        rw [htk, ← HDF.out, List.length_append] at hle2
        have hui : Ints wr B' (.slice A L C) b := HX.out.2.2.ints HU.out
        have hcall := HOWN.out wr hui
        rw [← HL.out] at hcall
        obtain ⟨m', hm'⟩ : ∃ m' : Nat, m' = if m > K then m else K := ⟨_, rfl⟩
        have hmost := fun W => l1Most_any W (m : Int) (K : Int)
        rw [show (if (m : Int) > (K : Int) then (m : Int) else (K : Int)) = (m' : Int) by rw [hm']; split <;> split <;> omega] at hmost
        have hmx : mxL (b ++ [(K : Int)]) = (m' : Int) := by rw [mxL_snoc, HM.out, hm']; split <;> split <;> omega
        have hm'b : m' ≤ (b ++ [(K : Int)]).length := by
          have := HL.out
          rw [hm', List.length_append, List.length_singleton]; split <;> omega
        have hrec := fun (W : World) (u2 : Value) (hu2 : Ints W wr.heap.size u2 (b ++ [(K : Int)])) (hO2 : OutAt W B ob v' vs' (R ++ ((exts b).take i).flatMap (dfsF r))) (hBW : B ≤ W.heap.size) =>
          ih W B wr.heap.size ob n u2 (b ++ [(K : Int)]) v' vs' _ m' hu2 hO2 (by have := HBN.out; simp; omega) hn7 hmx hm'b (by have := HRL.out; rw [List.length_append]; omega) hBW
        rw [List.append_assoc, ← htk] at hrec
        have hBw : B ≤ wr.heap.size := Nat.le_trans hB HX.out.2.1.size
        have HC := Lib.hid hcall; have HMO := Lib.hid hmost; have HREC := Lib.hid hrec
        clear hat htk hle2 hcall hm' hmost hmx hm'b hrec hKi hie
        go_wp2_with fail
        refine HC.out.mono ?_
        rintro e w2 ⟨q, c, rfl, ho2, hb2⟩
        have HO2 := Lib.hid ho2; have HB2 := Lib.hid hb2; clear ho2 hb2
        go_wp2_with (at_builtin; refine wpI_app w2 rfl _ _ rfl wr (K : Int) HO2.out rfl rfl HB2.out (by have := HL.out; omega) ?_; intro v4 w4 ho4 hb4 hk4 hs4 hw4; have HO4 := Lib.hid ho4; have HB4 := Lib.hid hb4; clear ho4 hb4 hk4 hs4 hw4)
        refine (HMO.out w4).mono ?_
        rintro e w5 ⟨rfl, rfl⟩
        go_wp2_with fail
        refine (HREC.out w4 v4 HO4.out (HX.out.1.below HB4.out) (Nat.le_trans hBw HB4.out.size)).mono ?_
        rintro e w6 ⟨rfl, v6, vs6, ho6, hb6, hk6⟩
        have HO6 := Lib.hid ho6; have HB6 := Lib.hid (HX.out.2.1.trans ((HB4.out.mono hBw).trans hb6)); have HK6 := Lib.hid ((HX.out.2.2.trans (keepInt_below HB4.out)).trans hk6)
        clear ho6 hb6 hk6
        go_wp2_with fail
        go_roundw
        case rel => exact ⟨K + 1, i + 1, v6, vs6, Lib.hid (by rw [HK.out]), by have := HK.out; omega, by go_num, HO6.out, HB6.out, HK6.out⟩
        case measure => simp [intOf] <;> omega
      · have hfin : (exts b).take i = exts b := List.take_of_length_le (by rw [HEL.out]; omega)
        have hle : ¬ (K : Int) ≤ (m : Int) + 1 := by omega
        have HF := Lib.hid hfin
        clear hfin hKi
        go_wp2_with fail
        go_end0
        refine ⟨rfl, ⟨v', vs', ?_⟩, HX.out.2.1, HX.out.2.2⟩
        have := HX.out.1
        rw [HF.out] at this
        exact this
end Go.Proofs.Ytpglkgpaaflikaa
