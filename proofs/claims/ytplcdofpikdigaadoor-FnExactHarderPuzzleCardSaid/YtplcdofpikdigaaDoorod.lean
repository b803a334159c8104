/- Chapter 9: the model's search (the walk): pzLook, pzAll, pzAsked. -/
import Derived.Test.YtplcdofpikdigaaDooroc
import Derived.Test.YtplcdofpikdigaaDoorob
namespace Go.Proofs.YtplcdofpikdigaaDoor
open Go.RowKit Go.BigFrame
set_option linter.unusedSimpArgs false
set_option linter.unusedVariables false
set_option maxRecDepth 4000
attribute [local irreducible] wpStill wpAny

/-- Texts behind an address. -/
structure TxtAt (w : World) (B bx : Nat) (v : Value) (acc : List (List UInt8)) : Prop where
  box : OneAt w bx v 25
  own : w.ownsRow B 9 1 v acc.length (strA acc)
  far : ∀ q, v.ownBlock = some q → q ≠ bx
/-- Nothing that lay is changed but the box and its row's block. -/
structure KeptL (bx : Nat) (q : Option Nat) (w w' : World) : Prop where
  os : w'.os = w.os
  tape : w'.tape = w.tape
  output : w'.output = w.output
  size : w.heap.size ≤ w'.heap.size
  block : ∀ k, k < w.heap.size → k ≠ bx → q ≠ some k → w'.heap[k]? = w.heap[k]?
theorem keptL_below {bx : Nat} {q : Option Nat} {w w' : World} (h : Below w.heap.size w w') : KeptL bx q w w' := ⟨h.os, h.tape, h.output, h.size, fun k hk _ _ => h.block k hk⟩
/-- Where the row lies behind the call. -/
def Moved (w : World) (v v' : Value) : Prop := v'.ownBlock = v.ownBlock ∨ ∃ q, v'.ownBlock = some q ∧ w.heap.size ≤ q
theorem keptL_t {bx : Nat} {v1 v2 : Value} {a b c : World} (h : KeptL bx v1.ownBlock a b) (k : KeptL bx v2.ownBlock b c) (hm : Moved a v1 v2) : KeptL bx v1.ownBlock a c :=
  ⟨k.os.trans h.os, k.tape.trans h.tape, k.output.trans h.output, Nat.le_trans h.size k.size, fun q hq h1 h2 => (k.block q (Nat.lt_of_lt_of_le hq h.size) h1 (fun e => by
    rcases hm with hm | ⟨q2, e2, h3⟩
    · rw [hm] at e; exact h2 e
    · rw [e2] at e; cases e; omega)).trans (h.block q hq h1 h2)⟩
theorem moved_t {a b : World} {v1 v2 v3 : Value} (h : Moved a v1 v2) (k : Moved b v2 v3) (hs : a.heap.size ≤ b.heap.size) : Moved a v1 v3 := by
  rcases k with k | ⟨q, e, hq⟩
  · unfold Moved; rw [k]; exact h
  · exact .inr ⟨q, e, Nat.le_trans hs hq⟩

theorem TxtAt.below {w w' : World} {B bx : Nat} {v : Value} {acc : List (List UInt8)} (h : TxtAt w B bx v acc) (hb : Below w.heap.size w w') : TxtAt w' B bx v acc := ⟨h.box.below hb, own_below h.own hb, h.far⟩

set_option maxHeartbeats 4000000 in
theorem pzLook_any (D : Nat) (W S : List UInt8) (hD : 1 ≤ D) (hD4 : D ≤ 4) (h1 : 1 ≤ W.length) (h8 : W.length ≤ 8) (hS : S.length ≤ 16) (hsg : W.all (sgB (D : Int)) = true) (B bx : Nat) :
    ∀ (m : Nat) (pre : List UInt8) (acc : List (List UInt8)) (v : Value) (w : World), pre.length + m = W.length → pre.all digB = true → acc.length ≤ 201 → TxtAt w B bx v acc → B ≤ w.heap.size →
    Calls Tryd.prog 63 #[pzV W S (D : Int), .string (bs pre), .pointer (some ⟨bx, 0, none⟩)] w fun e w' =>
      e = .returned (.tuple #[]) ∧ ∃ v', TxtAt w' B bx v' (keepL acc (begL D W S pre)) ∧ KeptL bx v.ownBlock w w' ∧ Moved w v v' := by
  intro m
  induction m with
  | zero =>
    intro pre acc v w hm hd hacc hT hB
    obtain ⟨u, hu⟩ : ∃ u, u = bs W := ⟨_, rfl⟩
    obtain ⟨sv, hsv⟩ : ∃ sv, sv = bs S := ⟨_, rfl⟩
    obtain ⟨t, ht⟩ : ∃ t, t = bs pre := ⟨_, rfl⟩
    have htn : t.size = W.length := by rw [ht, bs_size]; omega
    have hun : u.size = W.length := by rw [hu, bs_size]
    obtain ⟨N, hN⟩ : ∃ N, N = acc.length := ⟨_, rfl⟩
    have hc0 := hT.box.cell
    have his := fun (W0 : World) => pzIs_any pre W S (D : Int) W0 (by omega) (by omega) (by unfold maxLen; omega) (by unfold maxLen; omega) hd
    unfold pzV at his ⊢
    rw [← ht, ← hu, ← hsv] at his ⊢
    have hvs : ∃ a c, v = .slice a N c := by
      rcases own_open hT.own with ⟨h, h2, _⟩ | ⟨g, c, h, _⟩
      · exact ⟨none, 0, by rw [h, hN, h2]⟩
      · exact ⟨_, _, by rw [h, hN]⟩
    obtain ⟨a, c, rfl⟩ := hvs
    have hlt := hT.box.lt
    have hTb : ∀ W0, Below w.heap.size w W0 → TxtAt W0 B bx (.slice a N c) acc := fun W0 h => hT.below h
    have hbe := begL_end D W S pre (by omega)
    have HTB := Lib.hid hTb; have HT := Lib.hid ht; have HN := Lib.hid hN; have HTT := Lib.hid hT; have HIS := Lib.hid his; have HBE := Lib.hid hbe
    clear hTb ht hu hsv hN hT hd hsg his hbe
    by_cases hfull : 200 < N
    · have hf1 : (200 : Int) < (N : Int) := by omega
      go_enter Tryd.func63, Tryd.ntmps63
      go_wp2_with fail
      refine bodyPost_ret (results_none rfl _ _ _) rfl ?_
      refine ⟨rfl, .slice a N c, ?_, keptL_below (below_alloc _ _), .inl rfl⟩
      rw [keepL_full (by rw [← HN.out]; exact hfull)]
      exact HTB.out _ (below_alloc _ _)
    · have hf1 : ¬ ((200 : Int) < (N : Int)) := by omega
      obtain ⟨i0, hi, hz0, hz1, hz2⟩ := info_parts info_strA
      go_enter Tryd.func63, Tryd.ntmps63
      go_wp2_with fail
      refine (HIS.out _).mono ?_
      rintro e w1 ⟨rfl, hb⟩
      have HB1 := Lib.hid (below_trans (below_alloc _ _) hb)
      have hT1 := HTB.out w1 HB1.out
      have hc1 := hT1.box.cell; have hf1 := hT1.box.frozen
      have HT1 := Lib.hid hT1
      have hlt1 := hT1.box.lt
      obtain ⟨b, hb'⟩ : ∃ b, b = solB W S (D : Int) pre := ⟨_, rfl⟩
      rw [← hb'] at HBE ⊢
      clear hb hb' hT1
      cases b with
      | false =>
        go_wp2_with fail
        refine bodyPost_ret (results_none rfl _ _ _) rfl ?_
        refine ⟨rfl, .slice a N c, ?_, keptL_below HB1.out, .inl rfl⟩
        rw [HBE.out, if_neg (by simp), keepL_nil]
        exact HT1.out
      | true =>
        go_wp2_with (at_builtin; refine wpList_app _ rfl _ _ 25 rfl B 9 i0 (.string ⟨#[]⟩) 16 Tryd.underlying25 hi hz0 hz1 hz2 rfl _ N _ rfl ((HN.out ▸ HT1.out.own : w1.ownsRow B 9 1 (.slice a N c) N (strA acc)).alloc _) ⟨w1.heap.size, 0, none⟩ 1 1 [.string t] rfl rfl ?c1 ?c2 ?c3 ?c4 ?c5 ?_)
        case c1 =>
          intro j x hj
          have hj0 : j = 0 := by have := (List.getElem?_eq_some_iff.1 hj).1; simpa using this
          subst hj0
          have hadd : (⟨w1.heap.size, 0, none⟩ : Addr).add 0 = ⟨w1.heap.size, 0, none⟩ := by unfold Addr.add; split <;> simp_all
          rw [hadd]
          simp only [List.getElem?_cons_zero, Option.some.injEq] at hj
          rw [← hj]
          exact (oneAt_new w1 (.string t) 9).cell
        case c2 =>
          intro x hx
          rw [List.mem_singleton] at hx
          rw [hx]; rfl
        case c3 => unfold maxLen; omega
        case c4 => omega
        case c5 => have := HB1.out.size; simp; omega
        intro v' w5 hown' hgrow hblk
        have hfar := HT1.out.far
        have hk5 : ∀ q, q < w1.heap.size → (Value.slice a N c).ownBlock ≠ some q → w5.heap[q]? = w1.heap[q]? := fun q h1 h2 => by
          rw [hgrow.block q (by simp; omega) (fun e => h2 e.symm)]
          exact (below_alloc w1 _).block q h1
        have hbx5 : OneAt w5 bx (.slice a N c) 25 := (hk5 bx hlt1 (fun e => hfar bx e rfl)).trans HT1.out.box
        have hf5 := hbx5.frozen; have hc5 := hbx5.cell
        have hfar5 : ∀ q, v'.ownBlock = some q → q ≠ bx := fun q e => by
          rcases hblk with h | h
          · rw [h] at e; exact hfar q e
          · rw [h] at e; simp at e; omega
        have hown5 : w5.ownsRow B 9 1 v' (acc ++ [pre]).length (strA (acc ++ [pre])) := by
          have e1 : strA (acc ++ [pre]) = strA acc ++ [.string t] := by rw [HT.out]; simp [strA]
          have e2 : (acc ++ [pre]).length = N + 1 := by rw [HN.out]; simp
          rw [e1, e2]; exact hown'
        obtain ⟨a5, c5, hv5⟩ : ∃ a5 c5, v' = .slice a5 (N + 1) c5 := by
          rcases own_open hown' with ⟨_, h, _⟩ | ⟨g5, c5, h, _⟩
          · omega
          · exact ⟨_, _, h⟩
        subst hv5
        have HK5 := Lib.hid hk5; have HBX5 := Lib.hid hbx5; have HF5 := Lib.hid hfar5; have HO5 := Lib.hid hown5; have HBL := Lib.hid hblk
        have HSZ : Hid (w1.heap.size ≤ w5.heap.size) := Lib.hid (by have := hgrow.size; simp at this; omega)
        have HOS : Hid (w5.os = w1.os ∧ w5.tape = w1.tape ∧ w5.output = w1.output) := Lib.hid ⟨hgrow.os, hgrow.tape, hgrow.output⟩
        clear hown' hgrow hblk hfar hk5 hbx5 hfar5 hown5
        go_wp2_with fail
        refine bodyPost_ret (results_none rfl _ _ _) rfl ?_
        have hw1s := HB1.out.size
        refine ⟨rfl, .slice a5 (N + 1) c5, ?_, ⟨?_, ?_, ?_, ?_, ?_⟩, ?_⟩
        · rw [HBE.out, if_pos trivial]
          have hk : keepL acc [pre] = acc ++ [pre] := by
            unfold keepL
            rw [List.take_of_length_le (by have := HN.out; simp; omega)]
          rw [hk]
          refine ⟨HBX5.out.set _, ?_, HF5.out⟩
          exact own_keepB HO5.out (fun q e => Below.heap_setCell _ _ _ _ (HF5.out q e))
        · exact HOS.out.1.trans HB1.out.os
        · exact HOS.out.2.1.trans HB1.out.tape
        · exact HOS.out.2.2.trans HB1.out.output
        · have := HSZ.out; simp [World.setCell]; omega
        · intro k hk h1 h2
          rw [Below.heap_setCell _ _ _ _ h1, HK5.out k (by omega) h2]
          exact HB1.out.block k hk
        · rcases HBL.out with h | h
          · exact .inl h
          · exact .inr ⟨_, h, by first | omega | (rw [World.size_alloc]; omega) | (simp; omega)⟩
  | succ m ih =>
    intro pre acc v w hm hd hacc hT hB
    obtain ⟨u, hu⟩ : ∃ u, u = bs W := ⟨_, rfl⟩
    obtain ⟨sv, hsv⟩ : ∃ sv, sv = bs S := ⟨_, rfl⟩
    obtain ⟨t, ht⟩ : ∃ t, t = bs pre := ⟨_, rfl⟩
    have htn : t.size = pre.length := by rw [ht, bs_size]
    have hun : u.size = W.length := by rw [hu, bs_size]
    obtain ⟨N, hN⟩ : ∃ N, N = acc.length := ⟨_, rfl⟩
    have hc0 := hT.box.cell
    unfold pzV
    rw [← ht, ← hu, ← hsv]
    have hvs : ∃ a c, v = .slice a N c := by
      rcases own_open hT.own with ⟨h, h2, _⟩ | ⟨g, c, h, _⟩
      · exact ⟨none, 0, by rw [h, hN, h2]⟩
      · exact ⟨_, _, by rw [h, hN]⟩
    obtain ⟨a, c, rfl⟩ := hvs
    have hlt := hT.box.lt
    have hTb : ∀ W0, Below w.heap.size w W0 → TxtAt W0 B bx (.slice a N c) acc := fun W0 h => ⟨hT.box.below h, own_below hT.own h, hT.far⟩
    have HTB := Lib.hid hTb; have HT := Lib.hid ht; have HU := Lib.hid hu; have HSV := Lib.hid hsv; have HN := Lib.hid hN; have HTT := Lib.hid hT; have HD := Lib.hid hd
    have HSG := Lib.hid hsg
    clear hTb ht hu hsv hN hT hd hsg
    by_cases hfull : 200 < N
    · have hf1 : (200 : Int) < (N : Int) := by omega
      go_enter Tryd.func63, Tryd.ntmps63
      go_wp2_with fail
      refine bodyPost_ret (results_none rfl _ _ _) rfl ?_
      refine ⟨rfl, .slice a N c, ?_, keptL_below (below_alloc _ _), .inl rfl⟩
      rw [keepL_full (by rw [← HN.out]; exact hfull)]
      exact HTB.out _ (below_alloc _ _)
    · have hf1 : ¬ ((200 : Int) < (N : Int)) := by omega
      have hmz : ((pre.length : Int) == (W.length : Int)) = false := by simp; omega
      go_enter Tryd.func63, Tryd.ntmps63
      go_wp2_with fail
      obtain ⟨cc, hcc⟩ : ∃ cc, cc = W.getD pre.length 0 := ⟨_, rfl⟩
      have hpl : pre.length < W.length := by omega
      have hdrop : W.drop pre.length = cc :: W.drop (pre.length + 1) := by rw [List.drop_eq_getElem_cons hpl, hcc, getD_lt hpl]
      have hccs : sgB (D : Int) cc = true := by rw [hcc, getD_lt hpl]; exact List.all_eq_true.1 HSG.out _ (List.getElem_mem hpl)
      have HALL := Lib.hid (begT_all (D := D) (by omega) W S pre cc hpl hdrop hccs)
      have HSUC := Lib.hid (fun d => begT_succ D W S pre cc d hpl hdrop)
      have hul : pre.length < u.size := by rw [hun]; exact hpl
      have euc : u[pre.length] = cc := by
        have e : ∀ (t : ByteArray) (h2 : pre.length < t.size), t = bs W → t[pre.length] = W.getD pre.length 0 := fun t h2 e => by subst e; rw [getD_lt hpl]; rfl
        rw [e u hul HU.out, hcc]
      obtain ⟨W', hW'⟩ : ∃ W', W' = W.drop (pre.length + 1) := ⟨_, rfl⟩
      rw [← hW'] at HALL HSUC
      have hx0 := threeAt_new w (.string u) (.string sv) (.int .i64 (D : Int)) 28
      have HX0 := Lib.hid hx0
      have HBD := Lib.hid hB
      clear hcc hdrop hccs hW' hx0 hc0
      go_loopw [6] (fun iv wr => ∃ j : Nat, j ≤ D ∧ iv = .int .i64 ((j : Int) + 1) ∧ Hid (ThreeAt wr w.heap.size (.string u) (.string sv) (.int .i64 (D : Int)) 28 ∧ w.heap.size < wr.heap.size ∧ ∃ v', TxtAt wr B bx v' (keepL acc (begT D W S pre cc W' j)) ∧ KeptL bx (Value.slice a N c).ownBlock w wr ∧ Moved w (.slice a N c) v' ∧ ∀ q, v'.ownBlock = some q → q ≠ w.heap.size)) (fun iv _ => D + 1 - (intOf iv).toNat)
      case atStart =>
        refine ⟨0, Nat.zero_le _, rfl, HX0.out, by simp, .slice a N c, ?_, keptL_below (below_alloc _ _), .inl rfl, fun q e => by have := (HTT.out.own.lt q e).2; omega⟩
        rw [begT_zero, keepL_nil]
        exact HTB.out _ (below_alloc _ _)
      case round =>
        obtain ⟨j, hj, rfl, HX⟩ := hrel
        obtain ⟨c0, c1, c2, _, _, _⟩ := HX.out.1.cells
        by_cases hjd : j < D
        · obtain ⟨y, hy⟩ : ∃ y : UInt8, y = 49 + UInt8.ofNat j := ⟨_, rfl⟩
          have hyn : y.toNat = 49 + j := by rw [hy]; exact d49 (by omega)
          have hnum := fun (W0 : World) => l1Num_any 9 ((j : Int) + 1) W0 (by omega) (by omega) (by omega)
          have hjn : ((j : Int) + 1).toNat = j + 1 := by omega
          rw [hjn, numL_one (j + 1) (by omega)] at hnum
          have hye : UInt8.ofNat (48 + (j + 1)) = y := by
            apply UInt8.toNat_inj.1
            rw [hyn]
            simp; omega
          rw [hye] at hnum
          have HNUM := Lib.hid hnum
          have hle : (j : Int) + 1 ≤ (D : Int) := by omega
          have hns : (bs [y]).size = 1 := by rw [bs_size]; rfl
          have hadd : ¬ 9223372036854775807 < pre.length + 1 := by omega
          have hnx : t ++ bs [y] = bs (pre ++ [y]) := by rw [HT.out, bs_append]
          have hsc := HSUC.out j
          rw [← hy] at hsc
          have HSC := Lib.hid hsc; have HNX := Lib.hid hnx
          clear hnum hy hye hnx hsc
          obtain ⟨t2, ht2⟩ : ∃ t2, t2 = t ++ bs [y] := ⟨_, rfl⟩
          have hnx2 : t ++ bs [y] = t2 := ht2.symm
          have ht2n : t2.size = pre.length + 1 := by rw [ht2, ByteArray.size_append, htn, hns]
          have e2c : ∀ h : pre.length < t2.size, t2[pre.length] = y := fun h => by
            have e : t2 = bs (pre ++ [y]) := ht2.trans HNX.out
            subst e
            show (pre ++ [y])[pre.length]'(by simp) = y
            simp
          have h2l : pre.length < t2.size := by omega
          have e2 := e2c h2l
          rw [ht2.symm] at HNX
          obtain ⟨v', hT', hK', hM', hF'⟩ := HX.out.2.2
          have HTP := Lib.hid hT'; have HKP := Lib.hid hK'; have HMV := Lib.hid hM'; have HFR := Lib.hid hF'
          have h2z : (pre.length : Int) < (t2.size : Int) := by omega
          clear ht2 e2c hT' hK' hM' hF' ht2n
          go_wp2_with fail
          refine (HNUM.out _).mono ?_
          rintro e w3 ⟨rfl, hb3⟩
          have HB3 := Lib.hid hb3
          obtain ⟨d0, d1, d2, _, _, _⟩ := (HX.out.1.below hb3).cells
          clear hb3 c0 c1 c2
          have h46 : (46 : UInt8).toNat = 46 := rfl
          go_wp2_with fail
          by_cases hg46 : cc = 46
          · have hcb : ((cc.toNat : Int) == 46) = true := by rw [hg46]; rfl
            have HSK : Hid (begT D W S pre cc W' (j + 1) = begT D W S pre cc W' j ++ begL D W S (pre ++ [y])) := Lib.hid (by rw [HSC.out, if_pos (.inl hg46)])
            clear hg46
            refine wp_region_still_lit (by kernel_rfl) (by kernel_rfl) ?_
            repeat still_step
            refine wpStill_nil ?_
            change (Exit.then _ _) Exit.normal _ w3.drew
            have HB4 : Hid (Below wr.heap.size wr w3.drew) := Lib.hid HB3.out.drew
            obtain ⟨d0, d1, d2, _, _, _⟩ := (HX.out.1.below HB4.out).cells
            generalize w3.drew = w4 at *
            have hI := ih (pre ++ [y]) (keepL acc (begT D W S pre cc W' j)) v' w4 (by simp; omega) (by rw [List.all_append, HD.out]; simp [digB]; omega) (keepL_len (by rw [← HN.out]; omega)) (HTP.out.below HB4.out) (by have := HB4.out.size; have := HX.out.2.1; omega)
            unfold pzV at hI
            rw [← HU.out, ← HSV.out, ← HNX.out] at hI
            have HI := Lib.hid hI
            clear hI
            go_wp2_with fail
            refine HI.out.mono ?_
            rintro e w5 ⟨rfl, v2, hT2, hK2, hM2⟩
            have HT2 := Lib.hid hT2; have HK2 := Lib.hid hK2; have HM2 := Lib.hid hM2
            have hsz5 := hK2.size
            clear hT2 hK2 hM2
            go_wp2_with fail
            go_roundw
            case rel =>
              refine ⟨j + 1, by omega, by go_num, ?_, ?_, v2, ?_, ?_, ?_, ?_⟩
              · exact (HK2.out.block w.heap.size (by have := HB4.out.size; have := HX.out.2.1; omega) (by omega) (fun e => HFR.out _ e rfl)).trans (HX.out.1.below HB4.out)
              · have := HB4.out.size; have := HX.out.2.1; omega
              · rw [HSK.out, ← keepL_app]; exact HT2.out
              · exact keptL_t (v2 := v') (keptL_t (v2 := v') HKP.out (keptL_below HB4.out) HMV.out) HK2.out HMV.out
              · exact moved_t HMV.out HM2.out (by have := HKP.out.size; have := HB4.out.size; omega)
              · intro q e
                rcases HM2.out with h | ⟨q2, e2, h3⟩
                · rw [h] at e; exact HFR.out q e
                · rw [e2] at e; cases e; have := HB4.out.size; have := HX.out.2.1; omega
            case measure => simp [intOf] <;> omega

          · have hcb : ((cc.toNat : Int) == 46) = false := by
              simp only [beq_eq_false_iff_ne, ne_eq]
              intro h; exact hg46 (UInt8.toNat_inj.1 (by omega))
            by_cases hcy : cc = y
            · have hcb2 : ((cc.toNat : Int) == (y.toNat : Int)) = true := by rw [hcy]; simp
              have HSK : Hid (begT D W S pre cc W' (j + 1) = begT D W S pre cc W' j ++ begL D W S (pre ++ [y])) := Lib.hid (by rw [HSC.out, if_pos (.inr hcy)])
              clear hcy hg46
              refine wp_region_still_lit (by kernel_rfl) (by kernel_rfl) ?_
              repeat still_step
              refine wpStill_nil ?_
              change (Exit.then _ _) Exit.normal _ w3.drew
              have HB4 : Hid (Below wr.heap.size wr w3.drew) := Lib.hid HB3.out.drew
              obtain ⟨d0, d1, d2, _, _, _⟩ := (HX.out.1.below HB4.out).cells
              generalize w3.drew = w4 at *
              have hI := ih (pre ++ [y]) (keepL acc (begT D W S pre cc W' j)) v' w4 (by simp; omega) (by rw [List.all_append, HD.out]; simp [digB]; omega) (keepL_len (by rw [← HN.out]; omega)) (HTP.out.below HB4.out) (by have := HB4.out.size; have := HX.out.2.1; omega)
              unfold pzV at hI
              rw [← HU.out, ← HSV.out, ← HNX.out] at hI
              have HI := Lib.hid hI
              clear hI
              go_wp2_with fail
              refine HI.out.mono ?_
              rintro e w5 ⟨rfl, v2, hT2, hK2, hM2⟩
              have HT2 := Lib.hid hT2; have HK2 := Lib.hid hK2; have HM2 := Lib.hid hM2
              have hsz5 := hK2.size
              clear hT2 hK2 hM2
              go_wp2_with fail
              go_roundw
              case rel =>
                refine ⟨j + 1, by omega, by go_num, ?_, ?_, v2, ?_, ?_, ?_, ?_⟩
                · exact (HK2.out.block w.heap.size (by have := HB4.out.size; have := HX.out.2.1; omega) (by omega) (fun e => HFR.out _ e rfl)).trans (HX.out.1.below HB4.out)
                · have := HB4.out.size; have := HX.out.2.1; omega
                · rw [HSK.out, ← keepL_app]; exact HT2.out
                · exact keptL_t (v2 := v') (keptL_t (v2 := v') HKP.out (keptL_below HB4.out) HMV.out) HK2.out HMV.out
                · exact moved_t HMV.out HM2.out (by have := HKP.out.size; have := HB4.out.size; omega)
                · intro q e
                  rcases HM2.out with h | ⟨q2, e2, h3⟩
                  · rw [h] at e; exact HFR.out q e
                  · rw [e2] at e; cases e; have := HB4.out.size; have := HX.out.2.1; omega
              case measure => simp [intOf] <;> omega

            · have hcb2 : ((cc.toNat : Int) == (y.toNat : Int)) = false := by
                simp only [beq_eq_false_iff_ne, ne_eq]
                intro h; exact hcy (UInt8.toNat_inj.1 (by omega))
              have HSK : Hid (begT D W S pre cc W' (j + 1) = begT D W S pre cc W' j) := Lib.hid (by rw [HSC.out, if_neg (fun h => h.elim hg46 hcy), List.append_nil])
              clear hcy hg46
              refine wp_region_still_lit (by kernel_rfl) (by kernel_rfl) ?_
              repeat still_step
              refine wpStill_nil ?_
              change (Exit.then _ _) Exit.normal _ w3.drew
              have HB4 : Hid (Below wr.heap.size wr w3.drew) := Lib.hid HB3.out.drew
              obtain ⟨d0, d1, d2, _, _, _⟩ := (HX.out.1.below HB4.out).cells
              generalize w3.drew = w4 at *
              go_wp2_with fail
              go_roundw
              case rel => exact ⟨j + 1, by omega, by go_num, (HX.out.1.below HB4.out), Nat.lt_of_lt_of_le HX.out.2.1 HB4.out.size, v', by rw [HSK.out]; exact HTP.out.below HB4.out, (show KeptL bx (Value.slice a N c).ownBlock w w4 from keptL_t (v2 := v') HKP.out (keptL_below HB4.out) HMV.out), HMV.out, HFR.out⟩
              case measure => simp [intOf] <;> omega

        · have hjD : j = D := by omega
          subst hjD
          obtain ⟨v', hT', hK', hM', hF'⟩ := HX.out.2.2
          rw [HALL.out] at hT'
          have HTP := Lib.hid hT'; have HKP := Lib.hid hK'; have HMV := Lib.hid hM'
          clear hT' hK' hM' hF' HX
          have hle : ¬ ((j : Int) + 1 ≤ (j : Int)) := by omega
          go_wp2_with fail
          go_end0
          exact ⟨rfl, v', HTP.out, HKP.out, HMV.out⟩
end Go.Proofs.YtplcdofpikdigaaDoor
