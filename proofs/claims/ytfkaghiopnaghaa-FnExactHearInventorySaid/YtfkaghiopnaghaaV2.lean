/- Words of which a word is the inventory: the model's taHeard, the program's wordsBehind. -/
import Derived.Test.YtfkaghiopnaghaaV1
import Derived.Test.YtfkaghiopnaghaaT10
import Derived.Deep.RegionHeldLaw
namespace Go.Proofs.Ytfkaghiopnaghaa
open Go.RowKit Go.BigFrame
set_option linter.unusedSimpArgs false
set_option linter.unusedVariables false
set_option maxRecDepth 4000

theorem step_appV {P : Program} {w : World} {ops : Array Oper} {o : Oper} {a : Act} {K : Act → World → Prop} {Q : Exit → Act → World → Prop} {E : Prop} (hgd : o.guard = none) (s x : Operand) (t : TypeId)
    (ho : o.op = .call { callee := .builtin .append, args := #[s, x], argTypes := #[t, t] })
    (base : Nat) (e : TypeId) (i : TypeInfo) (z : Value) (bytes : Nat) (ht : P.underlying t = some (.slice e)) (hi : P.info? e = some i) (hz : i.zero = some z)
    (hsize : i.size = 1) (hby : i.bytes = bytes) (hzs : z.cells.size = 1)
    (v : Value) (n : Nat) (xs : List Value) (hs : a.eval s = v) (hown : w.ownsRow base e 1 v n xs)
    (ad : Addr) (m c : Nat) (news : List Value) (hx : a.eval x = .slice (some ad) m c) (hl : news.length = m) (hnews : ∀ j u, news[j]? = some u → w.cell? (ad.add j) = some u) (h1 : ∀ u ∈ news, u.oneCell' = true)
    (h63 : n + m ≤ maxLen) (hbytes : (n + m) * bytes ≤ 140737488355328) (hbase : base ≤ w.heap.size)
    (h : ∀ v' w', w'.ownsRow base e 1 v' (n + m) (xs ++ news) → w.grownBy w' v.ownBlock → (v'.ownBlock = v.ownBlock ∨ v'.ownBlock = some w.heap.size) → K (a.put o.dst v') w') :
    if Region.wanted o (yielded ops a.tmps) = true then Oper.wp P o a w K Q else E := by
  have hwt : Region.wanted o (yielded ops a.tmps) = true := by simp [Region.wanted, hgd]
  rw [if_pos hwt]
  obtain ⟨v', w', hr, h2, h3, h4⟩ := run_append_own (P := P) w base t o.type e i z 1 bytes ht hi hz hsize hby hzs (by decide) v n xs hown ad m c news (by omega) hnews h1 h63 hbytes hbase
  have hw := append_where w base t o.type e i z bytes ht hi hz hsize hby hzs v n xs hown ad m c news hl hnews h1 h63 hbytes v' w' hr
  unfold Oper.wp execOp
  simp only [ho, resolve, invoke, builtin, Sem.run_bind, Sem.run_pure, Result.andThen_ok, List.map_toArray, List.map_cons, List.map_nil, hs, hx, hr]
  exact h v' w' h2 h3 hw


set_option maxHeartbeats 4000000 in
theorem taHeard_loop (rec : List Nat → List UInt8 → List (List UInt8)) (ts : List Nat) (b : List UInt8) (w : World) (B : Nat) (v : Value) (h9 : ts.length = 9) (hle : ∀ n ∈ ts, n ≤ 9) (hb : b.length ≤ 20)
    (ha : IntsA w B v (ti ts)) (hlen : ∀ i m, ts[i]? = some (m + 1) → 0 < (rec (ts.set i m) (b ++ numL (i + 1))).length ∧ (rec (ts.set i m) (b ++ numL (i + 1))).length ≤ 5000000)
    (hrec : ∀ i m, i < 9 → ts[i]? = some (m + 1) → ∀ W B' u, IntsA W B' u (ti (ts.set i m)) → Calls Try.prog 55 #[u, .string (bs (b ++ numL (i + 1)))] W fun e w' => TextsOk (rec (ts.set i m) (b ++ numL (i + 1))) W w' e) :
    Calls Try.prog 55 #[v, .string (bs b)] w fun e w' => TextsOk (if ts.all (fun n => decide (n = 0)) = true then [b] else heardK rec ts b 9) w w' e := by
  obtain ⟨i0, hi, hz0, hz1, hz2⟩ := info_parts info_str
  have hown := fun W (hbW : Below w.heap.size w W) => l1OwnV_any W B v (ti ts) (intsA_below ha hbW) (by rw [ti_len]; omega) (by rw [ti_len]; omega)
  obtain ⟨g, cap, rfl, hc1, hc2, _, hg, hce⟩ := intsA_atV ha (by rw [ti_len]; omega)
  rw [ti_len, h9] at hown hc1
  rw [ti_len, h9]
  have hbsz : (bs b).size ≤ 20 := by rw [bs_size]; exact hb
  obtain ⟨R, hR⟩ : ∃ R, R = (if ts.all (fun n => decide (n = 0)) = true then [b] else heardK rec ts b 9) := ⟨_, rfl⟩
  rw [← hR]
  obtain ⟨M, hM⟩ : ∃ M : Nat, M = 5000000 := ⟨_, rfl⟩
  rw [← hM] at hlen
  have HM5 := Lib.hid hM; clear hM
  have HC := Lib.hid hce; have HL := Lib.hid hle; have HLEN := Lib.hid hlen; have HREC := Lib.hid hrec; have HOW := Lib.hid hown; have HR := Lib.hid hR
  clear ha hce hle hlen hrec hown hR
  go_enter Try.func55, Try.ntmps55
  go_wp2_with fail
  go_loopw [5, 6, 12] (fun o f iv wr => ∃ (k n : Nat) (q : Option Addr) (d : Nat) (y : Bool), k ≤ 9 ∧ iv = .int .i64 (k : Int) ∧ f = .bool y ∧ o = .slice q n d ∧ n ≤ k * M ∧ Hid (n = (heardK rec ts b k).length ∧ (y = !(ts.take k).all (fun n => decide (n = 0))) ∧ wr.ownsRow w.heap.size 9 1 (.slice q n d) n (strVs (heardK rec ts b k)) ∧ Below w.heap.size w wr)) (fun _ _ iv _ => 9 - (intOf iv).toNat)
  case atStart => exact ⟨0, 0, _, _, false, by omega, rfl, rfl, rfl, Nat.zero_le _, rfl, rfl, World.ownsRow_nil _ _ _ _, below_refl _⟩
  case round =>
    obtain ⟨k, n, q, d, y, hk, rfl, rfl, rfl, hn, HX⟩ := hrel
    have hnb : n ≤ 45000000 := by
      have h1 := Nat.mul_le_mul_right M hk
      have h2 := HM5.out
      omega
    have HN := Lib.hid hn; clear hn
    by_cases hlt : k < 9
    · obtain ⟨m, hm⟩ : ∃ m, ts[k]? = some m := ⟨_, List.getElem?_eq_getElem (by omega)⟩
      have hm9 : m ≤ 9 := HL.out m (List.mem_of_getElem? hm)
      have h1 : wr.cell? ⟨g, k, none⟩ = some (.int .i64 (m : Int)) := by
        rw [HX.out.2.2.2.cell (p := ⟨g, k, none⟩) hg, HC.out k (by rw [ti_len]; omega)]
        obtain ⟨hkl, e⟩ := List.getElem?_eq_some_iff.1 hm
        simp [ti, e]
      have hsu := heardK_succ rec ts b k m hm
      have htk : ts.take (k + 1) = ts.take k ++ [m] := by
        obtain ⟨hkl, e⟩ := List.getElem?_eq_some_iff.1 hm
        rw [List.take_succ_eq_append_getElem hkl, e]
      have HSU := Lib.hid hsu; have HTK := Lib.hid htk
      clear hsu htk
      by_cases h0 : m = 0
      · subst h0
        have e0 : heardK rec ts b (k + 1) = heardK rec ts b k := by rw [HSU.out]; simp
        have E0 := Lib.hid e0; clear e0 hm
        go_wp2_with fail
        go_roundw
        case rel =>
          refine ⟨k + 1, n, q, d, y, by omega, by go_num, rfl, rfl, by rw [Nat.succ_mul]; exact Nat.le_trans HN.out (Nat.le_add_right _ _), by rw [E0.out]; exact HX.out.1, ?_, by rw [E0.out]; exact HX.out.2.2.1, HX.out.2.2.2⟩
          rw [HTK.out, HX.out.2.1, List.all_append]; simp
        case measure => simp [intOf] <;> omega
      · obtain ⟨m', rfl⟩ : ∃ m', m = m' + 1 := ⟨m - 1, by omega⟩
        have e0 : heardK rec ts b (k + 1) = heardK rec ts b k ++ rec (ts.set k m') (b ++ numL (k + 1)) := by rw [HSU.out, if_neg (by omega), Nat.add_sub_cancel]
        obtain ⟨hl1, hl2⟩ := HLEN.out k m' hm
        have hrc := HREC.out k m' hlt hm
        obtain ⟨rs, hrs⟩ : ∃ rs, rs = rec (ts.set k m') (b ++ numL (k + 1)) := ⟨_, rfl⟩
        rw [← hrs] at hl1 hl2 hrc e0
        have hn2 := fun (W : World) => l1Num_any (k + 1) ((k : Int) + 1) W (by omega) (by omega) (by omega)
        rw [show ((k : Int) + 1).toNat = k + 1 from by omega] at hn2
        have hs2 : (bs (numL (k + 1))).size = 1 := by rw [bs_size, numL_small (k + 1) (by omega)]; rfl
        have hset : (ti ts).set k ((m' : Nat) : Int) = ti (ts.set k m') := by simp [ti, List.map_set]
        have hgetk : (ti ts)[k]? = some (((m' + 1 : Nat)) : Int) := by simp [ti, hm]
        have HL2 := Lib.hid hl2
        have hrb : rs.length ≤ 5000000 := by have := HM5.out; omega
        clear hl2
        have E0 := Lib.hid e0; have HRC := Lib.hid hrc; have HN2 := Lib.hid hn2; have HSET := Lib.hid hset; have HGK := Lib.hid hgetk; have HMM := Lib.hid hm; have HRS := Lib.hid hrs
        clear e0 hrc hn2 hset hgetk hm hrs
        go_wp2_with fail
        refine (HOW.out wr HX.out.2.2.2).mono ?_
        rintro e w2 ⟨g2, c2, rfl, ho2, hb2⟩
        obtain ⟨g3, c3, e3, hcc, _, hB3, hg3, hce2⟩ := intsA_atV ho2 (by rw [ti_len]; omega)
        have hgg : g2 = g3 ∧ c2 = c3 := by simp only [Value.slice.injEq, Option.some.injEq, Addr.mk.injEq] at e3; exact ⟨e3.1.1, e3.2.2⟩
        obtain ⟨rfl, rfl⟩ := hgg
        have h3 : w2.cell? ⟨g2, k, none⟩ = some (.int .i64 ((m' : Int) + 1)) := by
          obtain ⟨hkl, e⟩ := List.getElem?_eq_some_iff.1 HGK.out
          rw [hce2 k hkl, e]; congr 2
        have hfz : w2.frozen? ⟨g2, k, none⟩ = false := by
          rcases ho2 with ⟨e, _⟩ | ⟨gq, cq, Eq, rq, e, _, hrow, _⟩
          · cases e
          · have : g2 = gq := by simp only [Value.slice.injEq, Option.some.injEq, Addr.mk.injEq] at e; exact e.1.1
            subst this
            exact frozen_of_row w2 g2 k _ _ hrow
        have hnew : IntsA (w2.setCell ⟨g2, k, none⟩ (.int .i64 (m' : Int))) wr.heap.size (.slice (some ⟨g2, 0, none⟩) 9 c2) (ti (ts.set k m')) := by
          rw [← HSET.out]
          rcases ho2 with ⟨e, _⟩ | ⟨gq, cq, Eq, rq, e, hBq, hrow, hcq, hcm⟩
          · cases e
          · rw [ti_len] at e
            simp only [Value.slice.injEq, Option.some.injEq, Addr.mk.injEq] at e
            obtain ⟨⟨rfl, _⟩, _, rfl⟩ := e
            refine .inr ⟨g2, c2, Eq, rq, by rw [List.length_set, ti_len, h9], hBq, ?_, by rw [List.length_set]; exact hcq, hcm⟩
            rw [heap_setCell_same w2 g2 k _ _ _ hrow, List.setIfInBounds_toArray]
            congr 3
            rw [List.set_append_left _ _ (by simp [ivs, ti_len]; omega)]
            congr 1
            simp [ivs, List.map_set]
        have HNEW := Lib.hid hnew; have HB2 := Lib.hid hb2; have HBs := Lib.hid (hb2.setCell (p := ⟨g2, k, none⟩) hB3 (.int .i64 (m' : Int)))
        clear ho2 hb2 hce2 hnew e3
        go_wp2_with fail
        refine (HN2.out _).mono ?_
        rintro e w3 ⟨rfl, hb3⟩
        have HN3 := Lib.hid (intsA_below HNEW.out hb3); have HB3 := Lib.hid hb3; clear hb3
        go_wp2_with fail
        rw [bs_append]
        refine (HRC.out w3 _ _ HN3.out).mono ?_
        rintro e w4 ⟨g4, c4, rfl, ho4, hb4⟩
        have HBL : Hid (Below w.heap.size w w4) := by
          have h1 := HX.out.2.2.2.trans (HBs.out.mono HX.out.2.2.2.size)
          exact below_trans h1 (below_trans HB3.out hb4)
        have HO4 := Lib.hid ho4
        have HOX : Hid (w4.ownsRow w.heap.size 9 1 (.slice q n d) n (strVs (heardK rec ts b k))) := own_below HX.out.2.2.1 (HBs.out.trans ((below_trans HB3.out hb4).mono HBs.out.size))
        have HS4 := Lib.hid (strs_news ho4 rfl)
        clear ho4 hb4
        go_wp2_with (at_builtin; refine wpList_app _ rfl _ _ 32 rfl w.heap.size 9 i0 (.string ⟨#[]⟩) 16 Try.underlying32 hi hz0 hz1 hz2 rfl _ n _ rfl HOX.out ⟨g4, 0, none⟩ rs.length c4 (strVs rs) rfl (by simp [strVs]) HS4.out (strs_one rs) ?c3 ?c4 ?c5 ?_)
        case c3 => unfold maxLen; omega
        case c4 => omega
        case c5 => exact HBL.out.size
        intro v' w5 hown' hgrow _
        obtain ⟨av', cv', rfl⟩ := own_slice hown'
        have R1 := Lib.hid hown'
        have R2 := Lib.hid (HBL.out.grown hgrow HBL.out.size (fun z hz => (HOX.out.lt z hz).1))
        clear hown' hgrow
        go_wp2_with fail
        go_roundw
        case rel =>
          refine ⟨k + 1, n + rs.length, _, _, true, by omega, by go_num, rfl, rfl, by rw [Nat.succ_mul]; exact Nat.add_le_add HN.out HL2.out, ?_, ?_, ?_, R2.out⟩
          · rw [E0.out, List.length_append, ← HX.out.1]
          · rw [HTK.out, List.all_append]; simp
          · rw [E0.out]
            have := R1.out
            simpa [strVs] using this
        case measure => simp [intOf] <;> omega
    · obtain rfl : k = 9 := by omega
      have htk : ts.take 9 = ts := List.take_of_length_le (by omega)
      have hy := HX.out.2.1
      rw [htk] at hy
      cases hall : ts.all (fun n => decide (n = 0)) with
      | true =>
        rw [hall] at hy
        have hRR : R = [b] := by rw [HR.out, hall]; rfl
        have HRR := Lib.hid hRR; clear hall hRR htk
        simp only [Bool.not_true] at hy
        subst hy
        go_wp2_with fail
        go_ret
        rw [HRR.out]
        refine ⟨wr.heap.size, 1, rfl, ?_, below_trans HX.out.2.2.2 (below_alloc _ _)⟩
        have := own_lit wr w.heap.size 9 [.string (bs b)] HX.out.2.2.2.size (by simp [maxLen])
        exact this
      | false =>
        rw [hall] at hy
        have hRR : R = heardK rec ts b 9 := by rw [HR.out, hall]; rfl
        simp only [Bool.not_false] at hy
        subst hy
        have hpos : 0 < (heardK rec ts b 9).length := by
          have : ∃ i m, i < 9 ∧ ts[i]? = some (m + 1) := by
            have : ∃ x ∈ ts, ¬ x = 0 := by simpa using hall
            obtain ⟨x, hx, hx0⟩ := this
            obtain ⟨i, hi⟩ := List.mem_iff_getElem?.1 hx
            exact ⟨i, x - 1, by have := get_lt hi; omega, by rw [hi]; congr 1; omega⟩
          obtain ⟨i, m, hi9, hi⟩ := this
          exact heardK_pos rec ts b (fun i m h => (HLEN.out i m h).1) i m hi 9 hi9
        rcases own_open HX.out.2.2.1 with ⟨_, h0, _⟩ | ⟨gq, cq, e, _⟩
        · have := HX.out.1; omega
        simp only [Value.slice.injEq] at e
        obtain ⟨rfl, _, rfl⟩ := e
        have HRR := Lib.hid hRR; clear hall hRR htk hpos
        go_wp2_with fail
        go_ret
        rw [HRR.out]
        refine ⟨gq, d, by rw [← HX.out.1]; rfl, ?_, HX.out.2.2.2⟩
        rw [← HX.out.1]
        exact HX.out.2.2.1
end Go.Proofs.Ytfkaghiopnaghaa
