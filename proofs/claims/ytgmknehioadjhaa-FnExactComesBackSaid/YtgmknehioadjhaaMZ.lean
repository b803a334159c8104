/- The program's leadsBack and ComesBack, and the law. -/
import Derived.Test.YtgmknehioadjhaaMY
namespace Go.Proofs.Ytgmknehioadjhaa
open Go.RowKit Go.BigFrame Go.Maps
set_option linter.unusedSimpArgs false
set_option linter.unusedVariables false
set_option maxRecDepth 4000

theorem step_appX {P : Program} {w : World} {ops : Array Oper} {o : Oper} {a : Act} {K : Act → World → Prop} {Q : Exit → Act → World → Prop} {E : Prop} (hgd : o.guard = none) (s x : Operand) (t : TypeId)
    (ho : o.op = .call { callee := .builtin .append, args := #[s, x], argTypes := #[t, t] })
    (base : Nat) (e : TypeId) (i : TypeInfo) (z : Value) (size bytes : Nat) (ht : P.underlying t = some (.slice e)) (hi : P.info? e = some i) (hz : i.zero = some z)
    (hsize : i.size = size) (hby : i.bytes = bytes) (hzs : z.cells.size = size) (hsz : 0 < size)
    (v : Value) (n : Nat) (xs : List Value) (hs : a.eval s = v) (hown : w.ownsRow base e size v n xs)
    (ad : Addr) (m c : Nat) (news : List Value) (hx : a.eval x = .slice (some ad) m c) (hl : news.length = m * size) (hnews : ∀ j u, news[j]? = some u → w.cell? (ad.add j) = some u) (h1 : ∀ u ∈ news, u.oneCell' = true)
    (h63 : n + m ≤ maxLen) (hbytes : (n + m) * bytes ≤ 140737488355328) (hbase : base ≤ w.heap.size)
    (h : ∀ v' w', w'.ownsRow base e size v' (n + m) (xs ++ news) → w.grownBy w' v.ownBlock → K (a.put o.dst v') w') :
    if Region.wanted o (yielded ops a.tmps) = true then Oper.wp P o a w K Q else E := by
  have hwt : Region.wanted o (yielded ops a.tmps) = true := by simp [Region.wanted, hgd]
  rw [if_pos hwt]
  exact wp_append_own w s x t ho base e i z size bytes ht hi hz hsize hby hzs hsz v n xs hs hown ad m c news hx hl hnews h1 h63 hbytes hbase (fun v' w' h2 h3 _ => h v' w' h2 h3)
theorem add0 (g j : Nat) : (⟨g, 0, none⟩ : Addr).add j = ⟨g, j, none⟩ := by
  cases j with
  | zero => rfl
  | succ j => simp [Addr.add]
theorem own2_at {W : World} {B T n : Nat} {v : Value} {al : List (Nat × Nat)} (h : W.ownsRow B 78 2 v T (encL al)) (hT : T = al.length) {i : Nat} (hi : i < T) : ∃ g c, v = .slice (some ⟨g, 0, none⟩) T c ∧ B ≤ g ∧ g < W.heap.size ∧ W.cell? ⟨g, i * 2, none⟩ = some (.int .i64 ((al.getD i (0, 0)).1 : Nat)) ∧ W.cell? ⟨g, i * 2 + 1, none⟩ = some (.int .i64 ((al.getD i (0, 0)).2 : Nat)) := by
  rcases h.2 with ⟨_, h0⟩ | ⟨g, cap, cur, rfl, hB, hg, _⟩
  · omega
  · have hcs := h.cells (g := g) rfl
    have hil : i < al.length := by omega
    obtain ⟨q1, q2⟩ := encL_at al i hil
    have e1 := hcs _ _ q1
    have e2 := hcs _ _ q2
    rw [add0] at e1 e2
    have eg : al.getD i (0, 0) = al[i] := by simp [List.getD, List.getElem?_eq_getElem hil]
    rw [eg]
    exact ⟨g, cap, rfl, hB, (Array.getElem?_eq_some_iff.1 hg).1, e1, e2⟩

set_option maxHeartbeats 8000000 in
theorem leadsBack_any (W : World) (n₀ fb top n gD0 cD0 a : Nat) (ns : List (List UInt8)) (rb : Bool) (hrb : rb = true ↔ Rch (rowN ns) a a) (ha : a < n) (hn : n = ns.length) (hn9 : n ≤ 200) (hok : NmOk ns) (hv : W.cell? ⟨fb, 4, none⟩ = some (.slice (some ⟨gD0, 0, none⟩) n cD0)) (hfb : fb < W.heap.size)
    (hrows : RowsD W n₀ top (.slice (some ⟨gD0, 0, none⟩) n cD0) n ns) :
    Calls Try.prog 49 #[.pointer (some ⟨fb, 0, none⟩), .int .i64 (a : Nat)] W fun e w' => e = .returned (.bool rb) ∧ Below W.heap.size W w' := by
  obtain ⟨d0, di, dz0, dz1, dz2⟩ := info_parts info_decX
  have hmm := @run_makeMap Try.prog
  have hrw : ∀ k, k < n → ∃ gr cr, gD0 < W.heap.size ∧ W.cell? ⟨gD0, k, none⟩ = some (.slice (some ⟨gr, 0, none⟩) (rowN ns k).length cr) ∧ gr < W.heap.size ∧
      (∀ i (hi : i < (rowN ns k).length), W.cell? ⟨gr, i * 2, none⟩ = some (.int .i64 (k : Nat)) ∧ W.cell? ⟨gr, i * 2 + 1, none⟩ = some (.int .i64 ((rowN ns k)[i] : Nat))) ∧ (rowN ns k).length ≤ 121 := fun k hk => by
    obtain ⟨gD, cD, gr, cr, e1, e2, e3, e4, e5, _⟩ := RowsX.rowD hrows hk
    cases e1
    refine ⟨gr, cr, e2, e3, e4, fun i hi => ⟨(e5 i hi).1, (e5 i hi).2.1⟩, ?_⟩
    have hk2 : k < ns.length := by omega
    rw [rowN_get (List.getElem?_eq_getElem hk2), linkL_len]
    obtain ⟨h1, h2⟩ := hok _ (List.getElem_mem hk2)
    exact (sd_ok h1 h2).2.1
  have hrlt : ∀ k, k < n → AllLt n (rowN ns k) := fun k hk => by rw [hn]; exact rowN_lt hrows hk
  have hrl : ∀ k, k < n → (rowN ns k).length ≤ 121 := fun k hk => by obtain ⟨_, _, _, _, _, _, h⟩ := hrw k hk; exact h
  obtain ⟨gr0, cr0, hgD, hcD0, hgr0, hrc0, hL0⟩ := hrw a ha
  obtain ⟨L0, hL0e⟩ : ∃ L0, L0 = (rowN ns a).length := ⟨_, rfl⟩
  rw [← hL0e] at hcD0 hL0
  have hclone := cloneX_any (W.alloc (.map #[] 0)) gr0 L0 cr0 a (rowN ns a) hL0e hL0 (fun i hi => ⟨((below_alloc W _).cell (p := ⟨gr0, i * 2, none⟩) hgr0).trans (hrc0 i hi).1, ((below_alloc W _).cell (p := ⟨gr0, i * 2 + 1, none⟩) hgr0).trans (hrc0 i hi).2⟩)
  have hinv0 := LbInv.start ha hrlt hrl
  have hmade := World.ownsMap_made W Try.prog 78 (plainElem (H := Unit) Try.prog 4)
  have hll : ((rowN ns a).map fun x => (a, x)).length = L0 := by rw [List.length_map, hL0e]
  have HRW := Lib.hid hrw; have HRLT := Lib.hid hrlt; have HRL := Lib.hid hrl; have HCLONE := Lib.hid hclone; have HINV0 := Lib.hid hinv0; have HMADE := Lib.hid hmade; have HRB := Lib.hid hrb; have HLL := Lib.hid hll
  clear hrw hrlt hrl hclone hinv0 hmade hrb hrows hok hrc0 hL0e hll hn
  go_enter Try.func49, Try.ntmps49
  go_wp2_with fail
  refine HCLONE.out.mono ?_
  rintro e w1 ⟨v, rfl, hv1, hb1⟩
  have hv2 : w1.ownsRow (W.heap.size + 1) 78 2 v L0 (encL ((rowN ns a).map fun x => (a, x))) := by have h := hv1; rw [World.size_alloc] at h; exact h
  have hav : ∃ ra rc, v = .slice ra L0 rc := by
    rcases hv2.2 with ⟨rfl, h⟩ | ⟨g, cap, cur, rfl, _⟩
    · exact ⟨none, 0, by rw [h]⟩
    · exact ⟨_, _, rfl⟩
  obtain ⟨ra, rc, rfl⟩ := hav
  have hmp : OwnX w1 W.heap.size 0 (.map []) := HMADE.out.kept (row := none) ⟨hb1.os, hb1.tape, hb1.output, hb1.size, fun g hg _ => hb1.block g hg⟩ (by simp)
  have HV := Lib.hid hv2; have HMP := Lib.hid hmp
  have HB1 : Hid (Below W.heap.size W w1) := Lib.hid ((below_alloc W _).trans (hb1.mono (by simp)))
  clear hv1 hv2 hb1 hmp HCLONE
  go_wp2_with fail
  go_loopw [6, 7] (fun av kv wr => ∃ (k : Nat) (al : List (Nat × Nat)) (fbl : List Bool) (m : Nat) (D : DataW Unit), k ≤ al.length ∧ kv = .int .i64 k ∧ (∃ ra rc, av = .slice ra al.length rc) ∧ Hid (LbInv (rowN ns) a n al k fbl ∧ FolD D (fun f z => (f, z) ∈ al.take k) ∧ OwnX wr W.heap.size m D ∧ m ≤ k ∧ wr.ownsRow (W.heap.size + 1) 78 2 av al.length (encL al) ∧ Below W.heap.size W wr)) (fun _ kv _ => 5000000 - (intOf kv).toNat)
  case atStart => exact ⟨0, (rowN ns a).map fun x => (a, x), List.replicate (n * n) false, 0, .map [], by omega, rfl, ⟨ra, rc, by rw [HLL.out]⟩, Lib.hid ⟨HINV0.out, by simpa using FolD.empty, HMP.out, Nat.le_refl _, by rw [HLL.out]; exact HV.out, HB1.out⟩⟩
  case round =>
    obtain ⟨k, al, fbl, m, D, hk, rfl, ⟨ra, rc, rfl⟩, HX⟩ := hrel
    obtain ⟨hinv, hfol, hmp, hmk, hrow, hb⟩ := HX.out
    have hlen := hinv.len
    have hnn : n * n ≤ 200 * 200 := Nat.mul_le_mul hn9 hn9
    obtain ⟨T, hT⟩ : ∃ T, T = al.length := ⟨_, rfl⟩
    rw [← hT] at hrow hk hlen ⊢
    have hT9 : T ≤ 4900000 := by omega
    by_cases hkT : k < T
    · have hkl : k < al.length := by rw [← hT]; exact hkT
      obtain ⟨gq, cq, heq, hgqB, hgq, z0, z1⟩ := own2_at (n := n) hrow hT hkT
      cases heq
      have hge : al.getD k (0, 0) = al[k] := by simp [List.getD, List.getElem?_eq_getElem hkl]
      rw [hge] at z0 z1
      obtain ⟨hfn, hzn, hrz⟩ := hinv.2.2.1 _ (List.getElem_mem hkl)
      obtain ⟨f, hf⟩ : ∃ f, f = al[k].1 := ⟨_, rfl⟩
      obtain ⟨z, hz⟩ : ∃ z, z = al[k].2 := ⟨_, rfl⟩
      rw [← hf] at z0 hfn
      rw [← hz] at z1 hzn hrz
      by_cases hza : z = a
      · have hrt : rb = true := HRB.out.2 (by rw [hza] at hrz; exact hrz)
        have HRT := Lib.hid hrt; have HB := Lib.hid hb
        have hzz : ((z : Int) == (a : Int)) = true := by simp [hza]
        have hsz := hb.size
        clear HX hinv hfol hmp hrow hb hlen hnn hge hf hz hza hrt hT hrz hkl
        go_wp2_with fail
        go_ret
        exact ⟨by rw [HRT.out]; rfl, HB.out.alloc hsz _⟩
      · obtain ⟨xb, hrun, hat⟩ := lookX (hmp.alloc (.cells #[.int .i64 (f : Nat), .int .i64 (z : Nat)] 78 (0, 0))) (f := f) (z := z) (by omega) (by omega)
        have hxb := hfol.look (by omega) (by omega) hat
        have hzz : ((z : Int) == (a : Int)) = false := by simp; omega
        have hsz := hb.size
        cases xb with
        | true =>
          have hin : (al[k].1, al[k].2) ∈ al.take k := by rw [← hf, ← hz]; exact hxb.1 rfl
          have hinv2 := hinv.skip hkl hin
          have hfol2 : FolD D (fun f z => (f, z) ∈ al.take (k + 1)) := by
            have hm : (fun f z => (f, z) ∈ al.take (k + 1)) = fun f z => (f, z) ∈ al.take k := by
              funext f' z'
              apply propext
              rw [List.take_succ_eq_append_getElem hkl, List.mem_append]
              constructor
              · rintro (hp | hp)
                · exact hp
                · simp at hp; rw [hp]; exact hin
              · exact .inl
            rw [hm]; exact hfol
          have HINV := Lib.hid hinv2; have HFOL := Lib.hid hfol2; have HMP2 := Lib.hid hmp; have HROW := Lib.hid hrow; have HB := Lib.hid hb; have HT := Lib.hid hT
          clear HX hinv hinv2 hfol hfol2 hmp hrow hb hlen hnn hge hf hz hza hT hrz hkl hin hxb hat
          go_wp2_with fail
          go_roundw
          case rel => exact ⟨k + 1, al, fbl, m, D, by rw [← HT.out]; omega, by go_num, ⟨_, _, by rw [HT.out]⟩, Lib.hid ⟨HINV.out, HFOL.out, HMP2.out.alloc _, by omega, by rw [← HT.out]; exact HROW.out.alloc _, HB.out.alloc hsz _⟩⟩
          case measure => simp [intOf] <;> omega
        | false =>
          have hnf : (f, z) ∉ al.take k := fun h => by have := hxb.2 h; cases this
          have hinv2 := hinv.add hkl hf hz hza hnf HRLT.out HRL.out
          have hfol2 := hfol.put (f := f) (z := z) (by omega) (by omega)
          have hfol3 : FolD (D.put (kX f z) (bLX true)) (fun f' z' => (f', z') ∈ (al ++ (rowN ns z).map fun x => (z, x)).take (k + 1)) := by
            have hm : (fun f' z' => (f' = f ∧ z' = z) ∨ (f', z') ∈ al.take k) = fun f' z' => (f', z') ∈ (al ++ (rowN ns z).map fun x => (z, x)).take (k + 1) := by
              funext f' z'
              apply propext
              rw [List.take_append_of_le_length (by omega), List.take_succ_eq_append_getElem hkl, List.mem_append]
              have hat2 : al[k] = (f, z) := by rw [hf, hz]
              rw [hat2]
              simp
              exact or_comm
            rw [← hm]; exact hfol2
          have HINV := Lib.hid hinv2; have HFOL := Lib.hid hfol3; have HMP2 := Lib.hid hmp; have HROW := Lib.hid hrow; have HB := Lib.hid hb; have HT := Lib.hid hT
          clear hfol3
          obtain ⟨gr, cr, _, hcD, hgr, hrc, hL9⟩ := HRW.out z hzn
          obtain ⟨L, hL⟩ : ∃ L, L = (rowN ns z).length := ⟨_, rfl⟩
          rw [← hL] at hcD hL9
          have HRC := Lib.hid hrc; have HL := Lib.hid hL
          have y4 := (hb.cell (p := ⟨fb, 4, none⟩) hfb).trans hv
          have yD := (hb.cell (p := ⟨gD0, z, none⟩) hgD).trans hcD
          clear HX hinv hinv2 hfol hfol2 hmp hrow hb hlen hnn hge hf hz hza hT hrz hkl hnf hxb hat hrc hL hcD
          go_wp2_with (at_mapUpdate; refine wpList_mapUpdate_own _ rfl _ _ _ 82 rfl 78 4 lawX Try.underlying82 _ W.heap.size m D rfl (HMP2.out.alloc _) (by unfold maxLen; omega) _ _ _ rfl rfl (keyOfX (f := f) (z := z) (by omega) (by omega)) _ [] (plainElem_bool Try.underlying4 true) ?_; intro w3 hown3 hgr3; have HM3 := Lib.hid hown3; have HG3 := Lib.hid hgr3; clear hown3 hgr3)
          have hk3 : ∀ g, g < wr.heap.size + 1 → g ≠ W.heap.size → w3.heap[g]? = (wr.alloc (.cells #[.int .i64 (f : Nat), .int .i64 (z : Nat)] 78 (0, 0))).heap[g]? := fun g h1 h2 => HG3.out.block g (by simpa using h1) (fun e => h2 (Option.some.inj e))
          have c8 : w3.cell? ⟨wr.heap.size, 1, none⟩ = some (.int .i64 (z : Nat)) := (cell_of_block (hk3 wr.heap.size (by omega) (by omega))).trans (cell_newAt _ _ _ _ _ rfl)
          have hold : ∀ g i, g < W.heap.size → w3.cell? ⟨g, i, none⟩ = wr.cell? ⟨g, i, none⟩ := fun g i h1 => (cell_of_block (hk3 g (by omega) (by omega))).trans ((below_alloc wr _).cell (p := ⟨g, i, none⟩) (show g < wr.heap.size by omega))
          have c4 := (hold fb 4 hfb).trans y4
          have cD := (hold gD0 z hgD).trans yD
          have hs3 := HG3.out.size
          rw [World.size_alloc] at hs3
          have hB := HB.out
          have hrow3 : w3.ownsRow (W.heap.size + 1) 78 2 (.slice (some ⟨gq, 0, none⟩) T rc) T (encL al) := (HROW.out.alloc _).kept HG3.out (.inr (by intro e; have e2 : gq = W.heap.size := Option.some.inj e; omega))
          have hnews : ∀ j u, (encL ((rowN ns z).map fun x => (z, x)))[j]? = some u → w3.drew.cell? ((⟨gr, 0, none⟩ : Addr).add j) = some u := fun j u hj => by
            rw [add0]
            have hlen := encL_len ((rowN ns z).map fun x => (z, x))
            rw [List.length_map] at hlen
            have hjl := (List.getElem?_eq_some_iff.1 hj).1
            obtain ⟨q1, q2⟩ := encL_at ((rowN ns z).map fun x => (z, x)) (j / 2) (by rw [List.length_map]; omega)
            have hj2 : j / 2 < (rowN ns z).length := by omega
            obtain ⟨e1, e2⟩ := HRC.out (j / 2) hj2
            have hw : ∀ i, w3.drew.cell? ⟨gr, i, none⟩ = W.cell? ⟨gr, i, none⟩ := fun i => (hold gr i hgr).trans (hB.cell (p := ⟨gr, i, none⟩) hgr)
            rcases Nat.mod_two_eq_zero_or_one j with hm | hm
            · have e : j = j / 2 * 2 := by omega
              rw [e] at hj ⊢
              rw [q1] at hj
              rw [hw, e1, ← Option.some.inj hj]; simp
            · have e : j = j / 2 * 2 + 1 := by omega
              rw [e] at hj ⊢
              rw [q2] at hj
              rw [hw, e2, ← Option.some.inj hj]; simp
          have hnl : (encL ((rowN ns z).map fun x => (z, x))).length = L * 2 := by rw [encL_len, List.length_map, HL.out]; omega
          have HROW3 := Lib.hid hrow3; have HNEWS := Lib.hid hnews
          have HB3 : Hid (Below W.heap.size W w3) := Lib.hid ((HB.out.alloc hsz _).trans (below_grown (by simp; omega) HG3.out (fun g e => by have := Option.some.inj e; omega)))
          obtain ⟨nw, hnw⟩ : ∃ nw, nw = encL ((rowN ns z).map fun x => (z, x)) := ⟨_, rfl⟩
          rw [← hnw] at HNEWS hnl
          have hon := encL_one ((rowN ns z).map fun x => (z, x))
          rw [← hnw] at hon
          have HNW := Lib.hid hnw; have HON := Lib.hid hon; have HNL := Lib.hid hnl
          clear hk3 hold hB hrow3 hnews hnl y4 yD hrun z0 z1 hnw hon
          go_wp2_with fail
          go_region_law (first
            | (refine step_appX rfl (.tmp 37) (.tmp 45) 76 rfl (W.heap.size + 1) 78 d0 (.agg #[.int .i64 0, .int .i64 0]) 2 16 Try.underlying76 di dz0 dz1 dz2 rfl (by decide) (.slice (some ⟨gq, 0, none⟩) T rc) T (encL al) (by simp [Act.eval, Act.put]) HROW3.out.drew ⟨gr, 0, none⟩ L cr nw (by simp [Act.eval, Act.put]) HNL.out HNEWS.out HON.out (by unfold maxLen; omega) (by omega) (by simp [go_sem]; omega) ?_; intro v5 w5 hown5 hgr5; have HO5 := Lib.hid hown5; have HG5 := Lib.hid hgr5; clear hown5 hgr5))
          all_goals
            go_wp2_with fail
            go_roundw
            case rel =>
              have hav : ∃ a3 c3, v5 = .slice a3 (T + L) c3 := by
                rcases HO5.out.2 with ⟨rfl, h⟩ | ⟨g, cap, cur, rfl, _⟩
                · exact ⟨none, 0, by rw [h]⟩
                · exact ⟨_, _, rfl⟩
              obtain ⟨a3, c3, rfl⟩ := hav
              have hl2 : (al ++ (rowN ns z).map fun x => (z, x)).length = T + L := by rw [List.length_append, List.length_map, ← HT.out, HL.out]
              refine ⟨k + 1, al ++ (rowN ns z).map fun x => (z, x), fbl.set (f * n + z) true, m + 1, D.put (kX f z) (bLX true), by rw [hl2]; omega, by go_num, ⟨a3, c3, by rw [hl2]⟩, Lib.hid ⟨HINV.out, HFOL.out, (HM3.out.drew).kept HG5.out (fun e => by have e2 : W.heap.size = gq := Option.some.inj e; omega), by omega, by rw [hl2, encL_app, ← HNW.out]; exact HO5.out, ?_⟩⟩
              have hs5 := HB3.out.size
              exact HB3.out.drew.trans (below_grown (by simp [go_sem]; omega) HG5.out (fun g e => by have e2 : gq = g := Option.some.inj e; omega))
            case measure => simp [intOf] <;> omega
    · have hno := hinv.fin (by rw [← hT]; exact hkT)
      have hrf : rb = false := by
        cases rb with
        | false => rfl
        | true => exact absurd (HRB.out.1 rfl) hno
      have HRF := Lib.hid hrf; have HB := Lib.hid hb
      clear HX hinv hfol hmp hrow hb hlen hnn hno hrf
      go_wp2_with fail
      go_ret
      exact ⟨by rw [HRF.out]; rfl, HB.out⟩
end Go.Proofs.Ytgmknehioadjhaa
