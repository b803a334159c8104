/- The program's take: names are found, or get the next numbers. -/
import Derived.Test.YtgmknehioadjhaaN4
namespace Go.Proofs.Ytgmknehioadjhaa
open Go.RowKit Go.BigFrame Go.Maps
set_option linter.unusedSimpArgs false
set_option linter.unusedVariables false
set_option maxRecDepth 4000

def tmT : List (List UInt8) → List Nat → Nat → List (List UInt8) → List Nat
  | _, ts, _, [] => ts
  | ns, ts, t, p :: r => tmT (addN ns p) (if posN p ns < ns.length then ts else ts ++ [t]) t r
theorem tmT_snoc : ∀ (ps ns : List (List UInt8)) (ts : List Nat) (t : Nat) (p : List UInt8), tmT ns ts t (ps ++ [p]) = if posN p (nmT ns ps) < (nmT ns ps).length then tmT ns ts t ps else tmT ns ts t ps ++ [t]
  | [], _, _, _, _ => rfl
  | q :: ps, ns, ts, t, p => tmT_snoc ps (addN ns q) _ t p
theorem tmT_len : ∀ (ps ns : List (List UInt8)) (ts : List Nat) (t : Nat), ts.length = ns.length → (tmT ns ts t ps).length = (nmT ns ps).length
  | [], _, _, _, h => h
  | q :: ps, ns, ts, t, h => by
    refine tmT_len ps (addN ns q) _ t ?_
    unfold addN; split <;> simp [h]
theorem tmT_le : ∀ (ps ns : List (List UInt8)) (ts : List Nat) (t m : Nat), (∀ x ∈ ts, x ≤ m) → t ≤ m → ∀ x ∈ tmT ns ts t ps, x ≤ m
  | [], _, _, _, _, h, _ => h
  | q :: ps, ns, ts, t, m, h, ht => by
    refine tmT_le ps (addN ns q) _ t m ?_ ht
    split
    · exact h
    · intro x hx
      rcases List.mem_append.1 hx with hx | hx
      · exact h x hx
      · simp at hx; omega
theorem cell_newN (W : World) (v : Value) (T : TypeId) (n : Nat) (h : n = W.heap.size) : (W.alloc (.cells #[v] T)).cell? ⟨n, 0, none⟩ = some v := by
  subst h
  have hb := heap_alloc_new W (.cells #[v] T)
  simp only [World.cell?, hb]; rfl
def okT (ns P : List (List UInt8)) : Bool := !bigP P && decide ((nmT ns P).length ≤ 200)
/-- What a round of taking leaves as it was: all but the table's own blocks. -/
def FrK (W W' : World) (fb mb : Nat) (vE vT : Value) : Prop := ∀ g, g < W.heap.size → g ≠ fb → g ≠ mb → vE.ownBlock ≠ some g → vT.ownBlock ≠ some g → W'.heap[g]? = W.heap[g]?
def FrT (W W' : World) (fb mb : Nat) (vE vT wE wT : Value) : Prop :=
  FrK W W' fb mb vE vT ∧ (∀ g, g < W.heap.size → wE.ownBlock = some g → vE.ownBlock = some g) ∧ (∀ g, g < W.heap.size → wT.ownBlock = some g → vT.ownBlock = some g) ∧ W.heap.size ≤ W'.heap.size
def TakePost (W W' : World) (e : Ending) (n₀ fb mb nd : Nat) (ns : List (List UInt8)) (ts : List Nat) (t : Nat) (P : List (List UInt8)) (vE0 vT0 vP vD : Value) : Prop :=
  (okT ns P = true → ∃ rv vE vT, e = .returned (.tuple #[rv, .bool true]) ∧ TabP W' n₀ fb mb nd (nmT ns P) (nmT ns P) (tmT ns ts t P) vE vT vP vD ∧ W'.ownsRow W.heap.size 3 1 rv P.length ((natsI (ixT ns P)).map (.int .i64)) ∧ (∀ g, g < W.heap.size → vT.ownBlock = some g → vT0.ownBlock = some g) ∧ (∀ g, rv.ownBlock = some g → vT.ownBlock ≠ some g)) ∧
  (okT ns P = false → ∃ ns' ts' vE vT, e = .returned (.tuple #[.slice none 0 0, .bool false]) ∧ TabP W' n₀ fb mb nd ns' ns' ts' vE vT vP vD) ∧ Below n₀ W W' ∧ FrK W W' fb mb vE0 vT0

set_option maxHeartbeats 2000000 in
theorem take_any (W : World) (n₀ fb mb nd : Nat) (ns : List (List UInt8)) (ts : List Nat) (vE vT vP vD : Value) (P : List (List UInt8)) (Bq gq cap N t : Nat)
    (hT : TabP W n₀ fb mb nd ns ns ts vE vT vP vD) (hns : ns.length ≤ 200) (hok : ∀ p ∈ ns, p.length ≤ 60) (hP : Strs W Bq (.slice (some ⟨gq, 0, none⟩) N cap) P) (hN : N = P.length) (hP9 : N ≤ 121) (hpl : ∀ x ∈ P, x.length ≤ 200) (hne : vE.ownBlock ≠ some gq) (ht : t ≤ 1000) (hts : ts.length = ns.length) :
    Calls Try.prog 58 #[.pointer (some ⟨fb, 0, none⟩), .slice (some ⟨gq, 0, none⟩) N cap, .int .i64 t] W fun e W' => TakePost W W' e n₀ fb mb nd ns ts t P vE vT vP vD := by
  obtain ⟨i0, hi, hz0, hz1, hz2⟩ := info_parts info_int5
  obtain ⟨s0, si, sz0, sz1, sz2⟩ := info_parts info_str6
  obtain ⟨csq, hgo⟩ : ∃ cs, W.heap[gq]? = some (.cells cs 9 (0, 0)) := by
    rcases hP.2 with ⟨e, _⟩ | ⟨g, c, cur, e, _, hg, _⟩
    · cases e
    · cases e; exact ⟨cur, hg⟩
  have hgq : gq < W.heap.size := (Array.getElem?_eq_some_iff.1 hgo).1
  have hcq : ∀ j (hj : j < P.length), W.cell? ⟨gq, j, none⟩ = some (.string (bs P[j])) := by
    rcases strs_open hP with ⟨e, _⟩ | ⟨g, c, e, _, _, _, _, hc, _⟩
    · cases e
    · cases e; exact hc
  have hbase := hT.base
  have HT0 := Lib.hid hT; have HOK := Lib.hid hok; have HN := Lib.hid hN; have HPL := Lib.hid hpl; have HGO := Lib.hid hgo; have HCQ := Lib.hid hcq; have HNE0 := Lib.hid hne
  clear hT hok hP hN hpl hgo hcq hne
  go_enter Try.func58, Try.ntmps58
  go_wp2_with (refine wpList_make_own _ rfl _ _ 30 rfl W.heap.size 3 i0 (.int .i64 0) 1 Try.underlying30 hi hz0 hz1 .i64 .i64 (N : Int) N rfl rfl rfl (by rw [hz2]; omega) (by unfold maxLen; omega) (Nat.le_refl _) ?_; intro w1 hown hgr; have HO := Lib.hid hown; have HG := Lib.hid hgr; clear hown hgr)
  go_loopw [8, 18] (fun rv jv wr => ∃ (j : Nat) (wE wT : Value), j ≤ N ∧ jv = .int .i64 j ∧ (∃ ra rc, rv = .slice ra j rc) ∧ (nmT ns (P.take j)).length ≤ 200 ∧ Hid (TabP wr n₀ fb mb nd (nmT ns (P.take j)) (nmT ns (P.take j)) (tmT ns ts t (P.take j)) wE wT vP vD ∧ (∀ i (hi : i < P.length), i < j → P[i].length ≤ 60) ∧ wr.ownsRow W.heap.size 3 1 rv j ((natsI (ixT ns (P.take j))).map (.int .i64)) ∧ (∀ g, rv.ownBlock = some g → wT.ownBlock ≠ some g) ∧ wE.ownBlock ≠ some gq ∧ wr.heap[gq]? = W.heap[gq]? ∧ gq < wr.heap.size ∧ Below n₀ W wr ∧ FrT W wr fb mb vE vT wE wT)) (fun _ jv _ => N - (intOf jv).toNat)
  case atStart =>
    have hbw : Below W.heap.size W w1 := (Below.refl _ _).grown HG.out (Nat.le_refl _) (fun j h => by cases h)
    refine ⟨0, vE, vT, by omega, rfl, ⟨_, _, rfl⟩, hns, HT0.out.below hbw, fun i _ h => by omega, HO.out, fun g e => ?_, HNE0.out, hbw.block gq hgq, Nat.lt_of_lt_of_le hgq hbw.size, hbw.mono hbase, fun g h1 _ _ _ _ => hbw.block g h1, fun g _ e => e, fun g _ e => e, hbw.size⟩
    simp only [Value.ownBlock, Option.some.injEq] at e
    subst e
    intro e2
    exact absurd (HT0.out.times.lt _ e2).2 (Nat.lt_irrefl _)
  case round =>
    obtain ⟨j, wE, wT, hj, rfl, ⟨ra, rc, rfl⟩, hnl, HX⟩ := hrel
    by_cases hlt : j < N
    · have hjP : j < P.length := by rw [← HN.out]; exact hlt
      obtain ⟨hT, hsm, hrow, hap, hne, hgq2, hgs, hbw, hfr⟩ := HX.out
      obtain ⟨d0, d1, d2, _, df⟩ := hT.cell
      obtain ⟨D, hD, hND⟩ := hT.map
      have cq : wr.cell? ⟨gq, j, none⟩ = some (.string (bs P[j])) := by
        have := HCQ.out j hjP
        simp only [World.cell?, hgq2] at this ⊢
        exact this
      have hmem : P[j] ∈ P := List.getElem_mem hjP
      have hxl := HPL.out _ hmem
      have hpos := posN_le P[j] (nmT ns (P.take j))
      have hnx := nmT_take_succ (ns := ns) hjP
      have hix := ixT_take_succ (ns := ns) hjP
      have htx := tmT_snoc (P.take j) ns ts t P[j]
      rw [← List.take_succ_eq_append_getElem hjP] at htx
      have hall : ∀ y ∈ nmT ns (P.take j), y.length ≤ 60 := fun y hy => by
        rcases mem_nmT hy with h | h
        · exact HOK.out y h
        · obtain ⟨i, hi, e⟩ := List.getElem_of_mem h
          have hi2 : i < j := by simp at hi; omega
          rw [← e, List.getElem_take]
          exact hsm i (by omega) hi2
      obtain ⟨am, cm, rfl⟩ := own_slice hT.names
      obtain ⟨x, hx⟩ : ∃ x, x = P[j] := ⟨_, rfl⟩
      have HXX := Lib.hid hx
      rw [← hx] at cq hmem hxl hpos hnx hix htx
      obtain ⟨nj, hnj⟩ : ∃ nj, nj = nmT ns (P.take j) := ⟨_, rfl⟩
      rw [← hnj] at hT hD hND hpos hnx hix htx hnl hall d0
      have HNJ := Lib.hid hnj
      obtain ⟨L, hL⟩ : ∃ L, L = nj.length := ⟨_, rfl⟩
      have HL := Lib.hid hL
      have HDn := Lib.hid hD
      rw [← hnj, ← hL] at hne hfr
      have hfrs := hfr.2.2.2
      have HFR := Lib.hid hfr
      clear hfr
      rw [← hL] at hD hnl d0 hT
      have htl : (natsI (tmT ns ts t (P.take j))).length ≤ 200 := by rw [natsI_len, tmT_len _ _ _ _ hts, ← hnj, ← hL]; exact hnl
      have HT := Lib.hid hT; have HD := Lib.hid hD; have HND := Lib.hid hND; have HNX := Lib.hid hnx; have HIX := Lib.hid hix; have HTX := Lib.hid htx; have HALL := Lib.hid hall
      have HSM := Lib.hid hsm; have HROW := Lib.hid hrow; have HAP := Lib.hid hap; have HNE := Lib.hid hne; have HGQ2 := Lib.hid hgq2; have HBW := Lib.hid hbw; have HDF := Lib.hid df
      have hxs : (((bs x).size : Nat) : Int) = (x.length : Int) := by rw [bs_size]
      by_cases hkn : posN x nj < nj.length
      · have hmx := posN_mem.1 hkn
        have hh := (hND.keys x).2 hmx
        have hx60 := hall x hmx
        have hq9 : posN x nj ≤ 200 := by omega
        have hatx := hND.at_ x hmx
        have haddn : addN nj x = nj := by unfold addN; rw [if_pos hkn]
        rw [haddn] at hnx
        rw [if_pos hkn] at htx
        obtain ⟨q, hq⟩ : ∃ q, q = posN x nj := ⟨_, rfl⟩
        rw [← hq] at hatx hq9 hix
        have HATX := Lib.hid hatx; have HNX2 := Lib.hid hnx; have HTX2 := Lib.hid htx; have HIX2 := Lib.hid hix
        clear HX hT hsm hrow hap hne hgq2 hbw hD hND hnx hix htx hall hmem hkn hmx hpos hx hnj hL haddn hatx hq df HIX HTX HNX
        go_wp2_with (first
          | (at_lookup; refine wpList_lookup_own_ok_int _ rfl _ _ 51 rfl 9 3 .i64 lawS Try.underlying51 Try.underlying3 (zeroI _) mb L D rfl HD.out _ _ rfl (keyOfS (by omega)) ?_; intro c hat hwc; have hcq : c = (q : Nat) := (by have h1 := HATX.out; rw [hat] at h1; injection h1 with h1; injection h1); subst hcq; clear hat hwc)
          | (at_builtin; refine wpList_app _ rfl _ _ 30 rfl W.heap.size 3 i0 (.int .i64 0) 8 Try.underlying30 hi hz0 hz1 hz2 rfl _ j _ rfl (HROW.out.alloc _) _ 1 1 [.int .i64 (q : Nat)] rfl rfl ?c1 ?c2 ?c3 ?c4 ?c5 ?_))
        case c1 => intro j u hj; cases j with | zero => (simp at hj; subst hj; simp [Addr.add]) | succ j => simp at hj
        case c2 => intro u hu; simp at hu; subst hu; rfl
        case c3 => unfold maxLen; omega
        case c4 => omega
        case c5 => have := HT.out.base; have := HBW.out.size; simp; omega
        intro v' w4 hown' hgrow hwh
        obtain ⟨hT4, hk4, hb4⟩ := HT.out.beside HROW.out hbase HAP.out hgrow
        obtain ⟨ra', rc', rfl⟩ := own_slice hown'
        have HT4 := Lib.hid hT4; have HK4 := Lib.hid hk4; have HB4 := Lib.hid hb4; have HOWN := Lib.hid hown'; have HWH := Lib.hid hwh
        have hs4 := hgrow.size
        rw [World.size_alloc] at hs4
        clear hT4 hk4 hb4 hown' hgrow hwh
        go_wp2_with fail
        go_roundw
        case rel =>
          refine ⟨j + 1, .slice am L cm, wT, by omega, by go_num, ⟨ra', rc', rfl⟩, by rw [HNX2.out, ← HL.out]; exact hnl, Lib.hid ⟨by rw [HNX2.out, HTX2.out]; exact HT4.out, fun i hi h => ?_, ?_, fun g e e2 => ?_, HNE.out, (HK4.out gq hgs (not_row3 (HGQ2.out.trans HGO.out) (by decide) HROW.out)).trans HGQ2.out, by omega, HBW.out.trans HB4.out, fun g h1 h2 h3 h4 h5 => (HK4.out g (by omega) (fun e => by have := (HROW.out.lt g e).1; omega)).trans (HFR.out.1 g h1 h2 h3 h4 h5), HFR.out.2.1, HFR.out.2.2.1, by omega⟩⟩
          · by_cases e : i = j
            · subst e; rw [← HXX.out]; exact hx60
            · exact HSM.out i hi (by omega)
          · rw [HIX2.out]
            have := HOWN.out
            rw [show natsI (ixT ns (P.take j) ++ [q]) = natsI (ixT ns (P.take j)) ++ [(q : Int)] by simp [natsI]]
            simpa using this
          · rcases HWH.out with h | h
            · exact HAP.out g (h.symm.trans e) e2
            · rw [h] at e
              have e3 := Option.some.inj e
              have := (HT.out.times.lt g e2).2
              omega
        case measure => simp [intOf] <;> omega
      · have hh : Maps.has D (kS x) = false := by
          cases h : Maps.has D (kS x) with
          | false => rfl
          | true => exact absurd (posN_mem.2 ((hND.keys x).1 h)) hkn
        have haddn : addN nj x = nj ++ [x] := by unfold addN; rw [if_neg hkn]
        rw [haddn] at hnx
        rw [if_neg hkn] at htx
        have hpn := posN_new hkn
        rw [hpn, ← hL] at hix
        have hle := nmT_take_le ns P (j + 1)
        rw [hnx] at hle
        simp only [List.length_append, List.length_cons, List.length_nil, ← hL] at hle
        have HLE := Lib.hid hle; have HNX2 := Lib.hid hnx; have HTX2 := Lib.hid htx; have HIX2 := Lib.hid hix; have HKN := Lib.hid hkn; have HMEM := Lib.hid hmem; have HLX := Lib.hid hL
        clear HX hT hsm hrow hap hne hgq2 hbw hD hND hnx hix htx hall hmem hkn hpos hx hnj hL haddn df HIX HTX HNX hpn hle
        by_cases hL2 : L = 200
        · have hnok : okT ns P = false := by
            unfold okT
            have := HLE.out
            rw [show decide ((nmT ns P).length ≤ 200) = false by simp; omega]; simp
          have HNOK := Lib.hid hnok; have HL2 := Lib.hid hL2
          have e2 : ((L : Int) == 200) = true := by simp; omega
          clear hnok hL2
          go_wp2_with (at_lookup; refine wpList_lookup_own_ok_int _ rfl _ _ 51 rfl 9 3 .i64 lawS Try.underlying51 Try.underlying3 (zeroI _) mb L D rfl HD.out _ _ rfl (keyOfS (by omega)) ?_; intro c hat hwc; clear hat hwc)
          go_ret2
          exact ⟨fun h => (by rw [HNOK.out] at h; cases h), fun _ => ⟨nj, _, _, wT, rfl, HT.out⟩, HBW.out, HFR.out.1⟩
        · have e2 : ((L : Int) == 200) = false := by simp; omega
          by_cases hx60 : 60 < x.length
          · have hnok : okT ns P = false := by
              unfold okT
              rw [show bigP P = true by unfold bigP; rw [List.any_eq_true]; exact ⟨x, HMEM.out, by simp; omega⟩]; rfl
            have HNOK := Lib.hid hnok
            have hgt : (60 : Int) < ((bs x).size : Nat) := by rw [bs_size]; omega
            clear hnok
            go_wp2_with (at_lookup; refine wpList_lookup_own_ok_int _ rfl _ _ 51 rfl 9 3 .i64 lawS Try.underlying51 Try.underlying3 (zeroI _) mb L D rfl HD.out _ _ rfl (keyOfS (by omega)) ?_; intro c hat hwc; clear hat hwc)
            go_ret2
            exact ⟨fun h => (by rw [HNOK.out] at h; cases h), fun _ => ⟨nj, _, _, wT, rfl, HT.out⟩, HBW.out, HFR.out.1⟩
          · have hgt : (((bs x).size : Nat) : Int) ≤ 60 := by rw [bs_size]; omega
            go_wp2_with (first
              | (at_lookup; refine wpList_lookup_own_ok_int _ rfl _ _ 51 rfl 9 3 .i64 lawS Try.underlying51 Try.underlying3 (zeroI _) mb L D rfl HD.out _ _ rfl (keyOfS (by omega)) ?_; intro c hat hwc; clear hat hwc)
              | (at_mapUpdate; refine wpList_mapUpdate_own _ rfl _ _ _ 51 rfl 9 3 lawS Try.underlying51 _ mb L D rfl HD.out (by unfold maxLen; omega) _ _ _ rfl rfl (keyOfS (by omega)) _ [] (plainElem_int Try.underlying3 (WalkArith.wf_i64 (by omega))) ?_; intro w1' hown1 hgr1; have HTB1 := Lib.hid (HT.out.st_map HND.out HDn.out HKN.out (by have h := hown1; rw [HLX.out] at h; exact h) hgr1); have HGR1 := Lib.hid hgr1; have x0 := HTB1.out.1.cell.1; clear hown1 hgr1)
              | (at_builtin; refine wpList_app _ rfl _ _ 22 rfl n₀ 9 s0 (.string ⟨#[]⟩) 16 Try.underlying22 si sz0 sz1 sz2 rfl _ L (nj.map (fun l => .string (bs l))) rfl (World.ownsRow.alloc (by have h := HTB1.out.1.names; unfold Strs at h; rw [← HLX.out] at h; exact h) _) _ 1 1 [.string (bs x)] rfl rfl ?c1 ?c2 ?c3 ?c4 ?c5 ?_))
            case c1 => intro j u hj; cases j with | zero => (simp at hj; subst hj; simp [Addr.add]) | succ j => simp at hj
            case c2 => intro u hu; simp at hu; subst hu; rfl
            case c3 => unfold maxLen; omega
            case c4 => omega
            case c5 => have := HTB1.out.1.base; simp; omega
            intro v3 w3 hown3 hgr3 hwh3
            obtain ⟨hT5, ho5, hk5, hb5⟩ := HTB1.out.1.st_names (by have h := hown3; rw [HLX.out] at h; exact h) hgr3
            obtain ⟨a3, c3, rfl⟩ := own_slice hown3
            have y0 : w3.cell? ⟨fb, 0, none⟩ = some (.slice am L cm) := by simp [World.cell?, ho5]
            have z0 : w3.frozen? ⟨fb, 0, none⟩ = false := by simp [World.frozen?, ho5]
            obtain ⟨_, _, x2, _, _⟩ := hT5.cell
            have hs3 := hgr3.size
            rw [World.size_alloc] at hs3
            have HT5 := Lib.hid hT5; have HK5 := Lib.hid hk5; have HB5 := Lib.hid hb5; have HWH3 := Lib.hid hwh3
            clear hT5 ho5 hk5 hb5 hown3 hgr3 hwh3
            go_wp2_with (at_builtin; refine wpList_app _ rfl _ _ 30 rfl n₀ 3 i0 (.int .i64 0) 8 Try.underlying30 hi hz0 hz1 hz2 rfl wT (natsI (tmT ns ts t (P.take j))).length _ rfl (HT5.out.times.alloc _) _ 1 1 [.int .i64 (t : Nat)] rfl rfl ?c1 ?c2 ?c3 ?c4 ?c5 ?_)
            case c1 => intro j u hj; cases j with | zero => (simp at hj; subst hj; simp [Addr.add]; exact cell_newN _ _ _ _ (by simp)) | succ j => simp at hj
            case c2 => intro u hu; simp at hu; subst hu; rfl
            case c3 => unfold maxLen; omega
            case c4 => omega
            case c5 => have := HT5.out.base; simp at this ⊢; omega
            intro v6 w6 hown6 hgr6 hwh6
            obtain ⟨hT7, ho7, hk7, hb7⟩ := HT5.out.st_times hown6 hgr6
            obtain ⟨a6, c6, rfl⟩ := own_slice hown6
            have y2 : w6.cell? ⟨fb, 2, none⟩ = some wT := by simp [World.cell?, ho7]
            have z2 : w6.frozen? ⟨fb, 2, none⟩ = false := by simp [World.frozen?, ho7]
            have hs6 := hgr6.size
            rw [World.size_alloc, World.size_setCell] at hs6
            have hs1 := HGR1.out.size
            -- the row of numbers, and the parts, through these steps
            have hr1 : w1'.ownsRow W.heap.size 3 1 (.slice ra j rc) j ((natsI (ixT ns (P.take j))).map (.int .i64)) := own_block HROW.out (fun g hg => HGR1.out.block g (HROW.out.lt g hg).2 (fun e => map_row HDn.out HROW.out (by rw [hg]; exact e)))
            have hr5 : (w3.setCell ⟨fb, 0, none⟩ (.slice a3 (L + 1) c3)).ownsRow W.heap.size 3 1 (.slice ra j rc) j ((natsI (ixT ns (P.take j))).map (.int .i64)) := own_block hr1 (fun g hg => HK5.out g (hr1.lt g hg).2 (fun e => not_row3 HTB1.out.1.obj (by decide) hr1 (by rw [hg, e])) (fun e => ne_types HTB1.out.1.names hr1 (by decide) e hg))
            have hr7 : (w6.setCell ⟨fb, 2, none⟩ (.slice a6 ((natsI (tmT ns ts t (P.take j))).length + 1) c6)).ownsRow W.heap.size 3 1 (.slice ra j rc) j ((natsI (ixT ns (P.take j))).map (.int .i64)) := own_block hr5 (fun g hg => hk7 g (hr5.lt g hg).2 (fun e => not_row3 HT5.out.obj (by decide) hr5 (by rw [hg, e])) (HAP.out g hg))
            have hgqf : gq ≠ fb := fun e => by have h1 := HT.out.obj; have h2 := HGQ2.out.trans HGO.out; rw [e, h1] at h2; simp at h2
            have hq1 : w1'.heap[gq]? = W.heap[gq]? := (HGR1.out.block gq hgs (fun e => map_obj HDn.out (HGQ2.out.trans HGO.out) (Option.some.inj e))).trans HGQ2.out
            have hq5 : (w3.setCell ⟨fb, 0, none⟩ (.slice a3 (L + 1) c3)).heap[gq]? = W.heap[gq]? := (HK5.out gq (by omega) hgqf HNE.out).trans hq1
            have hq7 : (w6.setCell ⟨fb, 2, none⟩ (.slice a6 ((natsI (tmT ns ts t (P.take j))).length + 1) c6)).heap[gq]? = W.heap[gq]? := (hk7 gq (by simp; omega) hgqf (not_row3 (hq5.trans HGO.out) (by decide) HT5.out.times)).trans hq5
            have hap7 : ∀ g, (Value.slice ra j rc).ownBlock = some g → (Value.slice a6 ((natsI (tmT ns ts t (P.take j))).length + 1) c6).ownBlock ≠ some g := fun g e e2 => by
              rcases hwh6 with h | h
              · exact HAP.out g e (h.symm.trans e2)
              · rw [h] at e2
                have e3 := Option.some.inj e2
                have := (hr5.lt g e).2
                (try simp at e3); (try simp at this); omega
            have hne7 : (Value.slice a3 (L + 1) c3).ownBlock ≠ some gq := by
              rcases HWH3.out with h | h
              · rw [h]; exact HNE.out
              · rw [h]; intro e; have e3 := Option.some.inj e; (try simp at e3); omega
            have hfr7 : FrT W (w6.setCell ⟨fb, 2, none⟩ (.slice a6 ((natsI (tmT ns ts t (P.take j))).length + 1) c6)) fb mb vE vT (.slice a3 (L + 1) c3) (.slice a6 ((natsI (tmT ns ts t (P.take j))).length + 1) c6) := by
              refine ⟨fun g h1 h2 h3 h4 h5 => (hk7 g (by simp; omega) h2 (fun e => h5 (HFR.out.2.2.1 g h1 e))).trans ((HK5.out g (by omega) h2 (fun e => h4 (HFR.out.2.1 g h1 e))).trans ((HGR1.out.block g (by omega) (fun e => h3 (Option.some.inj e))).trans (HFR.out.1 g h1 h2 h3 h4 h5))), fun g h1 e => ?_, fun g h1 e => ?_, by simp; omega⟩
              · rcases HWH3.out with h | h
                · exact HFR.out.2.1 g h1 (h.symm.trans e)
                · rw [h] at e
                  have e3 := Option.some.inj e
                  (try simp at e3); omega
              · rcases hwh6 with h | h
                · exact HFR.out.2.2.1 g h1 (h.symm.trans e)
                · rw [h] at e
                  have e3 := Option.some.inj e
                  (try simp at e3); omega
            have HFR7 := Lib.hid hfr7
            clear hfr7
            have HT7 := Lib.hid hT7; have HB7 := Lib.hid hb7; have HR7 := Lib.hid hr7; have HQ7 := Lib.hid hq7; have HAP7 := Lib.hid hap7; have HNE7 := Lib.hid hne7
            clear hT7 ho7 hk7 hb7 hr1 hr5 hr7 hgqf hq1 hq5 hq7 hap7 hne7 hown6 hgr6 hwh6
            go_wp2_with (at_builtin; refine wpList_app _ rfl _ _ 30 rfl W.heap.size 3 i0 (.int .i64 0) 8 Try.underlying30 hi hz0 hz1 hz2 rfl _ j _ rfl (HR7.out.alloc _) _ 1 1 [.int .i64 (L : Nat)] rfl rfl ?c1 ?c2 ?c3 ?c4 ?c5 ?_)
            case c1 => intro j u hj; cases j with | zero => (simp at hj; subst hj; simp [Addr.add]; exact cell_newN _ _ _ _ (by simp)) | succ j => simp at hj
            case c2 => intro u hu; simp at hu; subst hu; rfl
            case c3 => unfold maxLen; omega
            case c4 => omega
            case c5 => have := HBW.out.size; have := HB7.out.size; simp at this ⊢; omega
            intro v' w8 hown' hgrow hwh
            obtain ⟨hT9, hk9, hb9⟩ := HT7.out.beside HR7.out hbase HAP7.out hgrow
            obtain ⟨ra', rc', rfl⟩ := own_slice hown'
            have hs8 := hgrow.size
            rw [World.size_alloc, World.size_setCell] at hs8
            have HT9 := Lib.hid hT9; have HK9 := Lib.hid hk9; have HB9 := Lib.hid hb9; have HOWN := Lib.hid hown'; have HWH := Lib.hid hwh
            clear hT9 hk9 hb9 hown' hgrow hwh
            go_wp2_with fail
            go_roundw
            case rel =>
              refine ⟨j + 1, .slice a3 (L + 1) c3, _, by omega, by go_num, ⟨ra', rc', rfl⟩, by rw [HNX2.out]; simp only [List.length_append, List.length_cons, List.length_nil, ← HLX.out]; omega, Lib.hid ⟨by rw [HNX2.out, HTX2.out]; exact HT9.out, fun i hi h => ?_, ?_, fun g e e2 => ?_, HNE7.out, (HK9.out gq (by simp; omega) (not_row3 (HQ7.out.trans HGO.out) (by decide) HR7.out)).trans HQ7.out, by omega, (((HBW.out.trans HTB1.out.2).trans HB5.out).trans HB7.out).trans HB9.out, fun g h1 h2 h3 h4 h5 => (HK9.out g (by simp; omega) (fun e => by have := (HR7.out.lt g e).1; omega)).trans (HFR7.out.1 g h1 h2 h3 h4 h5), HFR7.out.2.1, HFR7.out.2.2.1, by omega⟩⟩
              · by_cases e : i = j
                · subst e; rw [← HXX.out]; omega
                · exact HSM.out i hi (by omega)
              · rw [HIX2.out]
                have := HOWN.out
                rw [show natsI (ixT ns (P.take j) ++ [L]) = natsI (ixT ns (P.take j)) ++ [(L : Int)] by simp [natsI]]
                simpa using this
              · rcases HWH.out with h | h
                · exact HAP7.out g (h.symm.trans e) e2
                · rw [h] at e
                  have e3 := Option.some.inj e
                  have := (HT7.out.times.lt g e2).2
                  (try simp at e3); (try simp at this); omega
            case measure => simp [intOf] <;> omega
    · obtain rfl : j = N := by omega
      obtain ⟨hT, hsm, hrow, hap, _, _, _, hbw, hfr⟩ := HX.out
      have HFR := Lib.hid hfr; have HAP := Lib.hid hap
      clear hfr hap
      have hfull : P.take j = P := List.take_of_length_le (by rw [← HN.out]; exact Nat.le_refl _)
      rw [hfull] at hT hrow hnl
      have hnb : bigP P = false := by
        unfold bigP
        rw [List.any_eq_false]
        intro y hy
        obtain ⟨i, hi, rfl⟩ := List.getElem_of_mem hy
        have := hsm i hi (by rw [HN.out]; exact hi)
        simp; omega
      have hok : okT ns P = true := by unfold okT; rw [hnb]; simpa using hnl
      have HOKT := Lib.hid hok; have HT := Lib.hid hT; have HROW := Lib.hid hrow; have HBW := Lib.hid hbw
      clear HX hT hsm hrow hbw hfull hnb hok
      go_wp2_with fail
      go_ret2
      exact ⟨fun _ => ⟨_, wE, wT, rfl, HT.out, by rw [← HN.out]; exact HROW.out, HFR.out.2.2.1, HAP.out⟩, fun h => (by rw [HOKT.out] at h; cases h), HBW.out, HFR.out.1⟩
end Go.Proofs.Ytgmknehioadjhaa
