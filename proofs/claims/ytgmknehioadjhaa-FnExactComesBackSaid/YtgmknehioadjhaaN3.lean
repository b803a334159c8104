/- The model's elFrom. -/
import Derived.Test.YtgmknehioadjhaaN2
import Derived.Test.YtgmknehioadjhaaM1
import Derived.Test.YtgmknehioadjhaaE2
import Derived.IntWalk
import Derived.Deep.RegionLaw
namespace Go.Proofs.Ytgmknehioadjhaa
open Go.RowKit Go.BigFrame Go.Shelf
set_option linter.unusedSimpArgs false
set_option linter.unusedVariables false
set_option maxRecDepth 4000

theorem step_appN {P : Program} {w : World} {ops : Array Oper} {o : Oper} {a : Act} {K : Act → World → Prop} {Q : Exit → Act → World → Prop} {E : Prop} (hgd : o.guard = none) (s x : Operand) (t : TypeId)
    (ho : o.op = .call { callee := .builtin .append, args := #[s, x], argTypes := #[t, t] })
    (base : Nat) (e : TypeId) (i : TypeInfo) (z : Value) (bytes : Nat) (ht : P.underlying t = some (.slice e)) (hi : P.info? e = some i) (hz : i.zero = some z)
    (hsize : i.size = 1) (hby : i.bytes = bytes) (hzs : z.cells.size = 1)
    (v : Value) (n : Nat) (xs : List Value) (hs : a.eval s = v) (hown : w.ownsRow base e 1 v n xs)
    (ad : Addr) (m c : Nat) (news : List Value) (hx : a.eval x = .slice (some ad) m c) (hl : news.length = m) (hnews : ∀ j u, news[j]? = some u → w.cell? (ad.add j) = some u) (h1 : ∀ u ∈ news, u.oneCell' = true)
    (h63 : n + m ≤ maxLen) (hbytes : (n + m) * bytes ≤ 140737488355328) (hbase : base ≤ w.heap.size)
    (h : ∀ v' w', w'.ownsRow base e 1 v' (n + m) (xs ++ news) → w.grownBy w' v.ownBlock → (v'.ownBlock = v.ownBlock ∨ v'.ownBlock = some w.heap.size) → K (a.put o.dst v') w') :
    if Region.wanted o (yielded ops a.tmps) = true then Oper.wp P o a w K Q else E := by
  have hwt : Region.wanted o (yielded ops a.tmps) = true := by simp [Region.wanted, hgd]
  rw [if_pos hwt]
  obtain ⟨v', w', hr, h2, h3, h4⟩ := run_append_own (P := P) w base t o.type e i z 1 bytes ht hi hz hsize hby hzs (by decide) v n xs hown ad m c news (by omega) hnews h1 h63 hbytes hbase
  have hw := append_where w base t o.type e i z bytes ht hi hz hsize hby hzs v n xs hown ad m c news hl hnews h1 h63 hbytes v' w' hr
  unfold Oper.wp execOp
  simp only [ho, resolve, invoke, builtin, Sem.run_bind, Sem.run_pure, Result.andThen_ok, List.map_toArray, List.map_cons, List.map_nil, hs, hx, hr]
  exact h v' w' h2 h3 hw

theorem lit_oneN {w : World} {b : Nat} {v : Value} (h : w.cell? ⟨b, 0, none⟩ = some v) :
    ∀ j u, ([v] : List Value)[j]? = some u → w.cell? ((⟨b, 0, none⟩ : Addr).add j) = some u := by
  intro j u hj
  match j, hj with
  | 0, hj => simp at hj; subst hj; simpa [Addr.add] using h
theorem nmT_take_len (ns ps : List (List UInt8)) (k : Nat) : (nmT ns (ps.take k)).length ≤ ns.length + k := by
  have h := (nmT_len (ps.take k) ns).2
  have : (ps.take k).length ≤ k := by simp; omega
  omega
theorem nmT_take_succ {ns ps : List (List UInt8)} {k : Nat} (hk : k < ps.length) : nmT ns (ps.take (k + 1)) = addN (nmT ns (ps.take k)) ps[k] := by
  rw [List.take_succ_eq_append_getElem hk, nmT_snoc]
theorem ixT_take_succ {ns ps : List (List UInt8)} {k : Nat} (hk : k < ps.length) : ixT ns (ps.take (k + 1)) = ixT ns (ps.take k) ++ [posN ps[k] (nmT ns (ps.take k))] := by
  rw [List.take_succ_eq_append_getElem hk, ixT_snoc]

theorem info_rowN : (Try.prog.info? 30).map (fun i => (i.zero, i.size, i.bytes)) = some (some (.slice none 0 0), 1, 24) := by kernel_rfl
/-- The rows and the beginning of a table with these names: P: the parts of the word. -/
def RichM (W : World) (n₀ : Nat) (P ns : List (List UInt8)) (nd : Nat) (xb : List Nat) (v1 : Value) : Prop :=
  RowsM W n₀ W.heap.size v1 nd ns ∧ nd = ns.length ∧ xb = P.map (fun p => posN p ns) ∧ ∀ p ∈ P, p ∈ ns
def ElPost (P : List (List UInt8)) (R : Option (List (List UInt8))) (w w' : World) (e : Ending) : Prop :=
  (R = none → e = .returned (.tuple #[.pointer none, .bool false])) ∧
  (∀ ns, R = some ns → ∃ tp nd xb v0 v1 v2, e = .returned (.tuple #[.pointer (some ⟨tp, 0, none⟩), .bool true]) ∧ TabM w' w.heap.size tp ns nd xb v0 v1 v2 ∧ RichM w' w.heap.size P ns nd xb v1) ∧ Below w.heap.size w w'

set_option maxHeartbeats 2000000 in
theorem elFrom_any (s : ByteArray) (w : World) (hsp : sayB s.data.toList = true) (hs : s.size ≤ 60) (R : Option (List (List UInt8))) (hR : R = tabF s.data.toList) :
    Calls Try.prog 56 #[.string s] w fun e w' => ElPost (partsL s.data.toList) R w w' e := by
  obtain ⟨i0, hi, hz0, hz1, hz2⟩ := info_parts info_int5
  obtain ⟨j0, ji, jz0, jz1, jz2⟩ := info_parts info_rowN
  have hpt := fun W => elParts_any s W hsp (by omega)
  obtain ⟨P, hP⟩ : ∃ P, P = partsL s.data.toList := ⟨_, rfl⟩
  rw [← hP] at hpt ⊢
  have HPT := Lib.hid hpt; have HP := Lib.hid hP; have HR := Lib.hid hR
  clear hpt hP hR
  go_enter Try.func56, Try.ntmps56
  go_wp2_with fail
  refine (HPT.out _).mono ?_
  rintro e w1 ⟨v, rfl, hv, hb⟩
  rcases strs_open hv with ⟨_, h0⟩ | ⟨gp, cap, rfl, hgpB, hgp, hn, hcp, hca, _⟩
  · exact absurd h0 (by rw [HP.out]; intro e; have := congrArg List.length e; rw [partsL_len] at this; simp at this)
  obtain ⟨csg, hgo⟩ : ∃ cs, w1.heap[gp]? = some (.cells cs 9 (0, 0)) := by
    rcases hv.2 with ⟨e, _⟩ | ⟨g, c, cur, e, _, hg, _⟩
    · cases e
    · cases e; exact ⟨cur, hg⟩
  have HGO := Lib.hid hgo; clear hgo
  obtain ⟨N, hN⟩ : ∃ N, N = P.length := ⟨_, rfl⟩
  have hN9 : N ≤ 61 := by rw [hN, HP.out]; have := parts_len hsp; rw [size_list] at this; omega
  have HN := Lib.hid hN; have HCA := Lib.hid hca
  rw [← hN] at hn ⊢
  have HB := Lib.hid hb
  clear hv hb hca hN
  have hb1 := HB.out.size
  rw [World.size_alloc] at hb1
  go_wp2_with fail
  go_loopw [17] (fun i wr => ∃ (k : Nat) (v0 v2 : Value), k ≤ N ∧ i = .int .i64 k ∧ Hid (TabM wr w.heap.size w.heap.size (nmT [] (P.take k)) 0 (ixT [] (P.take k)) v0 (.slice none 0 0) v2 ∧ v0.ownBlock ≠ some gp ∧ wr.heap[gp]? = w1.heap[gp]? ∧ gp < wr.heap.size ∧ Below w.heap.size w wr)) (fun i _ => N - (intOf i).toNat)
  case atStart =>
    refine ⟨0, .slice none 0 0, .slice none 0 0, by omega, rfl, Lib.hid ⟨⟨by omega, Nat.le_refl _, ?_, World.ownsRow_nil _ _ _ _, ⟨[], World.ownsRow_nil _ _ _ _⟩, World.ownsRow_nil _ _ _ _⟩, by simp [Value.ownBlock], rfl, hgp, below_trans (below_alloc _ _) HB.out⟩⟩
    rw [HB.out.block w.heap.size (by simp)]
    exact heap_alloc_new w _
  case round =>
    obtain ⟨k, v0, v2, hk, rfl, HX⟩ := hrel
    by_cases hlt : k < N
    · have hltP : k < P.length := by rw [← HN.out]; exact hlt
      obtain ⟨hT, hne, hgw, hgs, hbw⟩ := HX.out
      have cg : wr.cell? ⟨gp, k, none⟩ = some (.string (bs P[k])) := by
        have := HCA.out k hltP
        simp only [World.cell?, hgw] at this ⊢
        exact this
      have hl9 := nmT_take_len [] P k
      simp only [List.length_nil, Nat.zero_add] at hl9
      have hx9 : (ixT [] (P.take k)).length ≤ k := by rw [ixT_len]; simp; omega
      have hpos := posN_le P[k] (nmT [] (P.take k))
      have hnx := nmT_take_succ (ns := []) hltP
      have hix := ixT_take_succ (ns := []) hltP
      obtain ⟨p, hp⟩ : ∃ p, p = P[k] := ⟨_, rfl⟩
      rw [← hp] at cg hpos hnx hix
      obtain ⟨ns, hns⟩ : ∃ ns, ns = nmT [] (P.take k) := ⟨_, rfl⟩
      rw [← hns] at hT hl9 hpos hnx hix
      obtain ⟨xb, hxb⟩ : ∃ xb, xb = ixT [] (P.take k) := ⟨_, rfl⟩
      rw [← hxb] at hT hx9 hix
      obtain ⟨q, hq⟩ : ∃ q, q = posN p ns := ⟨_, rfl⟩
      rw [← hq] at hpos hix
      have hc2 : wr.cell? ⟨w.heap.size, 2, none⟩ = some v2 := by simp [World.cell?, hT.obj]
      have hxl : (natsI xb).length ≤ 61 := by rw [natsI_len]; omega
      have hq9 : q ≤ 61 := by omega
      have HT := Lib.hid hT; have HNE := Lib.hid hne; have HGW := Lib.hid hgw; have HBW := Lib.hid hbw; have HNX := Lib.hid hnx; have HIX := Lib.hid hix
      have hfd := elFind_any wr.drew w.heap.size w.heap.size v0 (.slice none 0 0) v2 ns (bs p) p rfl hT.drew.obj hT.drew.names hT.base (by omega)
      rw [← hq] at hfd
      have HF := Lib.hid hfd; have HTD := Lib.hid hT.drew
      clear HX hT hne hgw hbw hnx hix hns hxb hp hq hfd
      go_wp2_with fail
      go_region_law (first
        | (go_simp; go_at_call 69; refine HF.out.mono ?_; rintro e w2 ⟨rfl, v0', hfp⟩; have HFP := Lib.hid hfp; have HT2 := Lib.hid (FindPost.tab hfp HTD.out); have hc2' := HT2.out.cell2; have hc2a := ((below_alloc w2 (.cells #[.int .i64 (q : Nat)] 3)).cell (p := ⟨w.heap.size, 2, none⟩) HT2.out.lt).trans HT2.out.cell2; clear hfp)
        | (refine step_appN rfl (.tmp 25) (.tmp 29) 30 rfl w.heap.size 3 i0 (.int .i64 0) 8 Try.underlying30 hi hz0 hz1 hz2 rfl v2 (natsI xb).length ((natsI xb).map (.int .i64)) (by simp [Act.eval, Act.put]) (HT2.out.begin_.alloc _) ⟨w2.heap.size, 0, none⟩ 1 1 [.int .i64 (q : Nat)] (by simp [Act.eval, Act.put]) rfl (lit_oneN (by simp [go_sem])) (fun u hu => by simp at hu; subst hu; rfl) (by unfold maxLen; omega) (by omega) (by have := HT2.out.base; simp [go_sem]; omega) ?_; intro v3 w4 hown4 hg4 hw4; obtain ⟨a3, c3, rfl⟩ := own_slice hown4; have HST := Lib.hid (begin_step HT2.out hown4 hg4); have HW4 := Lib.hid hw4; have hc4 : w4.cell? ⟨w.heap.size, 2, none⟩ = some v2 := (by simp [World.cell?, HST.out.2.1]); have hf4 : w4.frozen? ⟨w.heap.size, 2, none⟩ = false := (by simp [World.frozen?, HST.out.2.1]); clear hown4 hg4 hw4))
      all_goals
        go_wp2_with fail
        go_roundw
        case rel =>
          obtain ⟨hT4, _, hkeep, hbel⟩ := HST.out
          have hpl : v0'.ownBlock ≠ some gp := by
            rcases HFP.out.place with e | ⟨g, e, hg⟩
            · rw [e]; exact HNE.out
            · rw [e]; intro e2; have e3 := Option.some.inj e2; subst e3; exact absurd hgs (Nat.not_lt.2 hg)
          have hgtp : gp ≠ w.heap.size := by have := hgpB; rw [World.size_alloc] at this; omega
          have hg2 : w2.heap[gp]? = wr.heap[gp]? := HFP.out.but.block gp hgs hgtp HNE.out
          have hs2 : gp < w2.heap.size := Nat.lt_of_lt_of_le hgs HFP.out.but.size
          have hk4 := hkeep gp hs2 hgtp (not_row3 (hg2.trans (HGW.out.trans HGO.out)) (by decide) HT2.out.begin_)
          exact ⟨k + 1, v0', _, by omega, by go_num, Lib.hid ⟨by rw [HNX.out, HIX.out]; exact hT4, hpl, hk4.trans (hg2.trans HGW.out), Nat.lt_of_lt_of_le hs2 (by have := hbel.size; omega), (HBW.out.drew.trans (HFP.out.below HTD.out.names (Nat.le_refl _) HTD.out.base)).trans hbel⟩⟩
        case measure => simp [intOf] <;> omega
    · obtain rfl : k = N := by omega
      obtain ⟨hT, _, _, _, hbw⟩ := HX.out
      have hfull : P.take k = P := List.take_of_length_le (by rw [← HN.out]; exact Nat.le_refl _)
      rw [hfull] at hT
      have hb0 : w.heap.size ≤ wr.heap.size := hbw.size
      obtain ⟨xb, hxb⟩ : ∃ xb, xb = ixT [] P := ⟨_, rfl⟩
      rw [← hxb] at hT
      have HT := Lib.hid hT; have HBW := Lib.hid hbw
      have hnl0 : (nmT [] P).length ≤ 61 := by have := (nmT_len P []).2; rw [← HN.out] at this; simp at this; omega
      have hnok : NmOk (nmT [] P) := by
        have h1 := parts_ok hsp
        rw [← HP.out] at h1
        exact nmOk_take (fun p hp => by simp at hp) (fun x hx => (h1 x hx).1) (fun x hx => by have := (h1 x hx).2; rw [size_list] at this; omega)
      have hrun : runF 201 0 (nmT [] P) = R := by rw [HR.out, tabF, ← HP.out]
      have hrich : ∀ ns, R = some ns → xb = P.map (fun p => posN p ns) ∧ ∀ p ∈ P, p ∈ ns := fun ns h => by
        have hq := runF_pos _ _ _ _ (hrun.trans h)
        refine ⟨?_, fun p hp => (hq p (mem_nmT_new P [] hp)).1⟩
        rw [hxb, ixT_map]
        exact List.map_congr_left (fun p hp => ((hq p (mem_nmT_new P [] hp)).2).symm)
      have HRUN := Lib.hid hrun; have HNOK := Lib.hid hnok; have HRICH := Lib.hid hrich
      clear HX hT hbw hfull hxb hrun hnok hrich
      go_wp2_with fail
      go_loopw [7] (fun q wm => ∃ (K : Nat) (ns : List (List UInt8)) (n0 n1 : Value), K ≤ 200 ∧ q = .int .i64 K ∧ ns.length ≤ 200 ∧ Hid (runF (201 - K) K ns = R ∧ NmOk ns ∧ TabM wm w.heap.size w.heap.size ns K xb n0 n1 v2 ∧ Below w.heap.size w wm ∧ RowsM wm w.heap.size wm.heap.size n1 K ns)) (fun q _ => 201 - (intOf q).toNat)
      case atStart => exact ⟨0, nmT [] P, v0, .slice none 0 0, by omega, rfl, by omega, HRUN.out, HNOK.out, HT.out, HBW.out, RowsX.nil0⟩
      case round =>
        obtain ⟨K, ns, n0, n1, hK, rfl, hnl, HY⟩ := hrel
        obtain ⟨hrun, hok, hT, hbw, hrm⟩ := HY.out
        have hrmle := RowsX.le hrm
        have HRM := Lib.hid hrm
        clear hrm
        have hc0 := hT.cell0
        rcases strs_open hT.names with ⟨rfl, hnil⟩ | ⟨g0, cap0, rfl, _, hg0, _, hcp0, hca0, _⟩
        · subst hnil
          have hRR : R = some [] := by rw [← hrun, show 201 - K = (200 - K) + 1 by omega]; exact runF_end (by simp)
          have HRR := Lib.hid hRR; have HT := Lib.hid hT; have HBW2 := Lib.hid hbw
          clear hrun hok hT hbw HY hRR
          go_wp2_with fail
          go_ret2
          exact ⟨fun h => (by rw [HRR.out] at h; cases h), fun ns h => ⟨_, K, xb, _, _, _, rfl, (by rw [HRR.out] at h; cases h; exact ⟨HT.out, HRM.out, (by simp at hrmle ⊢; omega), HRICH.out _ HRR.out⟩)⟩, HBW2.out⟩
        obtain ⟨M, hM⟩ : ∃ M, M = ns.length := ⟨_, rfl⟩
        have HM := Lib.hid hM
        rw [← hM] at hc0 hnl
        by_cases hlt : K < M
        · have hltn : K < ns.length := by rw [← HM.out]; exact hlt
          obtain ⟨hps, hpl⟩ := hok ns[K] (List.getElem_mem hltn)
          obtain ⟨hd1, hd2, hd3, hd4⟩ := sd_ok hps hpl
          have hcK := hca0 K hltn
          have hdig := (sayB_iff.1 hps).2.1
          have hne0 := (sayB_iff.1 hps).1
          have hpos : 1 ≤ (ns[K]).length := Nat.pos_of_ne_zero (fun e => hne0 (List.eq_nil_of_length_eq_zero e))
          have hbigc : bigP (sdP ns[K]) = true → R = none := fun h => by rw [← hrun, show 201 - K = (200 - K) + 1 by omega]; exact runF_big hltn h
          have hmany : 200 < (nmT ns (sdP ns[K])).length → R = none := fun h => by rw [← hrun, show 201 - K = (200 - K) + 1 by omega]; exact runF_many hltn h
          have hon : bigP (sdP ns[K]) = false → ¬ 200 < (nmT ns (sdP ns[K])).length → runF (201 - (K + 1)) (K + 1) (nmT ns (sdP ns[K])) = R := fun h1 h2 => by
            rw [← hrun, show 201 - K = (200 - K) + 1 by omega, runF_on hltn h1 h2, show 201 - (K + 1) = 200 - K by omega]
          obtain ⟨p, hp⟩ : ∃ p, p = ns[K] := ⟨_, rfl⟩
          have HPK : Hid (ns[K]? = some p) := Lib.hid (by rw [hp]; exact List.getElem?_eq_getElem hltn)
          rw [← hp] at hps hpl hd1 hd2 hd3 hd4 hcK hdig hpos hbigc hmany hon
          have hsay := fun W => woSay_any (bs p) W (by rw [bs_size]; exact hpos) (by rw [bs_size]; omega) (by rw [bs_list]; exact hdig)
          rw [bs_list] at hsay
          have hpt := fun W => elParts_any (bs (sayL p)) W (by rw [bs_list]; exact hd3) (by rw [bs_size]; exact hd4)
          rw [bs_list] at hpt
          obtain ⟨P2, hP2⟩ : ∃ P2, P2 = sdP p := ⟨_, rfl⟩
          rw [show partsL (sayL p) = P2 from hP2.symm] at hpt
          have HP2 := Lib.hid hP2
          rw [← hP2] at hd1 hd2 hbigc hmany hon
          have hP1 : P2 ≠ [] := by rw [hP2]; intro e; have := congrArg List.length e; unfold sdP at this; rw [partsL_len] at this; simp at this
          have HSAY := Lib.hid hsay; have HPT2 := Lib.hid hpt; have HOK := Lib.hid hok; have HT2 := Lib.hid hT; have HBW2 := Lib.hid hbw; have HD1 := Lib.hid hd1
          have HBIG := Lib.hid hbigc; have HMANY := Lib.hid hmany; have HON := Lib.hid hon; have HP1 := Lib.hid hP1
          clear hps hpl hd1 hd3 hd4 hdig hne0 hpos hbigc hmany hon hsay hpt hP2 hrun hok hT hbw HY hp hP1 hca0
          go_wp2_with fail
          refine (HSAY.out _).mono ?_
          rintro e w5 ⟨rfl, hb5⟩
          have HB5 := Lib.hid hb5; clear hb5
          go_wp2_with fail
          refine (HPT2.out _).mono ?_
          rintro e w6 ⟨pv, rfl, hv6, hb6⟩
          rcases strs_open hv6 with ⟨_, h0⟩ | ⟨gq, capq, rfl, hgqB, hgq, _, hcpq, hcaq, _⟩
          · exact absurd h0 HP1.out
          obtain ⟨csq, hgoq⟩ : ∃ cs, w6.heap[gq]? = some (.cells cs 9 (0, 0)) := by
            rcases hv6.2 with ⟨e, _⟩ | ⟨g, c, cur, e, _, hg, _⟩
            · cases e
            · cases e; exact ⟨cur, hg⟩
          obtain ⟨N2, hN2⟩ : ∃ N2, N2 = P2.length := ⟨_, rfl⟩
          have HN2 := Lib.hid hN2; have HCQ := Lib.hid hcaq; have HGQ := Lib.hid hgoq; have HB6 := Lib.hid hb6
          rw [← hN2] at hd2 ⊢
          have hT6 := (HT2.out.below HB5.out).below HB6.out
          have hbw6 : Below w.heap.size w w6 := below_trans (below_trans HBW2.out HB5.out) HB6.out
          have hs56 : wr.heap.size ≤ w5.heap.size := HB5.out.size
          have hrm6 : RowsM w6 w.heap.size w6.heap.size n1 K ns := RowsX.keep ((HRM.out.below HB5.out).below HB6.out) (fun _ _ _ _ => rfl) (fun _ _ => rfl) (Nat.le_trans hs56 HB6.out.size)
          have HT6 := Lib.hid hT6; have HBW6 := Lib.hid hbw6; have HRM6 := Lib.hid hrm6
          clear hrm6
          clear hv6 hb6 hcaq hgoq hN2 hT6 hbw6
          have hN121 : N2 ≤ 121 := hd2
          have hb2 := HT6.out.begin_
          have hb2lt : ∀ g, v2.ownBlock = some g → g < w6.heap.size := fun g e => (hb2.lt g e).2
          have hbw60 : w.heap.size ≤ w6.heap.size := HBW6.out.size
          have hbtp : w.heap.size < w6.heap.size := HT6.out.lt
          clear hb2
          go_wp2_with fail
          go_loopw [9, 54] (fun rv jv wk => ∃ (j : Nat) (m0 : Value), j ≤ N2 ∧ jv = .int .i64 j ∧ (∃ ra rc, rv = .slice ra j rc) ∧ Hid (TabM wk w.heap.size w.heap.size (nmT ns (P2.take j)) K xb m0 n1 v2 ∧ (∀ i (hi : i < P2.length), i < j → P2[i].length ≤ 60) ∧ wk.ownsRow w6.heap.size 3 1 rv j ((natsI (ixT ns (P2.take j))).map (.int .i64)) ∧ m0.ownBlock ≠ some gq ∧ wk.heap[gq]? = w6.heap[gq]? ∧ w6.heap.size ≤ wk.heap.size ∧ Below w.heap.size w wk ∧ RowsM wk w.heap.size w6.heap.size n1 K (nmT ns (P2.take j)))) (fun _ jv _ => N2 - (intOf jv).toNat)
          case atStart =>
            exact ⟨0, _, by omega, rfl, ⟨_, _, rfl⟩, HT6.out, fun i _ h => by omega, World.ownsRow_nil _ _ _ _, fun e => by simp [Value.ownBlock] at e; omega, rfl, Nat.le_refl _, HBW6.out, HRM6.out⟩
          case round =>
            obtain ⟨j, m0, hj, rfl, ⟨ra, rc, rfl⟩, HZ⟩ := hrel
            by_cases hjl : j < N2
            · have hjP : j < P2.length := by rw [← HN2.out]; exact hjl
              obtain ⟨hT7, hsm, hrow, hne7, hgq7, hsz7, hbw7, hrm7⟩ := HZ.out
              have HRM7 := Lib.hid hrm7
              clear hrm7
              have cq : wr.cell? ⟨gq, j, none⟩ = some (.string (bs P2[j])) := by
                have := HCQ.out j hjP
                simp only [World.cell?, hgq7] at this ⊢
                exact this
              have hmem : P2[j] ∈ P2 := List.getElem_mem hjP
              have hlx := nmT_take_len ns P2 j
              have hpos := posN_le P2[j] (nmT ns (P2.take j))
              have hnx := nmT_take_succ (ns := ns) hjP
              have hix := ixT_take_succ (ns := ns) hjP
              obtain ⟨x, hx⟩ : ∃ x, x = P2[j] := ⟨_, rfl⟩
              have HXX := Lib.hid hx
              rw [← hx] at cq hmem hpos hnx hix
              by_cases hbig : x.length ≤ 60
              · have hle : (((bs x).size : Nat) : Int) ≤ 60 := by rw [bs_size]; omega
                obtain ⟨q, hq⟩ : ∃ q, q = posN x (nmT ns (P2.take j)) := ⟨_, rfl⟩
                have hfd := elFind_any wr w.heap.size w.heap.size m0 n1 v2 (nmT ns (P2.take j)) (bs x) x rfl hT7.obj hT7.names hT7.base (by omega)
                rw [← hq] at hfd hpos hix
                have HFD := Lib.hid hfd; have HT7 := Lib.hid hT7; have HNX := Lib.hid hnx; have HIX := Lib.hid hix; have HROW := Lib.hid hrow; have HSM := Lib.hid hsm; have HNE := Lib.hid hne7
                have HGQ7 := Lib.hid hgq7; have HBW7 := Lib.hid hbw7
                have hq9 : q ≤ 400 := by omega
                clear hT7 hsm hrow hne7 hgq7 hbw7 HZ hnx hix hx hmem hq hfd
                go_wp2_with fail
                refine HFD.out.mono ?_
                rintro e w7 ⟨rfl, m0', hfp⟩
                have hrow7 := hfp.row_kept HT7.out.obj HT7.out.names HROW.out (by decide) (by decide)
                have hT8 := hfp.tab HT7.out
                have hs7 := hfp.but.size
                have hrm8 := HRM7.out.find hfp HT7.out.obj HT7.out.names
                have HRM8 := Lib.hid hrm8
                clear hrm8
                have HFP := Lib.hid hfp; have HROW7 := Lib.hid hrow7; have HT8 := Lib.hid hT8
                clear hfp hrow7 hT8
                go_wp2_with (at_builtin; refine wpList_app _ rfl _ _ 30 rfl w6.heap.size 3 i0 (.int .i64 0) 8 Try.underlying30 hi hz0 hz1 hz2 rfl _ j _ rfl (HROW7.out.alloc _) _ 1 1 [.int .i64 (q : Nat)] rfl rfl ?c1 ?c2 ?c3 ?c4 ?c5 ?_)
                case c1 => intro j u hj; cases j with | zero => (simp at hj; subst hj; simp [Addr.add]) | succ j => simp at hj
                case c2 => intro u hu; simp at hu; subst hu; rfl
                case c3 => unfold maxLen; omega
                case c4 => omega
                case c5 => simp; omega
                intro v' w8 hown' hgrow hwh
                obtain ⟨hT9, hk9, hb9⟩ := HT8.out.beside HROW7.out hbw60 (fun g e => (hb2lt g e)) hgrow
                have hrm9 := HRM8.out.beside HROW7.out (Nat.le_refl _) hk9
                have HRM9 := Lib.hid hrm9
                clear hrm9
                have hsz8 := hgrow.size
                rw [World.size_alloc] at hsz8
                obtain ⟨ra', rc', rfl⟩ := own_slice hown'
                have HT9 := Lib.hid hT9; have HK9 := Lib.hid hk9; have HB9 := Lib.hid hb9; have HOWN := Lib.hid hown'
                clear hT9 hk9 hb9 hown' hgrow hwh
                go_wp2_with fail
                go_roundw
                case rel =>
                  have hgtp : gq ≠ w.heap.size := by omega
                  have hgs : gq < wr.heap.size := by omega
                  have hg2 : w7.heap[gq]? = wr.heap[gq]? := HFP.out.but.block gq hgs hgtp HNE.out
                  have hpl : m0'.ownBlock ≠ some gq := by
                    rcases HFP.out.place with e | ⟨g, e, hg⟩
                    · rw [e]; exact HNE.out
                    · rw [e]; intro e2; have e3 := Option.some.inj e2; subst e3; exact absurd hgs (Nat.not_lt.2 hg)
                  have hg8 := HK9.out gq (by omega) (not_row3 (hg2.trans (HGQ7.out.trans HGQ.out)) (by decide) HROW7.out)
                  refine ⟨j + 1, m0', by omega, by go_num, ⟨ra', rc', rfl⟩, Lib.hid ⟨by rw [HNX.out]; exact HT9.out, fun i hi h => ?_, ?_, hpl, hg8.trans (hg2.trans HGQ7.out), by omega, (HBW7.out.trans (HFP.out.below HT7.out.names (Nat.le_refl _) HT7.out.base)).trans HB9.out, by rw [HNX.out]; exact HRM9.out.name x⟩⟩
                  · by_cases e : i = j
                    · subst e; rw [← HXX.out]; exact hbig
                    · exact HSM.out i hi (by omega)
                  · rw [HIX.out]
                    have := HOWN.out
                    rw [show natsI (ixT ns (P2.take j) ++ [q]) = natsI (ixT ns (P2.take j)) ++ [(q : Int)] by simp [natsI]]
                    simpa using this
                case measure => simp [intOf] <;> omega
              · have hbt : bigP P2 = true := by
                  unfold bigP
                  rw [List.any_eq_true]
                  exact ⟨x, hmem, by simp; omega⟩
                have hRn := HBIG.out hbt
                have HRN := Lib.hid hRn; have HB7 := Lib.hid hbw7
                have hsz9 : (bs x).size = x.length := bs_size x
                have hgt : (60 : Int) < ((bs x).size : Nat) := by rw [hsz9]; omega
                clear hT7 hsm hrow hne7 hgq7 hsz7 hbw7 HZ hnx hix hx hmem hbt hRn hsz9
                go_wp2_with fail
                go_ret2
                exact ⟨fun _ => rfl, fun ns h => (by rw [HRN.out] at h; cases h), HB7.out⟩
            · obtain rfl : j = N2 := by omega
              obtain ⟨hT7, hsm, hrow, hne7, hgq7, hsz7, hbw7, hrm7⟩ := HZ.out
              have HRM7 := Lib.hid hrm7
              clear hrm7
              have hfull : P2.take j = P2 := List.take_of_length_le (by rw [← HN2.out]; exact Nat.le_refl _)
              rw [hfull] at hT7 hrow
              have hnb : bigP P2 = false := by
                unfold bigP
                rw [List.any_eq_false]
                intro y hy
                obtain ⟨i, hi, rfl⟩ := List.getElem_of_mem hy
                have := hsm i hi (by rw [HN2.out]; exact hi)
                simp; omega
              have hlen2 := (nmT_len P2 ns).2
              rw [← HN2.out] at hlen2
              obtain ⟨nn, hnn⟩ : ∃ nn, nn = nmT ns P2 := ⟨_, rfl⟩
              rw [← hnn] at hT7 hlen2
              have HNN := Lib.hid hnn
              have hrm7 := HRM7.out
              rw [hfull, ← hnn] at hrm7
              obtain ⟨xd, h4, h5⟩ := hrm7
              have H5 := Lib.hid h5
              have HROW7 := Lib.hid hrow
              clear h5
              obtain ⟨am, cm, rfl⟩ := own_slice hT7.names
              obtain ⟨L, hL⟩ : ∃ L, L = nn.length := ⟨_, rfl⟩
              have hL9 : L ≤ 400 := by rw [hL]; omega
              have HLL := Lib.hid hL
              have hc1 := hT7.cell1
              have HT7 := Lib.hid hT7; have H4 := Lib.hid h4; have HBW7 := Lib.hid hbw7; have HNB := Lib.hid hnb
              have hs1 : w.heap.size ≤ wr.heap.size := hT7.base
              have hsz7K : w6.heap.size ≤ wr.heap.size := hsz7
              clear hT7 hsm hrow hne7 hgq7 hsz7 hbw7 HZ hfull hnb h4 hnn hlen2 hL
              go_wp2_with (at_builtin; refine wpList_app _ rfl _ _ 48 rfl w.heap.size 30 j0 (.slice none 0 0) 24 Try.underlying48 ji jz0 jz1 jz2 rfl _ K _ rfl (H4.out.alloc _) _ 1 1 [.slice ra j rc] rfl rfl ?c1 ?c2 ?c3 ?c4 ?c5 ?_)
              case c1 => intro j u hj; cases j with | zero => (simp at hj; subst hj; simp [Addr.add]) | succ j => simp at hj
              case c2 => intro u hu; simp at hu; subst hu; rfl
              case c3 => unfold maxLen; omega
              case c4 => omega
              case c5 => simp; omega
              intro v' w8 hown' hgrow hwh
              obtain ⟨hT9, ho9, hb9⟩ := rows_step HT7.out H4.out hown' hgrow
              obtain ⟨a3, c3, rfl⟩ := own_slice hown'
              have hx1 : w8.cell? ⟨w.heap.size, 1, none⟩ = some n1 := by simp [World.cell?, ho9]
              have hf1 : w8.frozen? ⟨w.heap.size, 1, none⟩ = false := by simp [World.frozen?, ho9]
              have hx0 : w8.cell? ⟨w.heap.size, 0, none⟩ = some (.slice am L cm) := by rw [HLL.out]; simp [World.cell?, ho9]
              have hlk : linkL nn p = ixT ns P2 := by rw [HNN.out, HP2.out]; exact linkL_ix ns p
              have hsdl : (sdP p).length = j := by rw [← HP2.out, ← HN2.out]
              have hrm9 := RowsX.mrow H4.out H5.out HT7.out.obj hown' hgrow hsz7K (by rw [HNN.out]; exact nmT_get P2 ns HPK.out) (B := w6.heap.size) (by rw [hlk, hsdl]; exact HROW7.out) hbw60 (fun q hq => by rw [HNN.out, HP2.out]; exact mem_nmT_new _ _ hq) (by rw [hsdl, HN2.out]; exact Nat.pos_of_ne_zero (fun e => HP1.out (List.eq_nil_of_length_eq_zero e)))
              have HRM9 := Lib.hid hrm9
              clear hrm9 hlk hsdl
              have HT9 := Lib.hid hT9; have HB9 := Lib.hid hb9
              clear hT9 ho9 hb9 hown' hgrow hwh
              by_cases hbigL : 200 < L
              · have hRn := HMANY.out (by rw [← HNN.out, ← HLL.out]; exact hbigL)
                have HRN := Lib.hid hRn
                clear hRn
                go_wp2_with fail
                go_ret2
                exact ⟨fun _ => rfl, fun ns h => (by rw [HRN.out] at h; cases h), HBW7.out.trans HB9.out⟩
              · have hon := HON.out HNB.out (by rw [← HNN.out, ← HLL.out]; exact hbigL)
                rw [← HNN.out] at hon
                have HON2 := Lib.hid hon
                have hnmk : NmOk nn := by rw [HNN.out]; exact nmOk_take HOK.out HD1.out (bigP_no HNB.out)
                have HNMK := Lib.hid hnmk
                clear hon hnmk
                go_wp2_with fail
                go_roundw
                case rel => exact ⟨K + 1, nn, _, _, by omega, by go_num, by rw [← HLL.out]; omega, HON2.out, HNMK.out, HT9.out, HBW7.out.trans HB9.out, HRM9.out⟩
                case measure => simp [intOf] <;> omega
        · have hRR : R = some ns := by rw [← hrun, show 201 - K = (200 - K) + 1 by omega]; exact runF_end (by rw [← HM.out]; exact hlt)
          have HRR := Lib.hid hRR; have HT := Lib.hid hT; have HBW2 := Lib.hid hbw
          clear hrun hok hT hbw HY hRR hca0
          go_wp2_with fail
          go_ret2
          exact ⟨fun h => (by rw [HRR.out] at h; cases h), fun ns h => ⟨_, K, xb, _, _, _, rfl, (by rw [HRR.out] at h; cases h; exact ⟨HT.out, HRM.out, (by have := HM.out; omega), HRICH.out _ HRR.out⟩)⟩, HBW2.out⟩
end Go.Proofs.Ytgmknehioadjhaa
