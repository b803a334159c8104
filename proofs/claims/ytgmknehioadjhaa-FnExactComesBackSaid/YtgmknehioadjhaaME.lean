/- The model's FirstTime. -/
import Derived.Test.YtgmknehioadjhaaMG
namespace Go.Proofs.Ytgmknehioadjhaa
open Go.RowKit Go.BigFrame Go.Maps
set_option linter.unusedSimpArgs false
set_option linter.unusedVariables false
set_option maxRecDepth 4000

theorem tabQ_run {l : List UInt8} {ns : List (List UInt8)} (h : tabQ l = some ns) : runF 201 0 (nmT [] (partsL l)) = some ns := by
  unfold tabQ at h
  split at h
  · exact h
  · cases h
theorem neg_set {n k : Nat} (h : k < n) : (List.replicate k (-1 : Int) ++ List.replicate (n - k) 0).set k (-1) = List.replicate (k + 1) (-1) ++ List.replicate (n - (k + 1)) 0 := by
  obtain ⟨d, hd⟩ : ∃ d, n - k = d + 1 := ⟨n - k - 1, by omega⟩
  rw [hd, show n - (k + 1) = d by omega, List.set_append_right _ _ (by simp), List.replicate_succ]
  simp only [List.length_replicate, Nat.sub_self, List.set_cons_zero]
  rw [List.replicate_succ', List.append_assoc]; rfl
abbrev QR (W : World) (B : Nat) (v : Value) (T : Nat) : Prop := W.ownsRow B 3 1 v T ((rgI T).map (.int .i64))
theorem QR.ints {W : World} {B T : Nat} {v : Value} (h : QR W B v T) : Ints W B v (rgI T) := by unfold Ints; rw [rgI_len]; exact h
theorem QR.at_ {W : World} {B T k : Nat} {v : Value} (h : QR W B v T) (hk : k < T) : ∃ g c, v = .slice (some ⟨g, 0, none⟩) T c ∧ W.cell? ⟨g, k, none⟩ = some (.int .i64 (k : Nat)) ∧ g < W.heap.size ∧ B ≤ g := by
  obtain ⟨g, c, rfl, h1, h2⟩ := ints_posI h.ints (by intro e; have := congrArg List.length e; rw [rgI_len] at this; simp at this; omega)
  have := (ints_at h.ints (j := k) (by rw [rgI_len]; exact hk)).1
  rw [rgI_at hk] at this
  exact ⟨g, c, by rw [rgI_len], this, h2, h1⟩
theorem QR.snoc {W : World} {B T : Nat} {v : Value} (h : W.ownsRow B 3 1 v (T + 1) ((rgI T).map (.int .i64) ++ [.int .i64 (T : Nat)])) : QR W B v (T + 1) := by
  unfold QR; rw [rgI_succ, List.map_append]; exact h
theorem QR.set {W : World} {B T g i : Nat} {v x : Value} (h : QR W B v T) (hg : g < B) : QR (W.setCell ⟨g, i, none⟩ x) B v T :=
  own_block h (fun g' e => Below.heap_setCell _ _ _ _ (fun e2 => by have e3 : g' = g := e2; have := (h.lt g' e).1; omega))

set_option maxHeartbeats 8000000 in
theorem specFirstTime_any (s t : ByteArray) (w : World) (hs : s.size ≤ maxLen) (ht : t.size ≤ maxLen) :
    Calls Try.prog 30 #[.string s, .string t] w fun e w' => e = .returned (.tuple #[.int .i64 (ftV s.data.toList t.data.toList), .bool (ftB s.data.toList t.data.toList)]) ∧ Below w.heap.size w w' := by
  obtain ⟨i0, hi, hz0, hz1, hz2⟩ := info_parts info_int5
  have HA := Lib.hid (fun (W : World) => elAsked_any s W hs)
  obtain ⟨l, hl⟩ : ∃ l, l = s.data.toList := ⟨_, rfl⟩
  obtain ⟨x, hx⟩ : ∃ x, x = t.data.toList := ⟨_, rfl⟩
  have et : t = bs x := by rw [hx]; exact bs_eq rfl
  rw [← hl] at HA ⊢
  rw [← hx]
  clear hl hx
  cases hR : tabQ l with
  | none =>
    have HB : Hid (Ending.returned (.tuple #[.int .i64 (ftV l x), .bool (ftB l x)]) = .returned (.tuple #[.int .i64 0, .bool false])) := Lib.hid (by unfold ftV ftB; rw [hR])
    rw [hR] at HA
    rw [HB.out]
    clear hR et
    go_enter Try.func30, Try.ntmps30
    go_wp2_with fail
    refine (HA.out w).mono ?_
    rintro e w1 hpost
    have HB1 := Lib.hid hpost.2.2
    obtain rfl := hpost.1 rfl
    clear hpost HA
    go_wp2_with fail
    go_ret2
    exact ⟨rfl, HB1.out⟩
  | some ns =>
    have h1 := tabQ_le hR
    by_cases hin : x ∈ ns
    · have hrun := tabQ_run hR
      have h0 := tabQ_ok hR
      have h2 := tabQ_parts hR
      have htl := times_len hR
      have HB : Hid (Ending.returned (.tuple #[.int .i64 (ftV l x), .bool (ftB l x)]) = .returned (.tuple #[.int .i64 ((timesT (partsL l)).getD (posN x ns) 0 : Nat), .bool true])) := Lib.hid (by unfold ftV ftB; rw [hR]; simp [hin])
      rw [hR] at HA
      rw [HB.out]
      have hpos := posN_mem.2 hin
      obtain ⟨P, hP⟩ : ∃ P, P = partsL l := ⟨_, rfl⟩
      rw [← hP] at hrun h2 htl HA ⊢
      have hix := fun (W : World) (n₀ tp nd : Nat) (xb : List Nat) (v0 v1 v2 : Value) (hT : TabM W n₀ tp ns nd xb v0 v1 v2) => elIndex_any W n₀ tp nd xb v0 v1 v2 ns x hT (by omega) ((posN x ns : Nat) : Int) (by rw [if_pos hin])
      rw [← et] at hix
      obtain ⟨pos, hpe⟩ : ∃ pos, pos = posN x ns := ⟨_, rfl⟩
      rw [← hpe] at hix hpos ⊢
      obtain ⟨TS, hTS⟩ : ∃ TS, TS = timesT P := ⟨_, rfl⟩
      rw [← hTS] at htl ⊢
      obtain ⟨n, hnn⟩ : ∃ n, n = ns.length := ⟨_, rfl⟩
      have hn9 : n ≤ 200 := by rw [hnn]; exact h1
      have hn0 : 0 < n := by rw [hnn]; omega
      rw [← hnn] at htl hpos
      obtain ⟨M, hM⟩ : ∃ M, M = P.length := ⟨_, rfl⟩
      have hM9 : M ≤ 61 := by rw [hM]; exact h2.2
      have HIX := Lib.hid hix; have HRUN := Lib.hid hrun; have HTL := Lib.hid htl; have HTS := Lib.hid hTS; have HNN := Lib.hid hnn; have HM := Lib.hid hM; have H2 := Lib.hid h2; have H0 := Lib.hid h0
      clear hR et hin hix hrun htl hTS hnn hM h2 hP hpe h0 h1
      go_enter Try.func30, Try.ntmps30
      go_wp2_with fail
      refine (HA.out w).mono ?_
      rintro e w1 hpost
      have hB1 := hpost.2.2
      obtain ⟨tp, nd, xb, v0, v1, v2, rfl, hT, hRM⟩ := hpost.2.1 ns rfl
      obtain ⟨hrows, rfl, hxb, hmem⟩ := hRM
      have hbl : xb.length = M := by rw [hxb, HM.out]; simp
      obtain ⟨gb, cb, rfl, _, hgb⟩ := ints_posI hT.begin_ (by intro e; have := congrArg List.length e; rw [natsI_len, hxb] at this; simp at this; exact H2.out.1 this)
      have hbc : ∀ k (hk : k < P.length), w1.cell? ⟨gb, k, none⟩ = some (.int .i64 (posN P[k] ns : Nat)) ∧ posN P[k] ns < n := fun k hk => by
        refine ⟨?_, by rw [HNN.out]; exact posN_mem.2 (hmem _ (List.getElem_mem hk))⟩
        have := (ints_at hT.begin_ (j := k) (by rw [natsI_len, hxb]; simpa using hk)).1
        rw [this]
        simp [natsI, hxb, List.getD, List.getElem?_eq_getElem hk]
      obtain ⟨am, cm, rfl⟩ := own_slice hT.names
      have x0 := hT.cell0
      have x1 := hT.cell1
      have x2 := hT.cell2
      have htp := hT.lt
      rw [← HNN.out] at x0
      rw [natsI_len, hbl] at x2
      have hrw : ∀ k, k < n → ∃ gD cD gr cr, v1 = .slice (some ⟨gD, 0, none⟩) n cD ∧ gD < w1.heap.size ∧ w1.cell? ⟨gD, k, none⟩ = some (.slice (some ⟨gr, 0, none⟩) (rowN ns k).length cr) ∧ gr < w1.heap.size ∧
          (∀ i (hi : i < (rowN ns k).length), w1.cell? ⟨gr, i, none⟩ = some (.int .i64 ((rowN ns k)[i] : Nat)) ∧ (rowN ns k)[i] < n) ∧ w.heap.size ≤ gD ∧ w.heap.size ≤ gr := fun k hk => by
        have := RowsX.rowM hrows (k := k) (by rw [← HNN.out]; exact hk)
        rw [← HNN.out] at this
        exact this
      have HB1 := Lib.hid hB1; have HT := Lib.hid hT; have HBC := Lib.hid hbc; have HRW := Lib.hid hrw
      clear hpost hB1 HA hT hrows hxb hmem hbl hbc hrw
      go_wp2_with fail
      refine (HIX.out w1 w.heap.size tp _ xb _ v1 _ HT.out).mono ?_
      rintro e w2 ⟨rfl, rfl⟩
      go_wp2_with (refine wpList_make_full _ rfl _ _ 30 rfl w1.heap.size 3 i0 (.int .i64 0) 1 Try.underlying30 hi hz0 hz1 .i64 .i64 (n : Int) (n : Int) n rfl rfl rfl rfl (by rw [hz2]; omega) (by unfold maxLen; omega) (Nat.le_refl _) ?_; intro w3 hrow hgr; have HB3 := Lib.hid (below_grownG (Nat.le_refl _) hgr (fun g e => by cases e)); have HR3 := Lib.hid (ints_made hrow); clear hrow hgr)
      go_loopw [37] (fun kv wr => ∃ k : Nat, k ≤ n ∧ kv = .int .i64 k ∧ Hid (Ints wr w1.heap.size (.slice (some ⟨w1.heap.size, 0, none⟩) n n) (List.replicate k (-1) ++ List.replicate (n - k) 0) ∧ Below w1.heap.size w1 wr)) (fun kv _ => n - (intOf kv).toNat)
      case atStart => exact ⟨0, by omega, rfl, Lib.hid ⟨HR3.out, HB3.out⟩⟩
      case round =>
        obtain ⟨k, hk, rfl, HX⟩ := hrel
        obtain ⟨hc, hb⟩ := HX.out
        by_cases hkn : k < n
        · obtain ⟨yk, fk⟩ := ints_at hc hkn
          have HC := Lib.hid hc; have HB := Lib.hid hb
          clear HX hc hb
          go_wp2_with fail
          go_roundw
          case rel =>
            refine ⟨k + 1, by omega, by go_num, Lib.hid ⟨?_, HB.out.setCell (Nat.le_refl _) _⟩⟩
            rw [← neg_set hkn]
            exact ints_put HC.out _ _
          case measure => simp [intOf] <;> omega
        · obtain rfl : k = n := by omega
          have hce : List.replicate k (-1 : Int) ++ List.replicate (k - k) 0 = atL k [] := by rw [at_zero, Nat.sub_self]; simp
          rw [hce] at hc
          have y2 := (hb.cell (p := ⟨tp, 2, none⟩) htp).trans x2
          have HC := Lib.hid hc; have HB := Lib.hid hb
          clear HX hc hb hce
          go_wp2_with fail
          go_loopw [10, 49] (fun qv kv wr => ∃ j : Nat, j ≤ M ∧ kv = .int .i64 j ∧ (∃ ra rc, qv = .slice ra (tmT [] [] 0 (P.take j)).length rc) ∧ Hid (Ints wr w1.heap.size (.slice (some ⟨w1.heap.size, 0, none⟩) k k) (atL k (tmT [] [] 0 (P.take j))) ∧ QR wr (w1.heap.size + 1) qv (tmT [] [] 0 (P.take j)).length ∧ Below w1.heap.size w1 wr)) (fun _ kv _ => M - (intOf kv).toNat)
          case atStart => exact ⟨0, by omega, rfl, ⟨none, 0, rfl⟩, Lib.hid ⟨HC.out, World.ownsRow_nil _ _ _ _, HB.out⟩⟩
          case round =>
            obtain ⟨j, hj, rfl, ⟨ra, rc, rfl⟩, HX⟩ := hrel
            obtain ⟨hc, hq, hb⟩ := HX.out
            by_cases hjm : j < M
            · have hjP : j < P.length := by rw [← HM.out]; exact hjm
              obtain ⟨hcj, hvn⟩ := HBC.out j hjP
              have yj := (hb.cell (p := ⟨gb, j, none⟩) hgb).trans hcj
              have hge := runF_ge _ _ _ _ HRUN.out
              have hst := row_step (t := 0) (ts0 := []) (c0 := []) (ns := ns) hjP rfl (fun p hp => (runF_pos _ _ _ _ HRUN.out p hp).2)
              have hle := row_le (c0 := []) (Q := P) (ts0 := []) (t := 0) (n := k) j rfl (by rw [HNN.out]; exact hge)
              obtain ⟨v, hv⟩ : ∃ v, v = posN P[j] ns := ⟨_, rfl⟩
              rw [← hv] at yj hvn hst
              obtain ⟨tj, htj⟩ : ∃ tj, tj = tmT [] [] 0 (P.take j) := ⟨_, rfl⟩
              rw [← htj] at hst hc hq hle ⊢
              obtain ⟨T, hT⟩ : ∃ T, T = tj.length := ⟨_, rfl⟩
              rw [← hT] at hst hq hle ⊢
              obtain ⟨yv, fv⟩ := ints_at hc hvn
              rcases hst with ⟨hlt, hnx⟩ | ⟨heq, hnx⟩
              · have hval := at_known (n := k) (q := v) (ts := tj) (by rw [← hT]; exact hlt)
                rw [hval] at yv
                obtain ⟨y, hy⟩ : ∃ y, y = tj.getD v 0 := ⟨_, rfl⟩
                rw [← hy] at yv
                have hy0 : (0 : Int) ≤ (y : Nat) := by omega
                have HC := Lib.hid hc; have HQ := Lib.hid hq; have HB := Lib.hid hb; have HNX := Lib.hid hnx; have HT2 := Lib.hid hT
                clear HX hc hq hb hcj hge hv hval hy hnx htj hT
                go_wp2_with fail
                go_roundw
                case rel => exact ⟨j + 1, by omega, by go_num, ⟨ra, rc, by rw [HNX.out, HT2.out]⟩, Lib.hid ⟨by rw [HNX.out]; exact HC.out, by rw [HNX.out, ← HT2.out]; exact HQ.out, HB.out⟩⟩
                case measure => simp [intOf] <;> omega
              · have hval := at_new (n := k) (ts := tj) (by rw [← hT, ← heq]; exact hvn)
                rw [← hT, ← heq] at hval
                rw [hval] at yv
                have hset := at_set (n := k) (t := 0) (ts := tj) (by rw [← hT, ← heq]; exact hvn)
                rw [← hT, ← heq] at hset
                have HQ2 : Hid (QR (wr.setCell ⟨w1.heap.size, v, none⟩ (.int .i64 0)) (w1.heap.size + 1) (.slice ra T rc) T) := Lib.hid (hq.set (by omega))
                have hszr := (ints_len hc).2.1
                have HC := Lib.hid hc; have HQ := Lib.hid hq; have HB := Lib.hid hb; have HNX := Lib.hid hnx; have HT2 := Lib.hid hT; have HEQ := Lib.hid heq; have HSET := Lib.hid hset
                clear HX hc hq hb hcj hge hv hval hnx htj hT heq hset
                go_wp2_with (at_builtin; refine wpList_app _ rfl _ _ 30 rfl (w1.heap.size + 1) 3 i0 (.int .i64 0) 8 Try.underlying30 hi hz0 hz1 hz2 rfl _ T _ rfl (HQ2.out.alloc _) _ 1 1 [.int .i64 (v : Nat)] rfl rfl ?c1 ?c2 ?c3 ?c4 ?c5 ?_)
                case c1 => intro i u hi'; cases i with | zero => (simp at hi'; subst hi'; simp [Addr.add]; (try exact cell_newN _ _ _ _ (by simp))) | succ i => simp at hi'
                case c2 => intro u hu; simp at hu; subst hu; rfl
                case c3 => unfold maxLen; omega
                case c4 => omega
                case c5 => simp; omega
                intro v' w5 hown' hgrow hwh
                obtain ⟨a3, c3, rfl⟩ := own_slice hown'
                have hbb : Below w1.heap.size w1 w5 := (((HB.out.setCell (Nat.le_refl _) _).alloc (by simp; omega) _)).trans (below_grownG (by simp; omega) hgrow (fun g e => by have := (HQ2.out.lt g e).1; omega))
                have hat5 : Ints w5 w1.heap.size (.slice (some ⟨w1.heap.size, 0, none⟩) k k) (atL k (tj ++ [0])) := by
                  rw [← HSET.out]
                  have h5 := World.ownsRow.alloc (ints_put HC.out v 0) (.cells #[.int .i64 (v : Nat)] 3 (0, 0))
                  exact own_block h5 (fun g e => hgrow.block g (h5.lt g e).2 (fun e2 => by have := (HQ2.out.lt g e2.symm).1; simp only [Value.ownBlock, Option.some.injEq] at e; omega))
                have hq5 : QR w5 (w1.heap.size + 1) (.slice a3 (T + 1) c3) (T + 1) := by
                  have h := hown'
                  rw [HEQ.out] at h
                  exact QR.snoc h
                have HO := Lib.hid hq5; have HBB := Lib.hid hbb; have HAT5 := Lib.hid hat5
                clear hown' hgrow hwh hbb hat5 hq5
                go_wp2_with fail
                go_roundw
                case rel => exact ⟨j + 1, by omega, by go_num, ⟨a3, c3, by rw [HNX.out, List.length_append, ← HT2.out]; rfl⟩, Lib.hid ⟨by rw [HNX.out]; exact HAT5.out, by rw [HNX.out, List.length_append, ← HT2.out]; exact HO.out, HBB.out⟩⟩
                case measure => simp [intOf] <;> omega
            · obtain rfl : j = M := by omega
              have hfull : P.take j = P := List.take_of_length_le (by rw [← HM.out]; exact Nat.le_refl _)
              rw [hfull] at hc hq ⊢
              have hbfs : BfsAt ns TS 0 (nmT [] P) (tmT [] [] 0 P) := ⟨by omega, HRUN.out, HTS.out.symm, tmT_len _ _ _ _ rfl, tmT_le _ _ _ _ 0 (by simp) (by omega), by omega⟩
              obtain ⟨t0, ht0⟩ : ∃ t0, t0 = tmT [] [] 0 P := ⟨_, rfl⟩
              rw [← ht0] at hc hq hbfs ⊢
              have HC := Lib.hid hc; have HQ := Lib.hid hq; have HB := Lib.hid hb; have HBFS := Lib.hid hbfs
              have hszr := (ints_len hc).2.1
              clear HX hc hq hb hfull hbfs ht0 y2
              go_wp2_with fail
              go_loopw [10, 13] (fun qv kv wr => ∃ (i : Nat) (cur : List (List UInt8)) (ts : List Nat), i ≤ k ∧ kv = .int .i64 i ∧ (∃ ra rc, qv = .slice ra ts.length rc) ∧ Hid (BfsAt ns TS i cur ts ∧ Ints wr w1.heap.size (.slice (some ⟨w1.heap.size, 0, none⟩) k k) (atL k ts) ∧ QR wr (w1.heap.size + 1) qv ts.length ∧ Below w1.heap.size w1 wr)) (fun _ kv _ => k - (intOf kv).toNat)
              case atStart => exact ⟨0, nmT [] P, t0, by omega, rfl, ⟨ra, rc, rfl⟩, Lib.hid ⟨HBFS.out, HC.out, HQ.out, HB.out⟩⟩
              case round =>
                obtain ⟨i, cur, ts, hik, rfl, ⟨ra, rc, rfl⟩, HX⟩ := hrel
                obtain ⟨hbfs, hc, hq, hb⟩ := HX.out
                have hle := hbfs.len
                rw [← HNN.out] at hle
                obtain ⟨T, hT⟩ : ∃ T, T = ts.length := ⟨_, rfl⟩
                rw [← hT] at hq hle ⊢
                by_cases hiT : i < T
                · obtain ⟨p, tk, hcp, hnp, htk, htki, hnl, hps, hnext, htcl⟩ := hbfs.next (by rw [← HNN.out]; exact hn9) (by rw [← hT]; exact hiT)
                  obtain ⟨gD, cD, gr, cr, hv1, hgD, hcD, hgr, hrc, _, _⟩ := HRW.out i (by omega)
                  subst hv1
                  obtain ⟨gq, cq, heq, yqk, hgq, hgqB⟩ := hq.at_ hiT
                  cases heq
                  have y1 := (hb.cell (p := ⟨tp, 1, none⟩) htp).trans x1
                  have yD := (hb.cell (p := ⟨gD, i, none⟩) hgD).trans hcD
                  have hrn := rowN_get hnp
                  rw [hrn] at yD hrc
                  rw [← HNN.out] at hnl
                  obtain ⟨Q, hQ⟩ : ∃ Q, Q = sdP p := ⟨_, rfl⟩
                  obtain ⟨q1, q2⟩ := H0.out.1 _ (List.mem_of_getElem? hnp)
                  have hQ9 := (sd_ok q1 q2).2.1
                  rw [← hQ] at hnl hps hnext hQ9
                  have hrc2 : ∀ j (hj : j < Q.length), w1.cell? ⟨gr, j, none⟩ = some (.int .i64 (posN Q[j] ns : Nat)) ∧ posN Q[j] ns < k := fun j hj => by
                    have hj2 : j < (linkL ns p).length := by rw [linkL_len, ← hQ]; exact hj
                    have h := hrc j hj2
                    have e : (linkL ns p)[j] = posN Q[j] ns := by simp [linkL, hQ]
                    rw [e] at h
                    exact h
                  rw [linkL_len, ← hQ] at yD
                  obtain ⟨L, hL⟩ : ∃ L, L = Q.length := ⟨_, rfl⟩
                  rw [← hL] at yD hQ9
                  have HC := Lib.hid hc; have HQ := Lib.hid hq; have HB := Lib.hid hb; have HNL := Lib.hid hnl; have HPS := Lib.hid hps; have HNEXT := Lib.hid hnext; have HTK := Lib.hid htk; have HRC := Lib.hid hrc2; have HL := Lib.hid hL; have HT2 := Lib.hid hT; have HTCL := Lib.hid htcl
                  clear HX hc hq hb hbfs hcp hnp htk hnl hps hnext hcD hrc hrn hQ q1 q2 hrc2 hL hT htcl
                  go_wp2_with fail
                  go_quiet (fail)
                  go_wp2_with fail
                  go_loopw [10, 83] (fun qv kv wz => ∃ j : Nat, j ≤ L ∧ kv = .int .i64 j ∧ (∃ ra rc, qv = .slice ra (tmT cur ts (tk + 1) (Q.take j)).length rc) ∧ Hid (Ints wz w1.heap.size (.slice (some ⟨w1.heap.size, 0, none⟩) k k) (atL k (tmT cur ts (tk + 1) (Q.take j))) ∧ QR wz (w1.heap.size + 1) qv (tmT cur ts (tk + 1) (Q.take j)).length ∧ Below w1.heap.size w1 wz)) (fun _ kv _ => L - (intOf kv).toNat)
                  case atStart => exact ⟨0, by omega, rfl, ⟨_, _, by rw [HT2.out]; rfl⟩, Lib.hid ⟨HC.out, by rw [show (tmT cur ts (tk + 1) (Q.take 0)).length = T from HT2.out.symm]; exact HQ.out, ⟨HB.out.os, HB.out.tape, HB.out.output, HB.out.size, HB.out.block⟩⟩⟩
                  case round =>
                    obtain ⟨j, hj, rfl, ⟨ra, rc, rfl⟩, HX⟩ := hrel
                    obtain ⟨hc, hq, hb⟩ := HX.out
                    by_cases hjl : j < L
                    · have hjQ : j < Q.length := by rw [← HL.out]; exact hjl
                      obtain ⟨hcj, hvn⟩ := HRC.out j hjQ
                      have yj := (hb.cell (p := ⟨gr, j, none⟩) hgr).trans hcj
                      have hst := row_step (t := tk + 1) (ts0 := ts) (c0 := cur) (ns := ns) hjQ HTCL.out HPS.out
                      have hle2 := row_le (c0 := cur) (Q := Q) (ts0 := ts) (t := tk + 1) (n := k) j HTCL.out HNL.out
                      have hgk := tmT_get (t := tk + 1) (Q.take j) cur ts HTK.out
                      obtain ⟨v, hv⟩ : ∃ v, v = posN Q[j] ns := ⟨_, rfl⟩
                      rw [← hv] at yj hvn hst
                      obtain ⟨tj, htj⟩ : ∃ tj, tj = tmT cur ts (tk + 1) (Q.take j) := ⟨_, rfl⟩
                      rw [← htj] at hst hc hq hle2 hgk ⊢
                      have hkt := (List.getElem?_eq_some_iff.1 hgk).1
                      have hvk := at_known (n := k) (ts := tj) hkt
                      rw [show tj.getD i 0 = tk by simp [List.getD, hgk]] at hvk
                      obtain ⟨T2, hT2⟩ : ∃ T2, T2 = tj.length := ⟨_, rfl⟩
                      rw [← hT2] at hst hq hle2 hkt ⊢
                      obtain ⟨yv, fv⟩ := ints_at hc hvn
                      have yk := (ints_at hc (show i < k by omega)).1
                      rw [hvk] at yk
                      rcases hst with ⟨hlt, hnx⟩ | ⟨heq, hnx⟩
                      · have hval := at_known (n := k) (q := v) (ts := tj) (by rw [← hT2]; exact hlt)
                        rw [hval] at yv
                        obtain ⟨y, hy⟩ : ∃ y, y = tj.getD v 0 := ⟨_, rfl⟩
                        rw [← hy] at yv
                        have hy0 : (0 : Int) ≤ (y : Nat) := by omega
                        have HC2 := Lib.hid hc; have HQ3 := Lib.hid hq; have HB2 := Lib.hid hb; have HNX := Lib.hid hnx; have HT3 := Lib.hid hT2
                        clear HX hc hq hb hcj hv hval hy hnx htj hT2 hvk hgk
                        go_wp2_with fail
                        go_roundw
                        case rel => exact ⟨j + 1, by omega, by go_num, ⟨ra, rc, by rw [HNX.out, HT3.out]⟩, Lib.hid ⟨by rw [HNX.out]; exact HC2.out, by rw [HNX.out, ← HT3.out]; exact HQ3.out, HB2.out⟩⟩
                        case measure => simp [intOf] <;> omega
                      · have hval := at_new (n := k) (ts := tj) (by rw [← hT2, ← heq]; exact hvn)
                        rw [← hT2, ← heq] at hval
                        rw [hval] at yv
                        have hset := at_set (n := k) (t := tk + 1) (ts := tj) (by rw [← hT2, ← heq]; exact hvn)
                        rw [← hT2, ← heq, show ((tk + 1 : Nat) : Int) = (tk : Int) + 1 by omega] at hset
                        obtain ⟨gq2, cq2, heq2, yqk2, hgq2, hgqB2⟩ := hq.at_ hkt
                        cases heq2
                        have HQ2 : Hid (∀ x, QR (wr.setCell ⟨w1.heap.size, v, none⟩ x) (w1.heap.size + 1) (.slice (some ⟨gq2, 0, none⟩) T2 rc) T2) := Lib.hid (fun x => hq.set (by omega))
                        have hszr := (ints_len hc).2.1
                        have htk9 : tk ≤ 200 := by omega
                        have HC2 := Lib.hid hc; have HB2 := Lib.hid hb; have HNX := Lib.hid hnx; have HT3 := Lib.hid hT2; have HEQ := Lib.hid heq; have HSET := Lib.hid hset
                        clear HX hc hq hb hcj hv hval hnx htj hT2 heq hset hvk hgk
                        go_wp2_with (at_builtin; refine wpList_app _ rfl _ _ 30 rfl (w1.heap.size + 1) 3 i0 (.int .i64 0) 8 Try.underlying30 hi hz0 hz1 hz2 rfl _ T2 _ rfl ((HQ2.out _).alloc _) _ 1 1 [.int .i64 (v : Nat)] rfl rfl ?c1 ?c2 ?c3 ?c4 ?c5 ?_)
                        case c1 => intro i u hi'; cases i with | zero => (simp at hi'; subst hi'; simp [Addr.add]; (try exact cell_newN _ _ _ _ (by simp))) | succ i => simp at hi'
                        case c2 => intro u hu; simp at hu; subst hu; rfl
                        case c3 => unfold maxLen; omega
                        case c4 => omega
                        case c5 => simp; omega
                        intro v' w5 hown' hgrow hwh
                        obtain ⟨a3, c3, rfl⟩ := own_slice hown'
                        have hbb : Below w1.heap.size w1 w5 := (((HB2.out.setCell (Nat.le_refl _) _).alloc (by simp; omega) _)).trans (below_grownG (by simp; omega) hgrow (fun g e => by have := ((HQ2.out (.int .i64 0)).lt g e).1; omega))
                        have hat5 : Ints w5 w1.heap.size (.slice (some ⟨w1.heap.size, 0, none⟩) k k) (atL k (tj ++ [tk + 1])) := by
                          rw [← HSET.out]
                          have h5 := World.ownsRow.alloc (ints_put HC2.out v ((tk : Int) + 1)) (.cells #[.int .i64 (v : Nat)] 3 (0, 0))
                          exact own_block h5 (fun g e => hgrow.block g (h5.lt g e).2 (fun e2 => by have := ((HQ2.out (.int .i64 0)).lt g e2.symm).1; simp only [Value.ownBlock, Option.some.injEq] at e; omega))
                        have hq5 : QR w5 (w1.heap.size + 1) (.slice a3 (T2 + 1) c3) (T2 + 1) := by
                          have h := hown'
                          rw [HEQ.out] at h
                          exact QR.snoc h
                        have HO := Lib.hid hq5; have HBB := Lib.hid hbb; have HAT5 := Lib.hid hat5
                        clear hown' hgrow hwh hbb hat5 hq5
                        go_wp2_with fail
                        go_roundw
                        case rel => exact ⟨j + 1, by omega, by go_num, ⟨a3, c3, by rw [HNX.out, List.length_append, ← HT3.out]; rfl⟩, Lib.hid ⟨by rw [HNX.out]; exact HAT5.out, by rw [HNX.out, List.length_append, ← HT3.out]; exact HO.out, HBB.out⟩⟩
                        case measure => simp [intOf] <;> omega
                    · obtain rfl : j = L := by omega
                      have hfq : Q.take j = Q := List.take_of_length_le (by rw [← HL.out]; exact Nat.le_refl _)
                      rw [hfq] at hc hq ⊢
                      have HC2 := Lib.hid hc; have HQ3 := Lib.hid hq; have HB2 := Lib.hid hb
                      clear HX hc hq hb hfq
                      go_wp2_with fail
                      go_roundw
                      case rel => exact ⟨i + 1, nmT cur Q, tmT cur ts (tk + 1) Q, by omega, by go_num, ⟨ra, rc, rfl⟩, Lib.hid ⟨HNEXT.out, HC2.out, HQ3.out, HB2.out⟩⟩
                      case measure => simp [intOf] <;> omega
                · have hfin := hbfs.fin (by rw [← hT]; exact hiT)
                  rw [hfin] at hc
                  have hval := at_known (n := k) (q := pos) (ts := TS) (by rw [HTL.out]; exact hpos)
                  have ypos := (ints_at hc hpos).1
                  rw [hval] at ypos
                  have HIX2 := Lib.hid (HIX.out wr w.heap.size tp _ xb _ v1 _ (HT.out.below hb))
                  have HB := Lib.hid hb
                  clear HX hc hq hb hbfs hfin hval
                  go_wp2_with fail
                  refine HIX2.out.mono ?_
                  rintro e w5 ⟨rfl, rfl⟩
                  go_wp2_with fail
                  go_ret2
                  exact ⟨rfl, HB1.out.trans (HB.out.mono HB1.out.size)⟩
    · have HB : Hid (Ending.returned (.tuple #[.int .i64 (ftV l x), .bool (ftB l x)]) = .returned (.tuple #[.int .i64 0, .bool false])) := Lib.hid (by unfold ftV ftB; rw [hR]; simp [hin])
      rw [hR] at HA
      rw [HB.out]
      have hix := fun (W : World) (n₀ tp nd : Nat) (xb : List Nat) (v0 v1 v2 : Value) (hT : TabM W n₀ tp ns nd xb v0 v1 v2) => elIndex_any W n₀ tp nd xb v0 v1 v2 ns x hT (by omega) (-1) (by rw [if_neg hin])
      rw [← et] at hix
      have HIX := Lib.hid hix
      clear hR et hin hix
      go_enter Try.func30, Try.ntmps30
      go_wp2_with fail
      refine (HA.out w).mono ?_
      rintro e w1 hpost
      have HB1 := Lib.hid hpost.2.2
      obtain ⟨tp, nd, xb, v0, v1, v2, rfl, hT, hRM⟩ := hpost.2.1 ns rfl
      have HT := Lib.hid hT
      clear hpost HA hT hRM
      go_wp2_with fail
      refine (HIX.out w1 w.heap.size tp nd xb v0 v1 v2 HT.out).mono ?_
      rintro e w2 ⟨rfl, rfl⟩
      go_wp2_with fail
      go_ret2
      exact ⟨rfl, HB1.out⟩
end Go.Proofs.Ytgmknehioadjhaa
