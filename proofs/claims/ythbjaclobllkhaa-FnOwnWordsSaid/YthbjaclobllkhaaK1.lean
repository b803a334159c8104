/- The runs of a text told one by one: the program's runParts. -/
import Derived.Test.YthbjaclobllkhaaR1
import Derived.RangeFuncNested
import Derived.RangeFuncBound
import Derived.RangeFuncCalls
import Derived.RangeFuncLeaves
import Derived.RangeFuncBox
import Derived.Shelf.Abstract
import Derived.Shelf.RegionOpen
import Derived.WalkKit
import Derived.OwnWalkIn
import Derived.TacticsInMore
import Derived.LoopNIn
import Derived.LoopIn
import Derived.Maps.AppendAt
import Derived.BigQuiet
import Derived.Deep.QuietTactic
import Derived.Deep.DeepCutAuto
namespace Go.Proofs.Ythbjaclobllkhaa
open Go.RowKit Go.BigFrame Go.Shelf
set_option linter.unusedSimpArgs false
set_option linter.unusedVariables false
set_option maxRecDepth 4000
attribute [local go_sem] Oper.semAt_some

/-- How many digits runs have together. -/
def cntR (rs : List (UInt8 × Nat)) : Nat := (rs.map (·.2)).sum
theorem cntR_snoc (rs : List (UInt8 × Nat)) (d : UInt8) (n : Nat) : cntR (rs ++ [(d, n)]) = cntR rs + n := by simp [cntR]
/-- The first m places of N. -/
def upF (N m : Nat) : List (Fin N) := (List.finRange N).take m
theorem upF_succ {N m : Nat} (h : m < N) : upF N (m + 1) = upF N m ++ [⟨m, h⟩] := by
  unfold upF
  rw [List.take_succ_eq_append_getElem (by simpa using h)]
  simp
theorem upF_len {N m : Nat} (h : m ≤ N) : (upF N m).length = m := by
  unfold upF; rw [List.length_take, List.length_finRange]; omega
theorem upF_zero (N : Nat) : upF N 0 = [] := rfl
/-- Two blocks lie as they lay. -/
def KeepsTwo (p q : Nat) (W W' : World) : Prop := W'.heap[p]? = W.heap[p]? ∧ W'.heap[q]? = W.heap[q]?
theorem keepsTwo_t {p q : Nat} {A B C : World} (h : KeepsTwo p q A B) (k : KeepsTwo p q B C) : KeepsTwo p q A C := ⟨k.1.trans h.1, k.2.trans h.2⟩
theorem keepsTwo_refl (p q : Nat) (W : World) : KeepsTwo p q W W := ⟨rfl, rfl⟩
theorem keepsTwo_b {p q m : Nat} (hp : p < m) (hq : q < m) (W : World) (l : Nat) (o o' : Obj) (hl : m ≤ l) (_ : W.heap[l]? = some o) (_ : o.isCells = false) (_ : o.isWalk = false) : KeepsTwo p q W (W.putObj l o') :=
  ⟨World.putObj_heap_other (by omega), World.putObj_heap_other (by omega)⟩
theorem keepsTwo_below {p q m : Nat} {W W' : World} (hb : Below m W W') (hp : p < m) (hq : q < m) : KeepsTwo p q W W' := ⟨hb.block p hp, hb.block q hq⟩
/-- The part of block b that is run k. -/
def partEnc (b : Nat) (rs : List (UInt8 × Nat)) (k : Fin rs.length) : Array Value := #[.slice (some ⟨b, cntR (rs.take k), none⟩) rs[k].2 rs[k].2]

theorem runs_close {l : List UInt8} {k m q : Nat} {d : UInt8} {rs : List (UInt8 × Nat)} (hrs : rs = runsL l) (hm : m < rs.length) (h : runsL (l.take k) = rs.take m ++ [(d, q)])
    (hc : k = l.length ∨ ∃ h2 : k < l.length, l[k] ≠ d) : rs[m]? = some (d, q) ∧ (k = l.length → m + 1 = rs.length) ∧ (k < l.length → m + 1 < rs.length) := by
  rcases hc with hk | ⟨h2, hne⟩
  · have e : rs = rs.take m ++ [(d, q)] := by rw [← h, hrs, List.take_of_length_le (by omega)]
    have hl : rs.length = m + 1 := by
      have := congrArg List.length e
      rw [List.length_append, List.length_take, Nat.min_eq_left (Nat.le_of_lt hm)] at this
      simpa using this
    refine ⟨?_, fun _ => by omega, fun hx => by omega⟩
    rw [e, List.getElem?_append_right (by rw [List.length_take]; omega), List.length_take, Nat.min_eq_left (Nat.le_of_lt hm), Nat.sub_self]; rfl
  · have hp : (runsL (l.take (k + 1))).dropLast <+: runsL l := runs_prefix (List.take_prefix _ _)
    have e1 : runsL (l.take (k + 1)) = rs.take m ++ [(d, q)] ++ [(l[k], 1)] := by
      rw [List.take_succ_eq_append_getElem h2, runsL_snoc, h, stepRun_other _ _ _ _ (fun e => hne e.symm)]
    have h3 : rs.take m ++ [(d, q)] ++ [(l[k], 1)] <+: runsL (l.take (k + 1)) := by rw [e1]; exact List.prefix_refl _
    have hlen : (rs.take m).length = m := by rw [List.length_take]; omega
    have hge : m + 2 ≤ rs.length := by
      -- the runs of the whole are no fewer than those of a part
      have h4 : (runsL (l.take (k + 1))).length ≤ (runsL l).length := by
        obtain ⟨t, ht⟩ := List.take_prefix (k + 1) l
        have h5 := fold_prefix t (runsL (l.take (k + 1)))
        have h6 : t.foldl stepRun (runsL (l.take (k + 1))) = runsL l := by
          conv => rhs; rw [← ht]
          unfold runsL; rw [List.foldl_append]
        rw [h6] at h5
        have h7 := h5.1.length_le
        have h8 : (runsL (l.take (k + 1))) ≠ [] := by rw [e1]; simp
        have h9 : ¬ (runsL (l.take (k + 1))).dropLast.length = (runsL l).length := fun e => h8 (h5.2 e)
        have h10 : (runsL (l.take (k + 1))).dropLast.length = (runsL (l.take (k + 1))).length - 1 := by simp
        omega
      rw [e1] at h4
      rw [hrs]
      simp only [List.length_append, List.length_cons, List.length_nil] at h4
      omega
    rw [e1] at hp
    simp only [List.dropLast_concat] at hp
    refine ⟨?_, fun hx => by omega, fun _ => by omega⟩
    rw [hrs]
    obtain ⟨t, ht⟩ := hp
    rw [← ht, List.getElem?_append_left (by rw [List.length_append, hlen]; simp), List.getElem?_append_right (by omega), hlen, Nat.sub_self]; rfl

set_option maxRecDepth 100000 in
set_option maxHeartbeats 2000000 in
theorem runParts1_in (nn : Nat) (hnn : 1 ≤ nn) (l : List UInt8) (rs : List (UInt8 × Nat)) (hrs : rs = runsL l) (lp Bs b cap : Nat) (hl1 : 1 ≤ l.length) (hl : l.length ≤ 200000) (hcap : l.length ≤ cap) (hcm : cap ≤ maxLen) (J Jx : List (Fin rs.length) → World → Prop)
    (hY : ∀ pre x W, J pre W → pre.length < rs.length → YieldAt Fence.wide (nn - 1) Try.prog lp (partEnc b rs x) W fun e W' =>
      (e = .returned (.bool true) ∧ J (pre ++ [x]) W' ∧ KeepsTwo Bs b W W') ∨ (e = .returned (.bool false) ∧ Jx (pre ++ [x]) W'))
    (W : World) (hBs : W.cell? ⟨Bs, 0, none⟩ = some (.slice (some ⟨b, 0, none⟩) l.length cap)) (hc : ∀ i (h : i < l.length), W.cell? ⟨b, i, none⟩ = some (.int .u8 (l[i].toNat : Int))) (hJd : ∀ s W n, J s W → J s (W.drewN n)) (h0 : J [] W) :
    CallsIn Fence.wide nn Try.prog 56 #[.func (.yield lp) #[] #[], .pointer (some ⟨Bs, 0, none⟩)] W fun e W' => (∃ v, e = .returned v) ∧
      ((∃ ys, ys = upF rs.length rs.length ∧ J ys W') ∨ (∃ pre, (∃ k, k ≤ rs.length ∧ pre = upF rs.length k) ∧ Jx pre W')) := by
  unfold maxLen at hcm
  have HC := Lib.hid hc; clear hc
  have HBs := Lib.hid hBs; clear hBs
  obtain ⟨n, hn⟩ : ∃ n, n = l.length := ⟨_, rfl⟩
  have HN := Lib.hid hn; have HRS := Lib.hid hrs
  rw [← hn] at hl1 hl hcap
  clear hn hrs
  refine callsIn_wide.2 ?_
  go_enter Try.func56, Try.ntmps56
  go_wp2_with fail
  go_loopw [3, 4] (fun st en wr => ∃ k j m : Nat, en = .int .i64 k ∧ st = .int .i64 j ∧ Hid (KeepsTwo Bs b W wr) ∧ Hid (J (upF rs.length m) wr) ∧
      ((k ≤ n ∧ j < k ∧ m < rs.length ∧ ∃ d : UInt8, Hid (runsL (l.take k) = rs.take m ++ [(d, k - j)] ∧ cntR (rs.take m) = j ∧ l[j]? = some d)) ∨ (k = n + 1 ∧ m = rs.length)))
    (fun _ en _ => n + 1 - (intOf en).toNat)
  case atStart =>
    have h1 : 0 < l.length := by rw [← HN.out]; omega
    refine ⟨1, 0, 0, rfl, rfl, keepsTwo_refl _ _ _, h0, .inl ⟨hl1, by omega, ?_, l[0], ⟨?_, rfl, by simp [h1]⟩⟩⟩
    · have := runs_ne (l := l) (by intro e; rw [e] at h1; simp at h1)
      rw [← HRS.out] at this
      exact Nat.pos_of_ne_zero (fun e => this (List.eq_nil_of_length_eq_zero e))
    · have : l.take 1 = [l[0]] := by rw [List.take_succ_eq_append_getElem h1]; rfl
      rw [this]; rfl
  case round =>
    obtain ⟨k, j, m, rfl, rfl, HK, HJ, hrel | hrel⟩ := hrel
    · obtain ⟨hk, hj, hm, d, HP⟩ := hrel
      have hb1 : wr.cell? ⟨Bs, 0, none⟩ = some (.slice (some ⟨b, 0, none⟩) n cap) := (World.cell?_of_block (w := W) HK.out.1).trans (by rw [HN.out]; exact HBs.out)
      by_cases hend : k = n
      · subst hend
        have hd : decide ((k : Int) < (k : Int)) = false := by simp
        have hg := runs_close HRS.out hm HP.out.1 (.inl HN.out)
        have hr1 : rs[m] = (d, k - j) := by have := hg.1; rw [List.getElem?_eq_getElem hm] at this; exact Option.some.inj this
        have hm1 : m + 1 = rs.length := hg.2.1 HN.out
        have henc : partEnc b rs ⟨m, hm⟩ = #[.slice (some ⟨b, j, none⟩) (k - j) (k - j)] := by
          unfold partEnc; simp only [Fin.getElem_fin, hr1]; rw [HP.out.2.1]
        have HY := Lib.hid (fun n => hY (upF rs.length m) ⟨m, hm⟩ (wr.drewN n) (hJd _ _ n HJ.out) (by rw [upF_len (Nat.le_of_lt hm)]; exact hm))
        have HU := Lib.hid (upF_succ hm); have HE := Lib.hid henc; have HM1 := Lib.hid hm1
        clear hg hr1 henc hm1
        go_wp2_with fail
        go_quiet (fail)
        have hb2 : (wr.drewN nq).cell? ⟨Bs, 0, none⟩ = some (.slice (some ⟨b, 0, none⟩) k cap) := hb1
        have HK2 : Hid (KeepsTwo Bs b W (wr.drewN nq)) := HK.out
        obtain ⟨fn, tmps, assign, body, hy, hR⟩ := HY.out nq
        rw [HE.out] at hy
        generalize wr.drewN nq = wq at *
        clear hb1 HK HJ HY hd
        go_upto_region 5 with (fail)
        refine (wpIn_wide (n := nn)).1 ?_
        gi_wp2
        refine hR.mono ?_
        rintro e W3 (⟨rfl, hJ3, hk3⟩ | ⟨rfl, hJx3⟩)
        · have HJ3 := Lib.hid hJ3; have HK3 := Lib.hid hk3; clear hJ3 hk3 hR hy
          gi_wp2
          go_wp2_with fail
          go_roundw
          case rel => exact ⟨k + 1, k, m + 1, by go_num, rfl, keepsTwo_t HK2.out HK3.out, by have := HJ3.out; rw [← HU.out] at this; exact this, .inr ⟨rfl, HM1.out⟩⟩
          case measure => simp [intOf] <;> omega
        · have HJ3 := Lib.hid hJx3; clear hJx3 hR hy
          gi_wp2
          go_wp2_with fail
          refine bodyPost_ret (results_none rfl _ _ _) rfl ?_
          exact ⟨⟨_, rfl⟩, .inr ⟨_, ⟨m + 1, by omega, HU.out.symm⟩, HJ3.out⟩⟩
      · have hkn : k < n := by omega
        have hd : decide ((k : Int) < (n : Int)) = true := by simp; omega
        have hkl : k < l.length := by rw [← HN.out]; exact hkn
        have hjl : j < l.length := by rw [← HN.out]; omega
        have hck : wr.cell? ⟨b, k, none⟩ = some (.int .u8 (l[k].toNat : Int)) := (World.cell?_of_block (w := W) HK.out.2).trans (HC.out k hkl)
        have hcj : wr.cell? ⟨b, j, none⟩ = some (.int .u8 (l[j].toNat : Int)) := (World.cell?_of_block (w := W) HK.out.2).trans (HC.out j hjl)
        have hlj : d = l[j] := by have := HP.out.2.2; simp [hjl] at this; exact this.symm
        have HLJ := Lib.hid hlj; clear hlj
        have htk := Lib.hid (show runsL (l.take (k + 1)) = stepRun (runsL (l.take k)) l[k] by rw [List.take_succ_eq_append_getElem hkl, runsL_snoc])
        by_cases hs : l[k] = l[j]
        · have hsb : ((l[k].toNat : Int) == (l[j].toNat : Int)) = true := by rw [hs]; simp
          have HS := Lib.hid hs; clear hs
          go_wp2_with fail
          go_quiet (fail)
          go_wp2_with fail
          go_roundw
          case rel =>
            refine ⟨k + 1, j, m, by go_num, rfl, HK.out, hJd _ _ _ HJ.out, .inl ⟨by omega, by omega, hm, d, ?_, HP.out.2.1, HP.out.2.2⟩⟩
            rw [htk.out, HP.out.1, HS.out, ← HLJ.out, stepRun_same]
            congr 3; omega
          case measure => simp [intOf] <;> omega
        · have hsb : ((l[k].toNat : Int) == (l[j].toNat : Int)) = false := by
            simp; intro e; exact hs (UInt8.toNat_inj.1 (by omega))
          have hg := runs_close HRS.out hm HP.out.1 (.inr ⟨hkl, by rw [HLJ.out]; exact hs⟩)
          have hr1 : rs[m] = (d, k - j) := by have := hg.1; rw [List.getElem?_eq_getElem hm] at this; exact Option.some.inj this
          have hm1 : m + 1 < rs.length := hg.2.2 hkl
          have henc : partEnc b rs ⟨m, hm⟩ = #[.slice (some ⟨b, j, none⟩) (k - j) (k - j)] := by
            unfold partEnc; simp only [Fin.getElem_fin, hr1]; rw [HP.out.2.1]
          have hnext : Hid (runsL (l.take (k + 1)) = rs.take (m + 1) ++ [(l[k], k + 1 - k)] ∧ cntR (rs.take (m + 1)) = k) := by
            have e1 : rs.take (m + 1) = rs.take m ++ [(d, k - j)] := by rw [List.take_succ_eq_append_getElem hm, hr1]
            refine ⟨?_, ?_⟩
            · rw [htk.out, HP.out.1, stepRun_other _ _ _ _ (by rw [HLJ.out]; exact fun e => hs e.symm), e1]
              congr 3; omega
            · rw [e1, cntR_snoc, HP.out.2.1]; omega
          have HY := Lib.hid (fun n => hY (upF rs.length m) ⟨m, hm⟩ (wr.drewN n) (hJd _ _ n HJ.out) (by rw [upF_len (Nat.le_of_lt hm)]; exact hm))
          have HU := Lib.hid (upF_succ hm); have HE := Lib.hid henc
          have HS := Lib.hid hs; clear hs
          clear hg hr1 henc
          go_wp2_with fail
          go_quiet (fail)
          have hb2 : (wr.drewN nq).cell? ⟨Bs, 0, none⟩ = some (.slice (some ⟨b, 0, none⟩) n cap) := hb1
          have HK2 : Hid (KeepsTwo Bs b W (wr.drewN nq)) := HK.out
          obtain ⟨fn, tmps, assign, body, hy, hR⟩ := HY.out nq
          rw [HE.out] at hy
          generalize wr.drewN nq = wq at *
          clear hb1 HK HJ HY hd hck hcj hsb
          go_upto_region 5 with (fail)
          refine (wpIn_wide (n := nn)).1 ?_
          gi_wp2
          refine hR.mono ?_
          rintro e W3 (⟨rfl, hJ3, hk3⟩ | ⟨rfl, hJx3⟩)
          · have HJ3 := Lib.hid hJ3; have HK3 := Lib.hid hk3; clear hJ3 hk3 hR hy
            gi_wp2
            go_wp2_with fail
            go_roundw
            case rel => exact ⟨k + 1, k, m + 1, by go_num, rfl, keepsTwo_t HK2.out HK3.out, by have := HJ3.out; rw [← HU.out] at this; exact this, .inl ⟨by omega, by omega, hm1, l[k], hnext.out.1, hnext.out.2, by simp [hkl]⟩⟩
            case measure => simp [intOf] <;> omega
          · have HJ3 := Lib.hid hJx3; clear hJx3 hR hy
            gi_wp2
            go_wp2_with fail
            refine bodyPost_ret (results_none rfl _ _ _) rfl ?_
            exact ⟨⟨_, rfl⟩, .inr ⟨_, ⟨m + 1, by omega, HU.out.symm⟩, HJ3.out⟩⟩
    · obtain ⟨rfl, rfl⟩ := hrel
      have hb1 : wr.cell? ⟨Bs, 0, none⟩ = some (.slice (some ⟨b, 0, none⟩) n cap) := (World.cell?_of_block (w := W) HK.out.1).trans (by rw [HN.out]; exact HBs.out)
      go_wp2_with fail
      go_end0
      exact ⟨⟨_, rfl⟩, .inl ⟨_, rfl, HJ.out⟩⟩

theorem runParts_is (a : Option Addr) (len cap : Nat) (w : World) :
    Calls Try.prog 39 #[.slice a len cap] w fun e w' => e = .returned (.func (.func 56) #[] #[.pointer (some ⟨w.heap.size, 0, none⟩)]) ∧ w' = w.alloc (.cells #[.slice a len cap] 22) := by
  go_enter Try.func39, Try.ntmps39
  go_wp2
  go_ret
  exact ⟨rfl, rfl⟩

/-- What runParts hands back tells all runs, in order, or the first of them. -/
theorem runParts_stops (nn : Nat) (hnn : 1 ≤ nn) (l : List UInt8) (rs : List (UInt8 × Nat)) (hrs : rs = runsL l) (Bs b cap : Nat) (hl1 : 1 ≤ l.length) (hl : l.length ≤ 200000) (hcap : l.length ≤ cap) (hcm : cap ≤ maxLen) (w : World)
    (hB : Bs < w.heap.size) (hb : b < w.heap.size) (hBs : w.cell? ⟨Bs, 0, none⟩ = some (.slice (some ⟨b, 0, none⟩) l.length cap)) (hc : ∀ i (h : i < l.length), w.cell? ⟨b, i, none⟩ = some (.int .u8 (l[i].toNat : Int))) :
    SeqStopsK Fence.wide nn Try.prog 56 #[.pointer (some ⟨Bs, 0, none⟩)] (partEnc b rs) (KeepsTwo Bs b) (fun ys => ys = upF rs.length rs.length) (fun pre => ∃ k, k ≤ rs.length ∧ pre = upF rs.length k) rs.length w := fun lp J Jx W hW hJ _ hY h0 =>
  runParts1_in nn hnn l rs hrs lp Bs b cap hl1 hl hcap hcm J Jx hY W ((hW.cell (p := ⟨Bs, 0, none⟩) hB).trans hBs) (fun i h => (hW.cell (p := ⟨b, i, none⟩) hb).trans (hc i h))
    (fun s A n hs => hJ s A _ none hs ⟨rfl, rfl, rfl, Nat.le_refl _, fun _ _ _ => rfl⟩ (fun r e => by cases e)) h0
end Go.Proofs.Ythbjaclobllkhaa
