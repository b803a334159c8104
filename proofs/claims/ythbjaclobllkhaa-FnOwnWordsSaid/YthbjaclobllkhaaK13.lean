/- What runParts hands back, at any text, the empty one too: the law of a loop over it. -/
import Derived.Test.YthbjaclobllkhaaI1
namespace Go.Proofs.Ythbjaclobllkhaa
open Go.RowKit Go.BigFrame Go.Shelf
set_option linter.unusedSimpArgs false
set_option linter.unusedVariables false
set_option maxRecDepth 4000
attribute [local go_sem] Oper.semAt_some

set_option maxRecDepth 100000 in
set_option maxHeartbeats 2000000 in
theorem runParts1_in0 (nn : Nat) (hnn : 1 ≤ nn) (l : List UInt8) (rs : List (UInt8 × Nat)) (hrs : rs = runsL l) (lp Bs b cap : Nat) (hl : l.length ≤ 200000) (hcap : l.length ≤ cap) (hcm : cap ≤ maxLen) (J Jx : List (Fin rs.length) → World → Prop)
    (hY : ∀ pre x W, J pre W → pre.length < rs.length → YieldAt Fence.wide (nn - 1) Try.prog lp (partEnc b rs x) W fun e W' =>
      (e = .returned (.bool true) ∧ J (pre ++ [x]) W' ∧ KeepsTwo Bs b W W') ∨ (e = .returned (.bool false) ∧ Jx (pre ++ [x]) W'))
    (W : World) (hBs : W.cell? ⟨Bs, 0, none⟩ = some (.slice (some ⟨b, 0, none⟩) l.length cap)) (hc : ∀ i (h : i < l.length), W.cell? ⟨b, i, none⟩ = some (.int .u8 (l[i].toNat : Int))) (hJd : ∀ s W n, J s W → J s (W.drewN n)) (h0 : J [] W) :
    CallsIn Fence.wide nn Try.prog 56 #[.func (.yield lp) #[] #[], .pointer (some ⟨Bs, 0, none⟩)] W fun e W' => (∃ v, e = .returned v) ∧
      ((∃ ys, ys = upF rs.length rs.length ∧ J ys W') ∨ (∃ pre, (∃ k, k ≤ rs.length ∧ pre = upF rs.length k) ∧ Jx pre W')) := by
  unfold maxLen at hcm
  have HC := Lib.hid hc; clear hc
  have HBs := Lib.hid hBs; clear hBs
  obtain ⟨n, hn⟩ : ∃ n, n = l.length := ⟨_, rfl⟩
  have HN := Lib.hid hn; have HRS := Lib.hid hrs
  rw [← hn] at hl hcap
  clear hn hrs
  refine callsIn_wide.2 ?_
  go_enter Try.func56, Try.ntmps56
  go_wp2_with fail
  go_loopw [3, 4] (fun st en wr => ∃ k j m : Nat, en = .int .i64 k ∧ st = .int .i64 j ∧ Hid (KeepsTwo Bs b W wr) ∧ Hid (J (upF rs.length m) wr) ∧
      ((k ≤ n ∧ j < k ∧ m < rs.length ∧ ∃ d : UInt8, Hid (runsL (l.take k) = rs.take m ++ [(d, k - j)] ∧ cntR (rs.take m) = j ∧ l[j]? = some d)) ∨ (k = n + 1 ∧ m = rs.length)))
    (fun _ en _ => n + 1 - (intOf en).toNat)
  case atStart =>
    by_cases hn0 : n = 0
    · have hl0 : l = [] := List.eq_nil_of_length_eq_zero (by rw [← HN.out]; exact hn0)
      exact ⟨1, 0, 0, rfl, rfl, keepsTwo_refl _ _ _, h0, .inr ⟨by omega, by rw [HRS.out, hl0]; rfl⟩⟩
    have hl1 : 1 ≤ n := by omega
    have h1 : 0 < l.length := by rw [← HN.out]; omega
    refine ⟨1, 0, 0, rfl, rfl, keepsTwo_refl _ _ _, h0, .inl ⟨hl1, by omega, ?_, l[0], ⟨?_, rfl, by simp [h1]⟩⟩⟩
    · have := runs_ne (l := l) (by intro e; rw [e] at h1; simp at h1)
      rw [← HRS.out] at this
      exact Nat.pos_of_ne_zero (fun e => this (List.eq_nil_of_length_eq_zero e))
    · have : l.take 1 = [l[0]] := by rw [List.take_succ_eq_append_getElem h1]; rfl
      rw [this]; rfl
  case round =>
    obtain ⟨k, j, m, rfl, rfl, HK, HJ, hrel | hrel⟩ := hrel
    · obtain ⟨hk, hj, hm, d, HP⟩ := hrel
      have hb1 : wr.cell? ⟨Bs, 0, none⟩ = some (.slice (some ⟨b, 0, none⟩) n cap) := (World.cell?_of_block (w := W) HK.out.1).trans (by rw [HN.out]; exact HBs.out)
      by_cases hend : k = n
      · subst hend
        have hd : decide ((k : Int) < (k : Int)) = false := by simp
        have hg := runs_close HRS.out hm HP.out.1 (.inl HN.out)
        have hr1 : rs[m] = (d, k - j) := by have := hg.1; rw [List.getElem?_eq_getElem hm] at this; exact Option.some.inj this
        have hm1 : m + 1 = rs.length := hg.2.1 HN.out
        have henc : partEnc b rs ⟨m, hm⟩ = #[.slice (some ⟨b, j, none⟩) (k - j) (k - j)] := by
          unfold partEnc; simp only [Fin.getElem_fin, hr1]; rw [HP.out.2.1]
        have HY := Lib.hid (fun n => hY (upF rs.length m) ⟨m, hm⟩ (wr.drewN n) (hJd _ _ n HJ.out) (by rw [upF_len (Nat.le_of_lt hm)]; exact hm))
        have HU := Lib.hid (upF_succ hm); have HE := Lib.hid henc; have HM1 := Lib.hid hm1
        clear hg hr1 henc hm1
        go_wp2_with fail
        go_quiet (fail)
        have hb2 : (wr.drewN nq).cell? ⟨Bs, 0, none⟩ = some (.slice (some ⟨b, 0, none⟩) k cap) := hb1
        have HK2 : Hid (KeepsTwo Bs b W (wr.drewN nq)) := HK.out
        obtain ⟨fn, tmps, assign, body, hy, hR⟩ := HY.out nq
        rw [HE.out] at hy
        generalize wr.drewN nq = wq at *
        clear hb1 HK HJ HY hd
        go_upto_region 5 with (fail)
        refine (wpIn_wide (n := nn)).1 ?_
        gi_wp2
        refine hR.mono ?_
        rintro e W3 (⟨rfl, hJ3, hk3⟩ | ⟨rfl, hJx3⟩)
        · have HJ3 := Lib.hid hJ3; have HK3 := Lib.hid hk3; clear hJ3 hk3 hR hy
          gi_wp2
          go_wp2_with fail
          go_roundw
          case rel => exact ⟨k + 1, k, m + 1, by go_num, rfl, keepsTwo_t HK2.out HK3.out, by have := HJ3.out; rw [← HU.out] at this; exact this, .inr ⟨rfl, HM1.out⟩⟩
          case measure => simp [intOf] <;> omega
        · have HJ3 := Lib.hid hJx3; clear hJx3 hR hy
          gi_wp2
          go_wp2_with fail
          refine bodyPost_ret (results_none rfl _ _ _) rfl ?_
          exact ⟨⟨_, rfl⟩, .inr ⟨_, ⟨m + 1, by omega, HU.out.symm⟩, HJ3.out⟩⟩
      · have hkn : k < n := by omega
        have hd : decide ((k : Int) < (n : Int)) = true := by simp; omega
        have hkl : k < l.length := by rw [← HN.out]; exact hkn
        have hjl : j < l.length := by rw [← HN.out]; omega
        have hck : wr.cell? ⟨b, k, none⟩ = some (.int .u8 (l[k].toNat : Int)) := (World.cell?_of_block (w := W) HK.out.2).trans (HC.out k hkl)
        have hcj : wr.cell? ⟨b, j, none⟩ = some (.int .u8 (l[j].toNat : Int)) := (World.cell?_of_block (w := W) HK.out.2).trans (HC.out j hjl)
        have hlj : d = l[j] := by have := HP.out.2.2; simp [hjl] at this; exact this.symm
        have HLJ := Lib.hid hlj; clear hlj
        have htk := Lib.hid (show runsL (l.take (k + 1)) = stepRun (runsL (l.take k)) l[k] by rw [List.take_succ_eq_append_getElem hkl, runsL_snoc])
        by_cases hs : l[k] = l[j]
        · have hsb : ((l[k].toNat : Int) == (l[j].toNat : Int)) = true := by rw [hs]; simp
          have HS := Lib.hid hs; clear hs
          go_wp2_with fail
          go_quiet (fail)
          go_wp2_with fail
          go_roundw
          case rel =>
            refine ⟨k + 1, j, m, by go_num, rfl, HK.out, hJd _ _ _ HJ.out, .inl ⟨by omega, by omega, hm, d, ?_, HP.out.2.1, HP.out.2.2⟩⟩
            rw [htk.out, HP.out.1, HS.out, ← HLJ.out, stepRun_same]
            congr 3; omega
          case measure => simp [intOf] <;> omega
        · have hsb : ((l[k].toNat : Int) == (l[j].toNat : Int)) = false := by
            simp; intro e; exact hs (UInt8.toNat_inj.1 (by omega))
          have hg := runs_close HRS.out hm HP.out.1 (.inr ⟨hkl, by rw [HLJ.out]; exact hs⟩)
          have hr1 : rs[m] = (d, k - j) := by have := hg.1; rw [List.getElem?_eq_getElem hm] at this; exact Option.some.inj this
          have hm1 : m + 1 < rs.length := hg.2.2 hkl
          have henc : partEnc b rs ⟨m, hm⟩ = #[.slice (some ⟨b, j, none⟩) (k - j) (k - j)] := by
            unfold partEnc; simp only [Fin.getElem_fin, hr1]; rw [HP.out.2.1]
          have hnext : Hid (runsL (l.take (k + 1)) = rs.take (m + 1) ++ [(l[k], k + 1 - k)] ∧ cntR (rs.take (m + 1)) = k) := by
            have e1 : rs.take (m + 1) = rs.take m ++ [(d, k - j)] := by rw [List.take_succ_eq_append_getElem hm, hr1]
            refine ⟨?_, ?_⟩
            · rw [htk.out, HP.out.1, stepRun_other _ _ _ _ (by rw [HLJ.out]; exact fun e => hs e.symm), e1]
              congr 3; omega
            · rw [e1, cntR_snoc, HP.out.2.1]; omega
          have HY := Lib.hid (fun n => hY (upF rs.length m) ⟨m, hm⟩ (wr.drewN n) (hJd _ _ n HJ.out) (by rw [upF_len (Nat.le_of_lt hm)]; exact hm))
          have HU := Lib.hid (upF_succ hm); have HE := Lib.hid henc
          have HS := Lib.hid hs; clear hs
          clear hg hr1 henc
          go_wp2_with fail
          go_quiet (fail)
          have hb2 : (wr.drewN nq).cell? ⟨Bs, 0, none⟩ = some (.slice (some ⟨b, 0, none⟩) n cap) := hb1
          have HK2 : Hid (KeepsTwo Bs b W (wr.drewN nq)) := HK.out
          obtain ⟨fn, tmps, assign, body, hy, hR⟩ := HY.out nq
          rw [HE.out] at hy
          generalize wr.drewN nq = wq at *
          clear hb1 HK HJ HY hd hck hcj hsb
          go_upto_region 5 with (fail)
          refine (wpIn_wide (n := nn)).1 ?_
          gi_wp2
          refine hR.mono ?_
          rintro e W3 (⟨rfl, hJ3, hk3⟩ | ⟨rfl, hJx3⟩)
          · have HJ3 := Lib.hid hJ3; have HK3 := Lib.hid hk3; clear hJ3 hk3 hR hy
            gi_wp2
            go_wp2_with fail
            go_roundw
            case rel => exact ⟨k + 1, k, m + 1, by go_num, rfl, keepsTwo_t HK2.out HK3.out, by have := HJ3.out; rw [← HU.out] at this; exact this, .inl ⟨by omega, by omega, hm1, l[k], hnext.out.1, hnext.out.2, by simp [hkl]⟩⟩
            case measure => simp [intOf] <;> omega
          · have HJ3 := Lib.hid hJx3; clear hJx3 hR hy
            gi_wp2
            go_wp2_with fail
            refine bodyPost_ret (results_none rfl _ _ _) rfl ?_
            exact ⟨⟨_, rfl⟩, .inr ⟨_, ⟨m + 1, by omega, HU.out.symm⟩, HJ3.out⟩⟩
    · obtain ⟨rfl, rfl⟩ := hrel
      have hb1 : wr.cell? ⟨Bs, 0, none⟩ = some (.slice (some ⟨b, 0, none⟩) n cap) := (World.cell?_of_block (w := W) HK.out.1).trans (by rw [HN.out]; exact HBs.out)
      go_wp2_with fail
      go_end0
      exact ⟨⟨_, rfl⟩, .inl ⟨_, rfl, HJ.out⟩⟩

/-- What runParts hands back tells all runs, in order, or the first of them. -/
theorem runParts_stops0 (nn : Nat) (hnn : 1 ≤ nn) (l : List UInt8) (rs : List (UInt8 × Nat)) (hrs : rs = runsL l) (Bs b cap : Nat) (hl : l.length ≤ 200000) (hcap : l.length ≤ cap) (hcm : cap ≤ maxLen) (w : World)
    (hB : Bs < w.heap.size) (hb : b < w.heap.size) (hBs : w.cell? ⟨Bs, 0, none⟩ = some (.slice (some ⟨b, 0, none⟩) l.length cap)) (hc : ∀ i (h : i < l.length), w.cell? ⟨b, i, none⟩ = some (.int .u8 (l[i].toNat : Int))) :
    SeqStopsK Fence.wide nn Try.prog 56 #[.pointer (some ⟨Bs, 0, none⟩)] (partEnc b rs) (KeepsTwo Bs b) (fun ys => ys = upF rs.length rs.length) (fun pre => ∃ k, k ≤ rs.length ∧ pre = upF rs.length k) rs.length w := fun lp J Jx W hW hJ _ hY h0 =>
  runParts1_in0 nn hnn l rs hrs lp Bs b cap hl hcap hcm J Jx hY W ((hW.cell (p := ⟨Bs, 0, none⟩) hB).trans hBs) (fun i h => (hW.cell (p := ⟨b, i, none⟩) hb).trans (hc i h))
    (fun s A n hs => hJ s A _ none hs ⟨rfl, rfl, rfl, Nat.le_refl _, fun _ _ _ => rfl⟩ (fun r e => by cases e)) h0
theorem wp_parts0 {Q : Exit → Act → World → Prop} {a : Act} {W0 : World} {g : Operand} {t : Tmp} {assign body : Code} (l : List UInt8) (rs : List (UInt8 × Nat)) (hrs : rs = runsL l) (Bs b cap : Nat)
    (hl : l.length ≤ 200000) (hcap : l.length ≤ cap) (hcm : cap ≤ maxLen) (hB : Bs < W0.heap.size) (hb : b < W0.heap.size)
    (hBs : W0.cell? ⟨Bs, 0, none⟩ = some (.slice (some ⟨b, 0, none⟩) l.length cap)) (hc : ∀ i (h : i < l.length), W0.cell? ⟨b, i, none⟩ = some (.int .u8 (l[i].toNat : Int)))
    (hg : a.eval g = .func (.func 56) #[] #[.pointer (some ⟨Bs, 0, none⟩)])
    (I : List (UInt8 × Nat) → World → Prop) (hI : OwnFrom W0.heap.size I) (h0 : I [] W0) (a₁ : Fin rs.length → Act)
    (hassign : ∀ (lp : Nat) (x : Fin rs.length) (W : World) (K : Act → World → Prop), K (a₁ x) W →
      assign.wpIn (Fence.wide.inRound lp) 7 Try.prog (Exit.then K (fun _ _ _ => False)) { tmps := a.tmps.setIfInBounds t (.slice (some ⟨b, cntR (rs.take x), none⟩) rs[x].2 rs[x].2), defers := [] } W)
    (hbody : ∀ (lp : Nat) (pre : List (Fin rs.length)) (x : Fin rs.length) (W : World) (Q2 : Exit → Act → World → Prop), (¬ LetsOut Q2 ∧ ∀ c a w, ¬ Q2 (.panic c) a w) →
      (∀ a' W', KeepsFrom W0.heap.size W W' → KeepsTwo Bs b W W' → I (gotR rs pre ++ [rs[x]]) W' → Q2 .normal a' W') → I (gotR rs pre) W → pre.length < rs.length →
      body.wpIn (Fence.wide.inRound lp) 7 Try.prog Q2 (a₁ x) W)
    (hdone : ∀ (D : Nat) (W : World), W0.heap.size ≤ D → I rs W → W.heap[D]? = some (.deferred (some [])) → Q .normal { a with defers := { target := .collected D, args := #[] } :: a.defers } W) :
    (Code.rangeFunc g #[t] assign body).wp Try.prog Q a W0 := by
  refine (wpIn_wide (n := 9)).1 ?_
  refine wpIn_rangeFunc_ownG rfl (by omega) (gf := 56) (lb := #[.pointer (some ⟨Bs, 0, none⟩)]) hg trivial (enters_of Try.func56 (by kernel_rfl) rfl)
    (runParts_stops0 8 (by omega) l rs hrs Bs b cap hl hcap hcm W0 hB hb hBs hc) keepsTwo_t (keepsTwo_b hB hb) (Below.refl _ _) (fun _ => rfl)
    (fun pre W => I (gotR rs pre) W) (fun _ _ _ => False) (fun s W W' row hs hg hr => hI _ W W' row hs hg hr) (fun _ _ _ _ _ hs _ _ => hs) h0 a₁ ?_ (fun lp pre x W hi hlt => hbody lp pre x W _ ⟨fun ⟨a, w, h⟩ => h, fun c a w h => h⟩ (fun a' W' k1 k2 k3 => ⟨k1, k2, by show I (gotR rs (pre ++ [x])) W'; rw [gotR_snoc]; exact k3⟩) hi hlt) ?_ ?_
  · intro lp x W K hK
    have h := hassign lp x W K hK
    unfold partEnc
    simpa using h
  · rintro D ys W hD rfl hi hK
    rw [gotR_all] at hi
    exact hdone D W hD hi hK
  · rintro D c pre W _ _ h _
    exact h.elim

end Go.Proofs.Ythbjaclobllkhaa
