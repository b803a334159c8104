/- Ranges over a function in whose rounds a panic is raised: what lacks in the library's laws; the runs of a text told one by one, where a round may panic. -/
import Derived.Test.YtplcdofpikdigaaDoorI1
namespace Go.Proofs.YtplcdofpikdigaaDoor
open Go.RowKit Go.BigFrame Go.Shelf
set_option linter.unusedSimpArgs false
set_option linter.unusedVariables false
set_option maxRecDepth 4000

/-- What is asked at a round's end, where a round may panic. -/
def roundPostP (P : Program) (l : Nat) (R : Ending → World → Prop) : Exit → Act → World → Prop
  | .normal, _, w => ∃ v w', (Instr.endRound l none).run P w = .ok v w' ∧ R (.returned v) w'
  | .panic ch, a, w => a.defers = [] ∧ R (.panicked ch) w
  | _, _, _ => False

theorem roundIn_of_wpInP {F : Fence} {n : Nat} {P : Program} {l : Nat} {f : FuncId} {fn : Func} {tmps : Array Value} {assign body : Code} {w : World} {R : Ending → World → Prop} (hF : F.fn f) (hfn : P.funcs[f]? = some fn)
    (h : assign.wpIn (F.inRound l) n P (Exit.then (fun a₁ w₁ => ∃ w₂, (Instr.beginRound l).run P w₁ = .ok () w₂ ∧ body.wpIn (F.inRound l) n P (roundPostP P l R) a₁ w₂) (fun _ _ _ => False))
      { tmps := tmps, defers := [] } w) :
    RoundIn F n P l f tmps assign body w R := by
  refine ⟨hF, fun c cs hr => ?_⟩
  let b : Frame := { (default : Frame) with fn := f, kind := .normal, roundOf := some l }
  have hb0 : Frame.round l f tmps assign body .normal = b.atR { tmps := tmps, defers := [] } [.code assign, .beginRound, .code body] := by
    simp [Frame.round, Frame.atR, b]
  have hr' : (F.inRound l).room ((c :: cs).length + 1 + n) := hr
  have hF' : (F.inRound l).fn b.fn := hF
  obtain ⟨e, a₁, w₁, hq, harr⟩ := h b [.beginRound, .code body] (c :: cs) rfl hF' hr'
  rw [← hb0] at harr
  cases e with
  | normal =>
    obtain ⟨w₂, hbr, hbody⟩ := hq
    have s1 : StepsIn (Machine.fenced P (F.inRound l)) P (lone (b.atR a₁ [.beginRound, .code body]) (c :: cs) w₁) (lone (b.atR a₁ [.code body]) (c :: cs) w₂) :=
      .one (fenced_calm (fr := b.atR a₁ [.beginRound, .code body]) hF' hr' rfl) (stepR_beginRound rfl hbr)
    obtain ⟨e₂, a₂, w₃, hq₂, harr₂⟩ := hbody b [] (c :: cs) rfl hF' hr'
    cases e₂ with
    | normal =>
      obtain ⟨v, w₄, hend, hR⟩ := hq₂
      exact ⟨.returned v, w₄, hR, (StepsIn.trans harr s1).trans (StepsIn.trans harr₂ (.one (fenced_calm (fr := b.atR a₂ []) hF' hr' rfl) (stepR_round_end rfl rfl hend)))⟩
    | panic chain =>
      obtain ⟨hd, hR⟩ := hq₂
      obtain ⟨todo, hs⟩ := harr₂
      have hl : ({ b.atR a₂ todo with mode := .panicking chain } : Frame).leaving P w₃ (.panicked chain) := ⟨rfl, hd, fn, hfn⟩
      exact ⟨.panicked chain, w₃, hR, (StepsIn.trans harr s1).trans (StepsIn.trans hs (.one (fenced_leaving (F := F.inRound l) (n := n) (fr := { b.atR a₂ todo with mode := .panicking chain }) hF' hr' hl) (step_leave_panicked hl)))⟩
    | ret => exact hq₂.elim
    | exit id => exact hq₂.elim
    | goto t => exact hq₂.elim
    | outgrown => exact hq₂.elim
  | exit id => exact hq.elim
  | goto t => exact hq.elim
  | ret => exact hq.elim
  | panic chain => exact hq.elim
  | outgrown => exact hq.elim

set_option maxRecDepth 100000 in
set_option maxHeartbeats 2000000 in
theorem runParts1_P (nn : Nat) (hnn : 1 ≤ nn) (l : List UInt8) (rs : List (UInt8 × Nat)) (hrs : rs = runsL l) (lp Bs b cap : Nat) (hl1 : 1 ≤ l.length) (hl : l.length ≤ 200000) (hcap : l.length ≤ cap) (hcm : cap ≤ maxLen) (J : Nat → World → Prop) (Jp : List PanicEntry → World → Prop)
    (hY : ∀ m (hm : m < rs.length) W, J m W → YieldAt Fence.wide (nn - 1) Tryd.prog lp (partEnc b rs ⟨m, hm⟩) W fun e W' =>
      (e = .returned (.bool true) ∧ J (m + 1) W' ∧ KeepsTwo Bs b W W') ∨ (∃ ch, e = .panicked ch ∧ Jp ch W'))
    (W : World) (hBs : W.cell? ⟨Bs, 0, none⟩ = some (.slice (some ⟨b, 0, none⟩) l.length cap)) (hc : ∀ i (h : i < l.length), W.cell? ⟨b, i, none⟩ = some (.int .u8 (l[i].toNat : Int))) (hJd : ∀ s W n, J s W → J s (W.drewN n)) (h0 : J 0 W) :
    CallsIn Fence.wide nn Tryd.prog 74 #[.func (.yield lp) #[] #[], .pointer (some ⟨Bs, 0, none⟩)] W fun e W' => ((∃ v, e = .returned v) ∧ J rs.length W') ∨ (∃ ch, e = .panicked ch ∧ Jp ch W') := by
  unfold maxLen at hcm
  have HC := Lib.hid hc; clear hc
  have HBs := Lib.hid hBs; clear hBs
  obtain ⟨n, hn⟩ : ∃ n, n = l.length := ⟨_, rfl⟩
  have HN := Lib.hid hn; have HRS := Lib.hid hrs
  rw [← hn] at hl1 hl hcap
  clear hn hrs
  refine callsIn_wide.2 ?_
  go_enter Tryd.func74, Tryd.ntmps74
  go_wp2_with fail
  go_loopw [3, 4] (fun st en wr => ∃ k j m : Nat, en = .int .i64 k ∧ st = .int .i64 j ∧ Hid (KeepsTwo Bs b W wr) ∧ Hid (J m wr) ∧
      ((k ≤ n ∧ j < k ∧ m < rs.length ∧ ∃ d : UInt8, Hid (runsL (l.take k) = rs.take m ++ [(d, k - j)] ∧ cntR (rs.take m) = j ∧ l[j]? = some d)) ∨ (k = n + 1 ∧ m = rs.length)))
    (fun _ en _ => n + 1 - (intOf en).toNat)
  case atStart =>
    have h1 : 0 < l.length := by rw [← HN.out]; omega
    refine ⟨1, 0, 0, rfl, rfl, keepsTwo_refl _ _ _, h0, .inl ⟨hl1, by omega, ?_, l[0], ⟨?_, rfl, by simp [h1]⟩⟩⟩
    · have := runs_ne (l := l) (by intro e; rw [e] at h1; simp at h1)
      rw [← HRS.out] at this
      exact Nat.pos_of_ne_zero (fun e => this (List.eq_nil_of_length_eq_zero e))
    · have : l.take 1 = [l[0]] := by rw [List.take_succ_eq_append_getElem h1]; rfl
      rw [this]; rfl
  case round =>
    obtain ⟨k, j, m, rfl, rfl, HK, HJ, hrel | hrel⟩ := hrel
    · obtain ⟨hk, hj, hm, d, HP⟩ := hrel
      have hb1 : wr.cell? ⟨Bs, 0, none⟩ = some (.slice (some ⟨b, 0, none⟩) n cap) := (World.cell?_of_block (w := W) HK.out.1).trans (by rw [HN.out]; exact HBs.out)
      by_cases hend : k = n
      · subst hend
        have hd : decide ((k : Int) < (k : Int)) = false := by simp
        have hg := runs_close HRS.out hm HP.out.1 (.inl HN.out)
        have hr1 : rs[m] = (d, k - j) := by have := hg.1; rw [List.getElem?_eq_getElem hm] at this; exact Option.some.inj this
        have hm1 : m + 1 = rs.length := hg.2.1 HN.out
        have henc : partEnc b rs ⟨m, hm⟩ = #[.slice (some ⟨b, j, none⟩) (k - j) (k - j)] := by
          unfold partEnc; simp only [Fin.getElem_fin, hr1]; rw [HP.out.2.1]
        have HY := Lib.hid (fun n => hY m hm (wr.drewN n) (hJd _ _ n HJ.out))
        have HE := Lib.hid henc; have HM1 := Lib.hid hm1
        clear hg hr1 henc hm1
        go_wp2_with fail
        go_quiet (fail)
        have hb2 : (wr.drewN nq).cell? ⟨Bs, 0, none⟩ = some (.slice (some ⟨b, 0, none⟩) k cap) := hb1
        have HK2 : Hid (KeepsTwo Bs b W (wr.drewN nq)) := HK.out
        obtain ⟨fn, tmps, assign, body, hy, hR⟩ := HY.out nq
        rw [HE.out] at hy
        generalize wr.drewN nq = wq at *
        clear hb1 HK HJ HY hd
        go_upto_region 5 with (fail)
        refine (wpIn_wide (n := nn)).1 ?_
        gi_wp2
        refine hR.mono ?_
        rintro e W3 (⟨rfl, hJ3, hk3⟩ | ⟨ch, rfl, hJx3⟩)
        · have HJ3 := Lib.hid hJ3; have HK3 := Lib.hid hk3; clear hJ3 hk3 hR hy
          gi_wp2
          go_wp2_with fail
          go_roundw
          case rel => exact ⟨k + 1, k, m + 1, by go_num, rfl, keepsTwo_t HK2.out HK3.out, HJ3.out, .inr ⟨rfl, HM1.out⟩⟩
          case measure => simp [intOf] <;> omega
        · exact ⟨rfl, .inr ⟨ch, rfl, hJx3⟩⟩
      · have hkn : k < n := by omega
        have hd : decide ((k : Int) < (n : Int)) = true := by simp; omega
        have hkl : k < l.length := by rw [← HN.out]; exact hkn
        have hjl : j < l.length := by rw [← HN.out]; omega
        have hck : wr.cell? ⟨b, k, none⟩ = some (.int .u8 (l[k].toNat : Int)) := (World.cell?_of_block (w := W) HK.out.2).trans (HC.out k hkl)
        have hcj : wr.cell? ⟨b, j, none⟩ = some (.int .u8 (l[j].toNat : Int)) := (World.cell?_of_block (w := W) HK.out.2).trans (HC.out j hjl)
        have hlj : d = l[j] := by have := HP.out.2.2; simp [hjl] at this; exact this.symm
        have HLJ := Lib.hid hlj; clear hlj
        have htk := Lib.hid (show runsL (l.take (k + 1)) = stepRun (runsL (l.take k)) l[k] by rw [List.take_succ_eq_append_getElem hkl, runsL_snoc])
        by_cases hs : l[k] = l[j]
        · have hsb : ((l[k].toNat : Int) == (l[j].toNat : Int)) = true := by rw [hs]; simp
          have HS := Lib.hid hs; clear hs
          go_wp2_with fail
          go_quiet (fail)
          go_wp2_with fail
          go_roundw
          case rel =>
            refine ⟨k + 1, j, m, by go_num, rfl, HK.out, hJd _ _ _ HJ.out, .inl ⟨by omega, by omega, hm, d, ?_, HP.out.2.1, HP.out.2.2⟩⟩
            rw [htk.out, HP.out.1, HS.out, ← HLJ.out, stepRun_same]
            congr 3; omega
          case measure => simp [intOf] <;> omega
        · have hsb : ((l[k].toNat : Int) == (l[j].toNat : Int)) = false := by
            simp; intro e; exact hs (UInt8.toNat_inj.1 (by omega))
          have hg := runs_close HRS.out hm HP.out.1 (.inr ⟨hkl, by rw [HLJ.out]; exact hs⟩)
          have hr1 : rs[m] = (d, k - j) := by have := hg.1; rw [List.getElem?_eq_getElem hm] at this; exact Option.some.inj this
          have hm1 : m + 1 < rs.length := hg.2.2 hkl
          have henc : partEnc b rs ⟨m, hm⟩ = #[.slice (some ⟨b, j, none⟩) (k - j) (k - j)] := by
            unfold partEnc; simp only [Fin.getElem_fin, hr1]; rw [HP.out.2.1]
          have hnext : Hid (runsL (l.take (k + 1)) = rs.take (m + 1) ++ [(l[k], k + 1 - k)] ∧ cntR (rs.take (m + 1)) = k) := by
            have e1 : rs.take (m + 1) = rs.take m ++ [(d, k - j)] := by rw [List.take_succ_eq_append_getElem hm, hr1]
            refine ⟨?_, ?_⟩
            · rw [htk.out, HP.out.1, stepRun_other _ _ _ _ (by rw [HLJ.out]; exact fun e => hs e.symm), e1]
              congr 3; omega
            · rw [e1, cntR_snoc, HP.out.2.1]; omega
          have HY := Lib.hid (fun n => hY m hm (wr.drewN n) (hJd _ _ n HJ.out))
          have HE := Lib.hid henc
          have HS := Lib.hid hs; clear hs
          clear hg hr1 henc
          go_wp2_with fail
          go_quiet (fail)
          have hb2 : (wr.drewN nq).cell? ⟨Bs, 0, none⟩ = some (.slice (some ⟨b, 0, none⟩) n cap) := hb1
          have HK2 : Hid (KeepsTwo Bs b W (wr.drewN nq)) := HK.out
          obtain ⟨fn, tmps, assign, body, hy, hR⟩ := HY.out nq
          rw [HE.out] at hy
          generalize wr.drewN nq = wq at *
          clear hb1 HK HJ HY hd hck hcj hsb
          go_upto_region 5 with (fail)
          refine (wpIn_wide (n := nn)).1 ?_
          gi_wp2
          refine hR.mono ?_
          rintro e W3 (⟨rfl, hJ3, hk3⟩ | ⟨ch, rfl, hJx3⟩)
          · have HJ3 := Lib.hid hJ3; have HK3 := Lib.hid hk3; clear hJ3 hk3 hR hy
            gi_wp2
            go_wp2_with fail
            go_roundw
            case rel => exact ⟨k + 1, k, m + 1, by go_num, rfl, keepsTwo_t HK2.out HK3.out, HJ3.out, .inl ⟨by omega, by omega, hm1, l[k], hnext.out.1, hnext.out.2, by simp [hkl]⟩⟩
            case measure => simp [intOf] <;> omega
          · exact ⟨rfl, .inr ⟨ch, rfl, hJx3⟩⟩
    · obtain ⟨rfl, rfl⟩ := hrel
      have hb1 : wr.cell? ⟨Bs, 0, none⟩ = some (.slice (some ⟨b, 0, none⟩) n cap) := (World.cell?_of_block (w := W) HK.out.1).trans (by rw [HN.out]; exact HBs.out)
      go_wp2_with fail
      go_end0
      exact .inl ⟨⟨_, rfl⟩, HJ.out⟩


/-- A walk in a frame of a function that is known: its rounds may panic. -/
def wpFn (f : FuncId) (n : Nat) (P : Program) (c : Code) (Q : Exit → Act → World → Prop) (a : Act) (w : World) : Prop :=
  ∀ (b : Frame) (k : List Item) (cs : List Frame), b.roundOf = none → b.fn = f →
    ∃ e a' w', Q e a' w' ∧ ArrivesIn (Machine.fenced P Fence.wide) P (lone (b.atR a (.code c :: k)) cs w) b k cs e a' w'

theorem wpFn_of_wp {f : FuncId} {n : Nat} {P : Program} {c : Code} {Q : Exit → Act → World → Prop} {a : Act} {w : World} (h : c.wp P Q a w) : wpFn f n P c Q a w :=
  fun b k cs hro _ => (wpIn_wide (n := n)).2 h b k cs hro trivial (room_wide _)

theorem wpFn_seq {f : FuncId} {n : Nat} {P : Program} {x y : Code} {Q : Exit → Act → World → Prop} {a : Act} {w : World} (h : wpFn f n P x (Exit.then (fun a w => wpFn f n P y Q a w) Q) a w) : wpFn f n P (Code.seq x y) Q a w := by
  intro b k cs hro hb
  have h0 : (lone (b.atR a (.code (.seq x y) :: k)) cs w).fenced P Fence.wide := fenced_calm (F := Fence.wide) (n := n) trivial (room_wide _) rfl
  obtain ⟨e, a₁, w₁, hq, harr⟩ := h b (.code y :: k) cs hro hb
  cases e with
  | normal =>
    obtain ⟨e₂, a₂, w₂, hq₂, harr₂⟩ := hq b k cs hro hb
    exact ⟨e₂, a₂, w₂, hq₂, .of_steps (.head h0 stepR_seq harr) harr₂⟩
  | exit id => exact ⟨_, a₁, w₁, hq, .of_steps (.one h0 stepR_seq) (.pass (x := .code y) rfl (fun _ _ => .inl (by simp)) harr)⟩
  | goto l => exact ⟨_, a₁, w₁, hq, .of_steps (.one h0 stepR_seq) (.pass (x := .code y) rfl (fun _ _ => .inl (by simp)) harr)⟩
  | ret => exact ⟨_, a₁, w₁, hq, .of_steps (.one h0 stepR_seq) (.pass (x := .code y) rfl (fun _ _ => .inl (by simp)) harr)⟩
  | panic ch => exact ⟨_, a₁, w₁, hq, .of_steps (.one h0 stepR_seq) (.pass (x := .code y) rfl (fun _ _ => .inl (by simp)) harr)⟩
  | outgrown => exact ⟨_, a₁, w₁, hq, .of_steps (.one h0 stepR_seq) (.pass (x := .code y) rfl (fun _ _ => .inl (by simp)) harr)⟩

/-- The statement in such a frame. -/
theorem wpFn_rangeFunc {fid : FuncId} {n : Nat} {P : Program} {g : Operand} {ps : Array Tmp} {assign body : Code} {Q : Exit → Act → World → Prop} {a : Act} {w : World}
    (h : ∃ (l : Nat) (mark : List Deferred) (w₁ : World) (d : Deferred) (w₁' : World) (f : FuncId) (args : Array Value) (w₂ : World),
      (Instr.enterLoop fid a.tmps ps assign body none).run P w = .ok (l, mark) w₁ ∧
      (resolve a.eval (rangeCall g l) 0).run P w₁ = .ok d w₁' ∧
      (invoke d.target d.args).run P w₁' = .ok (.enter f args) w₂ ∧
      CallsIn Fence.wide (n - 1) P f args w₂ (fun
        | .returned _, w₃ => ∃ w₄, (Instr.endLoop l).run P w₃ = .ok none w₄ ∧ Q .normal { a with defers := mark ++ a.defers } w₄
        | .panicked chain, w₃ => Q (.panic chain) { a with defers := mark ++ a.defers } w₃
        | .outgrown, _ => False)) :
    wpFn fid n P (Code.rangeFunc g ps assign body) Q a w := by
  intro b k cs hro hb
  obtain ⟨l, mark, w₁, d, w₁', f, args, w₂, he, hres, hinv, hF, hcall⟩ := h
  rw [← hro, ← hb] at he
  have h0 : (lone (b.atR a (.code (.rangeFunc g ps assign body) :: k)) cs w).fenced P Fence.wide := fenced_lone (F := Fence.wide) (.inl trivial) (fun f' hf' => trivial) (room_wide _)
  have henter := stepR_rangeFunc (P := P) (b := b) (a := a) (k := k) (cs := cs) (w := w) he hres hinv
  obtain ⟨e, w₃, fr, hR, hsteps, hfn, hleave⟩ := hcall (b.atR { a with defers := mark ++ a.defers } (.inRangeFunc l :: k) :: cs) (room_wide _)
  cases e with
  | outgrown => exact hR.elim
  | returned v =>
    have hl : (lone fr (b.atR { a with defers := mark ++ a.defers } (.inRangeFunc l :: k) :: cs) w₃).fenced P Fence.wide := fenced_leaving (F := Fence.wide) (n := n) trivial (room_wide _) hleave
    obtain ⟨w₄, hend, hj⟩ := hR
    have sback : StepsIn (Machine.fenced P Fence.wide) P (lone (b.atR a (.code (.rangeFunc g ps assign body) :: k)) cs w) (lone (b.atR { a with defers := mark ++ a.defers } k) cs w₄) := by
      refine .head h0 henter (StepsIn.trans hsteps (.head hl ?_ (.one (fenced_calm (F := Fence.wide) (n := n) (fr := b.atR { a with defers := mark ++ a.defers } (.endRangeFunc l :: k)) trivial (room_wide _) rfl) (stepR_endRangeFunc (jump := none) hend))))
      rw [← finish_atR_inRangeFunc l v]; exact step_leave_returned hleave
    exact ⟨.normal, _, w₄, hj, sback⟩
  | panicked chain =>
    have hl : (lone fr (b.atR { a with defers := mark ++ a.defers } (.inRangeFunc l :: k) :: cs) w₃).fenced P Fence.wide := fenced_leaving (F := Fence.wide) (n := n) trivial (room_wide _) hleave
    refine ⟨.panic chain, _, w₃, hR, .inRangeFunc l :: k, .head h0 henter (StepsIn.trans hsteps (.one hl ?_))⟩
    rw [← Frame.raise_atR]; exact step_leave_panicked hleave

/-- A function's contract from such a walk of its body. -/
theorem callsIn_of_wpFn {P : Program} {n : Nat} {f : FuncId} {fn : Func} {c : Code} {args : Array Value} {w : World} {R : Ending → World → Prop}
    (hf : P.funcs[f]? = some fn) (hb : fn.body = some c)
    (h : wpFn f n P c (bodyPostM Fence.wide n P fn R) { tmps := args ++ Array.replicate (fn.ntmps - args.size) undef, defers := [] } w) : CallsIn Fence.wide n P f args w R := by
  refine ⟨trivial, fun cs hr => ?_⟩
  let b : Frame := { (default : Frame) with fn := f, kind := .normal, roundOf := none }
  have henter : Frame.enter P f args .normal =
      b.atR { tmps := args ++ Array.replicate (fn.ntmps - args.size) undef, defers := [] } [.code c] := by
    simp [Frame.enter, Frame.atR, hf, hb, b]
  obtain ⟨e, a', w', hq, harr⟩ := h b [] cs rfl rfl
  have hF : Fence.wide.fn b.fn := trivial
  rw [← henter] at harr
  cases e with
  | normal =>
    obtain ⟨e', w'', fr', hR, hs, hfn, hl⟩ := leaves_stepsInM a'.defers .returning w' { b.atR a' [] with mode := .returning } cs rfl rfl rfl hf rfl hF hr hq
    exact ⟨e', w'', fr', hR, ComesIn.of_steps (StepsIn.trans harr (.one (fenced_calm (fr := b.atR a' []) hF hr rfl) (stepR_end rfl))) hs, hfn, hl⟩
  | ret =>
    obtain ⟨todo, hs₀⟩ := harr.1 rfl
    obtain ⟨e', w'', fr', hR, hs, hfn, hl⟩ := leaves_stepsInM a'.defers .returning w' { b.atR a' todo with mode := .returning } cs rfl rfl rfl hf rfl hF hr hq
    exact ⟨e', w'', fr', hR, ComesIn.of_steps hs₀ hs, hfn, hl⟩
  | panic chain =>
    obtain ⟨todo, hs₀⟩ := harr
    obtain ⟨e', w'', fr', hR, hs, hfn, hl⟩ := leaves_stepsInM a'.defers (.panicking chain) w' { b.atR a' todo with mode := .panicking chain } cs rfl rfl rfl hf rfl hF hr hq
    exact ⟨e', w'', fr', hR, ComesIn.of_steps hs₀ hs, hfn, hl⟩
  | exit id => exact hq.elim
  | goto l => exact hq.elim
  | outgrown => exact ⟨.outgrown, w', b, hq, harr.resolve_left (by simp [b]), rfl, trivial⟩

/-- How a function that loops over an iterator is left, by a panic too. -/
structure LeavesP (fn : Func) (R : Ending → World → Prop) (Q : Exit → Act → World → Prop) : Prop where
  plain : ∀ a W v, a.defers = [] → (results fn a.tmps).run Tryd.prog W = .ok v W → R (.returned v) W → Q .ret a W
  marked : ∀ a W D v, a.defers = [{ target := .collected D, args := #[] }] → W.heap[D]? = some (.deferred (some [])) → (results fn a.tmps).run Tryd.prog (W.putObj D (.deferred none)) = .ok v (W.putObj D (.deferred none)) →
    R (.returned v) (W.putObj D (.deferred none)) → Q .ret a W
  raised : ∀ a W D ch, a.defers = [{ target := .collected D, args := #[] }] → W.heap[D]? = some (.deferred (some [])) → R (.panicked ch) (W.putObj D (.deferred none)) → Q (.panic ch) a W
  raised0 : ∀ a W ch, a.defers = [] → R (.panicked ch) W → Q (.panic ch) a W

theorem calls_marksP {f : FuncId} {fn : Func} {c : Code} {args : Array Value} {w : World} {R : Ending → World → Prop} (hf : Tryd.prog.funcs[f]? = some fn) (hb : fn.body = some c)
    (h : ∀ Q, LeavesP fn R Q → (∀ a W, Q .normal a W = Q .ret a W) → wpFn f 9 Tryd.prog c Q { tmps := args ++ Array.replicate (fn.ntmps - args.size) undef, defers := [] } w) : Calls Tryd.prog f args w R := by
  refine (callsIn_wide (n := 9)).1 (callsIn_of_wpFn hf hb (h _ ⟨?_, ?_, ?_, ?_⟩ (fun a W => rfl)))
  · rintro ⟨tmps, ds⟩ W v hd hr hR
    simp only at hd; subst hd
    exact ⟨v, hr, hR⟩
  · rintro ⟨tmps, ds⟩ W D v hd hk hr hR
    simp only at hd; subst hd
    exact ⟨by simp, .inl ⟨_, _, rfl, run_takeDeferred hk, v, hr, hR⟩⟩
  · rintro ⟨tmps, ds⟩ W D ch hd hk hR
    simp only at hd; subst hd
    exact ⟨by simp, .inl ⟨_, _, rfl, run_takeDeferred hk, hR⟩⟩
  · rintro ⟨tmps, ds⟩ W ch hd hR
    simp only at hd; subst hd
    exact hR

/-- A loop over the runs in whose rounds a panic may be raised. -/
theorem wp_partsP {fid : FuncId} {fn : Func} (hfid : Tryd.prog.funcs[fid]? = some fn) {Q : Exit → Act → World → Prop} {a : Act} {W0 : World} {g : Operand} {t : Tmp} {assign body : Code} (l : List UInt8) (rs : List (UInt8 × Nat)) (hrs : rs = runsL l) (Bs b cap : Nat)
    (hl1 : 1 ≤ l.length) (hl : l.length ≤ 200000) (hcap : l.length ≤ cap) (hcm : cap ≤ maxLen) (hB : Bs < W0.heap.size) (hb : b < W0.heap.size)
    (hBs : W0.cell? ⟨Bs, 0, none⟩ = some (.slice (some ⟨b, 0, none⟩) l.length cap)) (hc : ∀ i (h : i < l.length), W0.cell? ⟨b, i, none⟩ = some (.int .u8 (l[i].toNat : Int)))
    (hg : a.eval g = .func (.func 74) #[] #[.pointer (some ⟨Bs, 0, none⟩)])
    (I : Nat → World → Prop) (hI : OwnFrom W0.heap.size I) (Ip : List PanicEntry → World → Prop) (h0 : I 0 W0) (a₁ : Fin rs.length → Act)
    (hassign : ∀ (lp : Nat) (x : Fin rs.length) (W : World) (K : Act → World → Prop), K (a₁ x) W →
      assign.wpIn (Fence.wide.inRound lp) 7 Tryd.prog (Exit.then K (fun _ _ _ => False)) { tmps := a.tmps.setIfInBounds t (.slice (some ⟨b, cntR (rs.take x), none⟩) rs[x].2 rs[x].2), defers := [] } W)
    (hbody : ∀ (lp : Nat) (m : Nat) (hm : m < rs.length) (W : World) (Q2 : Exit → Act → World → Prop), ¬ LetsOut Q2 →
      (∀ a' W', KeepsFrom W0.heap.size W W' → KeepsTwo Bs b W W' → I (m + 1) W' → Q2 .normal a' W') →
      (∀ ch a' W', a'.defers = [] → KeepsFrom W0.heap.size W W' → Ip ch W' → Q2 (.panic ch) a' W') → I m W →
      body.wpIn (Fence.wide.inRound lp) 7 Tryd.prog Q2 (a₁ ⟨m, hm⟩) W)
    (hdone : ∀ (D : Nat) (W : World), W0.heap.size ≤ D → I rs.length W → W.heap[D]? = some (.deferred (some [])) → Q .normal { a with defers := { target := .collected D, args := #[] } :: a.defers } W)
    (hpanic : ∀ (D : Nat) (ch : List PanicEntry) (W : World), W0.heap.size ≤ D → Ip ch W → W.heap[D]? = some (.deferred (some [])) → Q (.panic ch) { a with defers := { target := .collected D, args := #[] } :: a.defers } W) :
    wpFn fid 9 Tryd.prog (Code.rangeFunc g #[t] assign body) Q a W0 := by
  refine wpFn_rangeFunc ?_
  obtain ⟨rec, hrec⟩ : ∃ rec : LoopState → Option Code → Loop, rec = fun st pe => { state := st, pending := pe, fn := fid, tmps := a.tmps, params := #[t], assign, body, defers := W0.heap.size } := ⟨_, rfl⟩
  obtain ⟨W1, hW1⟩ : ∃ W1, (W0.alloc (.deferred (some []))).alloc (.loop (rec .ready none)) = W1 := ⟨_, rfl⟩
  have hL1 : W1.heap[W0.heap.size + 1]? = some (.loop (rec .ready none)) := by
    rw [← hW1]; have := World.alloc_heap_new (W0.alloc (.deferred (some []))) (.loop (rec .ready none)); rwa [World.size_alloc] at this
  have hK1 : W1.heap[W0.heap.size]? = some (.deferred (some [])) := by
    rw [← hW1]; exact (Below.heap_alloc _ _ _ (by simp)).trans (World.alloc_heap_new W0 _)
  have hI1 : I 0 W1 := by rw [← hW1]; exact hI.alloc _ (hI.alloc _ h0)
  have hb1 : Below W0.heap.size W0 W1 := by
    rw [← hW1]; exact ((Below.refl _ W0).alloc (Nat.le_refl _) _).alloc (by simp) _
  have hKb := keepsTwo_b (p := Bs) (q := b) hB hb
  refine ⟨W0.heap.size + 1, [{ target := .collected W0.heap.size, args := #[] }], W1, { target := .fn (.func 74) #[.pointer (some ⟨Bs, 0, none⟩)], args := #[.func (.yield (W0.heap.size + 1)) #[] #[]] }, W1, 74,
    #[.func (.yield (W0.heap.size + 1)) #[] #[]] ++ #[.pointer (some ⟨Bs, 0, none⟩)], W1, ?_, ?_, ?_, ?_⟩
  · rw [← hW1, hrec]; exact run_enterLoop_outer _ _ _ _ _
  · simp only [resolve, hg]
    simp [go_sem]
  · have eg := enters_of Tryd.func74 (by kernel_rfl) rfl
    simp [invoke, go_sem, eg]
  · refine CallsIn.mono (runParts1_P 8 (by omega) l rs hrs (W0.heap.size + 1) Bs b cap hl1 hl hcap hcm
      (fun m W => I m W ∧ W.heap[W0.heap.size + 1]? = some (.loop (rec .ready none)) ∧ W.heap[W0.heap.size]? = some (.deferred (some [])))
      (fun ch W => Ip ch W ∧ W.heap[W0.heap.size]? = some (.deferred (some [])))
      ?_ W1 ((hb1.cell (p := ⟨Bs, 0, none⟩) hB).trans hBs) (fun i h => (hb1.cell (p := ⟨b, i, none⟩) hb).trans (hc i h))
      (fun s W n hs => ⟨hI s W _ none hs.1 ⟨rfl, rfl, rfl, Nat.le_refl _, fun _ _ _ => rfl⟩ (fun r e => by cases e), hs.2.1, hs.2.2⟩) ⟨hI1, hL1, hK1⟩) ?_
    · -- one round
      rintro m hm W ⟨hi, hl, hk⟩
      have hlt : W0.heap.size + 1 < W.heap.size := (Array.getElem?_eq_some_iff.1 hl).1
      have hy := run_yield (P := Tryd.prog) (args := partEnc b rs ⟨m, hm⟩) hl (by rw [hrec]; rfl)
      rw [hrec] at hy
      refine ⟨fid, _, assign, body, hy, roundIn_of_wpInP trivial hfid ?_⟩
      have ha := hassign (W0.heap.size + 1) ⟨m, hm⟩ W (fun a₁ w₁ => ∃ w₂, (Instr.beginRound (W0.heap.size + 1)).run Tryd.prog w₁ = .ok () w₂ ∧ body.wpIn (Fence.wide.inRound (W0.heap.size + 1)) 7 Tryd.prog (roundPostP Tryd.prog (W0.heap.size + 1) (fun e W' =>
        (e = .returned (.bool true) ∧ (I (m + 1) W' ∧ W'.heap[W0.heap.size + 1]? = some (.loop (rec .ready none)) ∧ W'.heap[W0.heap.size]? = some (.deferred (some []))) ∧ KeepsTwo Bs b W W') ∨ (∃ ch, e = .panicked ch ∧ Ip ch W' ∧ W'.heap[W0.heap.size]? = some (.deferred (some []))))) a₁ w₂) ?_
      · unfold partEnc
        simpa using ha
      refine ⟨_, run_beginRound hl (by rw [hrec]), ?_⟩
      have hl2 : (W.putObj (W0.heap.size + 1) (.loop { rec .ready none with state := .busy })).heap[W0.heap.size + 1]? = some (.loop { rec .ready none with state := .busy }) := World.putObj_heap_same hlt
      have hk2 : (W.putObj (W0.heap.size + 1) (.loop { rec .ready none with state := .busy })).heap[W0.heap.size]? = some (.deferred (some [])) := (World.putObj_heap_other (by omega)).trans hk
      have hw2 : KeepsTwo Bs b W (W.putObj (W0.heap.size + 1) (.loop { rec .ready none with state := .busy })) := hKb _ _ _ _ (by omega) hl rfl rfl
      refine hbody (W0.heap.size + 1) m hm _ _ ?_ ?_ ?_ (hI.putObj _ hi (by omega) hl rfl)
      · rintro ⟨a, w, h⟩; exact h
      · intro a' W3 hk3 hkp3 hi3
        have hl3 := hk3.same _ _ (by omega) hl2 rfl
        have hr := run_endRound (P := Tryd.prog) none hl3
        have hl4 : (W3.putObj (W0.heap.size + 1) (.loop (rec .ready none))).heap[W0.heap.size + 1]? = some (.loop (rec .ready none)) := World.putObj_heap_same (Array.getElem?_eq_some_iff.1 hl3).1
        have hk4 : (W3.putObj (W0.heap.size + 1) (.loop (rec .ready none))).heap[W0.heap.size]? = some (.deferred (some [])) := (World.putObj_heap_other (by omega)).trans (hk3.same _ _ (Nat.le_refl _) hk2 rfl)
        refine ⟨.bool true, W3.putObj (W0.heap.size + 1) (.loop (rec .ready none)), ?_, .inl ⟨rfl, ⟨hI.putObj _ hi3 (by omega) hl3 rfl, hl4, hk4⟩, keepsTwo_t (keepsTwo_t hw2 hkp3) (hKb _ _ _ _ (by omega) hl3 rfl rfl)⟩⟩
        rw [hrec] at hr ⊢
        exact hr
      · intro ch a' W3 hd hk3 hp3
        exact ⟨hd, .inr ⟨ch, rfl, hp3, hk3.same _ _ (Nat.le_refl _) hk2 rfl⟩⟩
    · rintro e W2 (⟨⟨v, rfl⟩, hi, hl, hk⟩ | ⟨ch, rfl, hp, hk⟩)
      · refine ⟨W2.putObj (W0.heap.size + 1) (.loop { rec .ready none with state := .exhausted }), ?_, hdone _ _ (Nat.le_refl _) (hI.putObj _ hi (by omega) hl rfl) ((World.putObj_heap_other (by omega)).trans hk)⟩
        have := run_endLoop (P := Tryd.prog) hl (by rw [hrec]; simp); rw [hrec] at this; rw [hrec]; exact this
      · exact hpanic _ ch _ (Nat.le_refl _) hp hk
end Go.Proofs.YtplcdofpikdigaaDoor
