/- Chapter 8: strings.FieldsFuncSeq at the signs of names: what it hands back tells the parts of a text. -/
import Derived.Test.YtlcbdmmmafpchaaDoorn1
import Derived.Test.YtlcbdmmmafpchaaDoorS2
import Derived.RangeFuncNested
import Derived.RangeFuncBound
import Derived.RangeFuncCalls
import Derived.RangeFuncLeaves
import Derived.RangeFuncBox
import Derived.Shelf.Abstract
import Derived.Shelf.RegionOpen
import Derived.WalkKit
import Derived.OwnWalkIn
import Derived.TacticsInMore
import Derived.LoopNIn
import Derived.LoopIn
import Derived.Maps.AppendAt
import Derived.BigQuiet
import Derived.Deep.QuietTactic
import Derived.Deep.DeepCutAuto
import Derived.Lib.RuneCountTail
namespace Go.Proofs.YtlcbdmmmafpchaaDoor
open Go.RowKit Go.BigFrame Go.Shelf
set_option linter.unusedSimpArgs false
set_option linter.unusedVariables false
set_option maxRecDepth 4000
attribute [local go_sem] Oper.semAt_some

theorem decGo_tail (s : ByteArray) (pos : Nat) (h : pos < s.size) : Lib.decodeGo (s.extract pos s.size) = Utf8.decode s pos := by
  unfold Lib.decodeGo
  rw [if_neg (by rw [Lib.tail_size]; omega), Lib.tail_decode, Nat.add_zero]
/-- The first m places of N. -/
def upF (N m : Nat) : List (Fin N) := (List.finRange N).take m
theorem upF_succ {N m : Nat} (h : m < N) : upF N (m + 1) = upF N m ++ [⟨m, h⟩] := by
  unfold upF
  rw [List.take_succ_eq_append_getElem (by simpa using h)]
  simp
theorem upF_len {N m : Nat} (h : m ≤ N) : (upF N m).length = m := by
  unfold upF; rw [List.length_take, List.length_finRange]; omega
theorem upF_zero (N : Nat) : upF N 0 = [] := rfl
/-- Two blocks lie as they lay, and all below n. -/
structure KeepsRd (p q n : Nat) (W W' : World) : Prop where
  one : W'.heap[p]? = W.heap[p]?
  two : W'.heap[q]? = W.heap[q]?
  low : Below n W W'
theorem keepsRd_t {p q n : Nat} {A B C : World} (h : KeepsRd p q n A B) (k : KeepsRd p q n B C) : KeepsRd p q n A C := ⟨k.one.trans h.one, k.two.trans h.two, h.low.trans k.low⟩
theorem keepsRd_refl (p q n : Nat) (W : World) : KeepsRd p q n W W := ⟨rfl, rfl, Below.refl _ _⟩
theorem keepsRd_below {p q n m : Nat} {W W' : World} (hb : Below m W W') (hp : p < m) (hq : q < m) (hn : n ≤ m) : KeepsRd p q n W W' := ⟨hb.block p hp, hb.block q hq, hb.mono hn⟩
theorem keepsRd_b {p q n : Nat} {w : World} (hp : p < w.heap.size) (hq : q < w.heap.size) (hn : n ≤ w.heap.size) (W : World) (l : Nat) (o o' : Obj) (hl : w.heap.size ≤ l) (ho : W.heap[l]? = some o) (h1 : o.isCells = false) (h2 : o.isWalk = false) : KeepsRd p q n W (W.putObj l o') :=
  ⟨World.putObj_heap_other (by omega), World.putObj_heap_other (by omega), belowK_b (w := w) hn W l o o' hl ho h1 h2⟩
/-- Part k. -/
def pieceEnc (ps : List ByteArray) (k : Fin ps.length) : Array Value := #[.string ps[k]]
theorem tabs_low {g3 g4 n : Nat} {W W' : World} (h : Lib.Utf8Tabs g3 g4 W) (hb : Below n W W') (h3 : g3 < n) (h4 : g4 < n) : Lib.Utf8Tabs g3 g4 W' :=
  ⟨fun c hc => (hb.cell (p := ⟨g3, c, none⟩) h3).trans (h.1 c hc), fun i hi => ⟨(hb.cell (p := ⟨g4, 2 * i, none⟩) h4).trans (h.2 i hi).1, (hb.cell (p := ⟨g4, 2 * i + 1, none⟩) h4).trans (h.2 i hi).2⟩⟩
def stI : Option Nat → Int
  | none => -1
  | some a => a

theorem cuts_yes (R : Nat) (w : World) (h : R = 32 ∨ R = 45) : Calls Tryd.prog 95 #[.int .i32 (R : Int)] w fun e w' => e = .returned (.bool true) ∧ w = w' := by
  rcases h with rfl | rfl
  · go_enter Tryd.func95, Tryd.ntmps95
    go_wp2
    go_ret
    exact ⟨rfl, rfl⟩
  · go_enter Tryd.func95, Tryd.ntmps95
    go_wp2
    go_ret
    exact ⟨rfl, rfl⟩
theorem cuts_no (R : Nat) (w : World) (h : ¬ (R = 32 ∨ R = 45)) : Calls Tryd.prog 95 #[.int .i32 (R : Int)] w fun e w' => e = .returned (.bool false) ∧ w = w' := by
  have h1 : ((R : Int) == 32) = false := by simp; omega
  have h2 : ((R : Int) == 45) = false := by simp; omega
  clear h
  go_enter Tryd.func95, Tryd.ntmps95
  go_wp2
  go_ret
  exact ⟨rfl, rfl⟩
theorem fields_is (S : ByteArray) (w : World) :
    Calls Tryd.prog 94 #[.string S, .func (.func 95) #[] #[]] w fun e w' => e = .returned (.func (.func 108) #[] #[.pointer (some ⟨w.heap.size, 0, none⟩), .pointer (some ⟨w.heap.size + 1, 0, none⟩)]) ∧
      w' = (w.alloc (.cells #[.string S] 9)).alloc (.cells #[.func (.func 95) #[] #[]] 97) := by
  go_enter Tryd.func94, Tryd.ntmps94
  go_wp2
  go_ret
  exact ⟨rfl, rfl⟩

set_option maxRecDepth 100000 in
set_option maxHeartbeats 4000000 in
theorem fields1_in (nn : Nat) (hnn : 1 ≤ nn) (S : ByteArray) (ps : List ByteArray) (hps : ps = partsU S) (lp Bs Bf n₀ : Nat) (hS : S.size ≤ 9223372036854775807) (J Jx : List (Fin ps.length) → World → Prop)
    (hY : ∀ pre x W, J pre W → pre.length < ps.length → YieldAt Fence.wide (nn - 1) Tryd.prog lp (pieceEnc ps x) W fun e W' =>
      (e = .returned (.bool true) ∧ J (pre ++ [x]) W' ∧ KeepsRd Bs Bf n₀ W W') ∨ (e = .returned (.bool false) ∧ Jx (pre ++ [x]) W'))
    (W : World) (hBs : W.cell? ⟨Bs, 0, none⟩ = some (.string S)) (hBf : W.cell? ⟨Bf, 0, none⟩ = some (.func (.func 95) #[] #[])) (hT : Lib.Utf8Tabs 3 4 W) (hn₀ : n₀ ≤ W.heap.size)
    (h3 : 3 < n₀) (h4 : 4 < n₀) (hJd : ∀ s A B, J s A → Below A.heap.size A B → J s B) (h0 : J [] W) :
    CallsIn Fence.wide nn Tryd.prog 108 #[.func (.yield lp) #[] #[], .pointer (some ⟨Bs, 0, none⟩), .pointer (some ⟨Bf, 0, none⟩)] W fun e W' => (∃ v, e = .returned v) ∧
      ((∃ ys, ys = upF ps.length ps.length ∧ J ys W') ∨ (∃ pre, (∃ k, k ≤ ps.length ∧ pre = upF ps.length k) ∧ Jx pre W')) := by
  have hsl : Bs < W.heap.size := World.block_lt_of_cell? W _ hBs
  have hfl : Bf < W.heap.size := World.block_lt_of_cell? W _ hBf
  obtain ⟨N, hN⟩ : ∃ N, N = S.size := ⟨_, rfl⟩
  have HBs := Lib.hid hBs; have HBf := Lib.hid hBf; have HT := Lib.hid hT; have HN := Lib.hid hN; have HPS := Lib.hid hps; have HL := Lib.hid (And.intro hsl (And.intro hfl hn₀)); have HG := Lib.hid (And.intro h3 h4)
  rw [← hN] at hS
  clear hBs hBf hT hN hps hsl hfl hn₀ h3 h4
  refine callsIn_wide.2 ?_
  go_enter Tryd.func108, Tryd.ntmps108
  go_wp2_with fail
  go_loopw [4, 5] (fun st en wr => ∃ (k m f : Nat) (o : Option Nat), en = .int .i64 k ∧ st = .int .i64 (stI o) ∧ k ≤ N ∧ m ≤ ps.length ∧ N - k < f ∧ (∀ a, o = some a → a ≤ k) ∧ Hid (KeepsRd Bs Bf n₀ W wr) ∧ Hid (J (upF ps.length m) wr) ∧ Hid (ptsU S f k o = ps.drop m))
    (fun _ en _ => N - (intOf en).toNat)
  case atStart => exact ⟨0, 0, S.size + 1, none, rfl, rfl, by omega, by omega, by rw [HN.out]; omega, by simp, keepsRd_refl _ _ _ _, h0, by rw [HPS.out]; rfl⟩
  case round =>
    obtain ⟨k, m, f, o, rfl, hst, hk, hm, hf, ho, HK, HJ, HP⟩ := hrel
    have hb1 : wr.cell? ⟨Bs, 0, none⟩ = some (.string S) := (World.cell?_of_block (w := W) HK.out.one).trans HBs.out
    have hbs : wr.heap.size ≥ W.heap.size := HK.out.low.size
    have hT1 := tabs_low HT.out HK.out.low HG.out.1 HG.out.2
    have HSZ := Lib.hid HN.out
    by_cases hlt : k < N
    · obtain ⟨g, rfl⟩ : ∃ g, f = g + 1 := ⟨f - 1, by omega⟩
      have hkS : k < S.size := by rw [← HN.out]; exact hlt
      have HD := Tryd.utf8_DecodeRuneInString (S.extract k S.size) wr hT1
      rw [decGo_tail S k hkS] at HD
      have hw := dec_w S k hkS
      have hr := Lib.rune_le S k
      have hcut : ∀ a, (Utf8.decode S k).1 = 32 ∨ (Utf8.decode S k).1 = 45 → ptsU S (g + 1) k (some a) = S.extract a k :: ptsU S g (k + (Utf8.decode S k).2) none := fun a h => ptsU_cut hkS h
      have hskip : (Utf8.decode S k).1 = 32 ∨ (Utf8.decode S k).1 = 45 → ptsU S (g + 1) k none = ptsU S g (k + (Utf8.decode S k).2) none := fun h => ptsU_skip hkS h
      have hin : ¬ ((Utf8.decode S k).1 = 32 ∨ (Utf8.decode S k).1 = 45) → ptsU S (g + 1) k o = ptsU S g (k + (Utf8.decode S k).2) (some (o.getD k)) := fun h => ptsU_in hkS h
      obtain ⟨R, hR⟩ : ∃ R, R = (Utf8.decode S k).1 := ⟨_, rfl⟩
      obtain ⟨z, hz⟩ : ∃ z, z = (Utf8.decode S k).2 := ⟨_, rfl⟩
      rw [← hR, ← hz] at HD
      rw [← hR, ← hz] at hin hskip
      rw [← hR, ← hz] at hcut
      rw [← hz, ← HN.out] at hw
      rw [← hR] at hr
      obtain ⟨hw1, hw2⟩ := hw
      have HD' := Lib.hid HD; have HCUT := Lib.hid hcut; have HSK := Lib.hid hskip; have HIN := Lib.hid hin
      clear HD hcut hskip hin hR hz hT1 hkS
      have hsN : (S.size : Int) = (N : Int) := by rw [HN.out]
      by_cases hc : R = 32 ∨ R = 45
      · have HC := Lib.hid (fun W' => cuts_yes R W' hc)
        cases o with
        | none =>
          obtain rfl : _ = Value.int .i64 (-1) := hst
          have HP2 := HSK.out hc
          have HP3 := Lib.hid (HP2.symm.trans HP.out)
          clear HP2 HSK HCUT HIN hc
          go_wp2_with fail
          refine HD'.out.mono ?_
          rintro e w1 ⟨rfl, hb⟩
          have hK1 := keepsRd_t HK.out (keepsRd_below hb (Nat.lt_of_lt_of_le HL.out.1 hbs) (Nat.lt_of_lt_of_le HL.out.2.1 hbs) (Nat.le_trans HL.out.2.2 hbs))
          have hb2 : w1.cell? ⟨Bf, 0, none⟩ = some (.func (.func 95) #[] #[]) := (World.cell?_of_block (w := W) hK1.two).trans HBf.out
          have HJ2 := Lib.hid (hJd _ _ _ HJ.out hb); have HK2 := Lib.hid hK1
          clear hb hb1 hK1 HK HJ
          go_wp2_with fail
          refine (HC.out w1).mono ?_
          rintro e w2 ⟨rfl, rfl⟩
          go_wp2_with fail
          go_roundw
          case rel => exact ⟨k + z, m, g, none, by go_num, rfl, hw2, hm, by omega, by simp, HK2.out, HJ2.out, HP3.out⟩
          case measure => simp [intOf] <;> omega
        | some a =>
          obtain rfl : _ = Value.int .i64 (a : Int) := hst
          have hak : a ≤ k := ho a rfl
          have HP2 := (HCUT.out a hc).symm.trans HP.out
          have hml : m < ps.length := by
            refine Nat.lt_of_not_le fun h => ?_
            rw [List.drop_of_length_le h] at HP2; cases HP2
          rw [List.drop_eq_getElem_cons hml] at HP2
          injection HP2 with hp1 hp2
          have HE : Hid (pieceEnc ps ⟨m, hml⟩ = #[.string (S.extract a k)]) := by unfold pieceEnc; simp only [Fin.getElem_fin]; rw [← hp1]; exact rfl
          have HP3 := Lib.hid hp2
          have HU := Lib.hid (upF_succ hml)
          have ha0 : (0 : Int) ≤ (a : Int) := by omega
          clear hp1 hp2 HSK HCUT HIN hc
          go_wp2_with fail
          refine HD'.out.mono ?_
          rintro e w1 ⟨rfl, hb⟩
          have hK1 := keepsRd_t HK.out (keepsRd_below hb (Nat.lt_of_lt_of_le HL.out.1 hbs) (Nat.lt_of_lt_of_le HL.out.2.1 hbs) (Nat.le_trans HL.out.2.2 hbs))
          have hb2 : w1.cell? ⟨Bf, 0, none⟩ = some (.func (.func 95) #[] #[]) := (World.cell?_of_block (w := W) hK1.two).trans HBf.out
          have hb3 : w1.cell? ⟨Bs, 0, none⟩ = some (.string S) := (World.cell?_of_block (w := W) hK1.one).trans HBs.out
          have hj2 := hJd _ _ _ HJ.out hb
          have HK2 := Lib.hid hK1
          obtain ⟨fn, tmps, assign, body, hy, hR⟩ := hY (upF ps.length m) ⟨m, hml⟩ w1 hj2 (by rw [upF_len (Nat.le_of_lt hml)]; exact hml)
          rw [HE.out] at hy
          clear hb hb1 hK1 HK HJ hj2 HD'
          go_wp2_with fail
          refine (HC.out w1).mono ?_
          rintro e w2 ⟨rfl, rfl⟩
          clear HC
          go_upto_region 6 with (fail)
          refine (wpIn_wide (n := nn)).1 ?_
          gi_wp2
          refine hR.mono ?_
          rintro e W3 (⟨rfl, hJ3, hk3⟩ | ⟨rfl, hJx3⟩)
          · have HJ3 := Lib.hid hJ3; have HK3 := Lib.hid hk3; clear hJ3 hk3 hR hy
            gi_wp2
            go_wp2_with fail
            go_roundw
            case rel => exact ⟨k + z, m + 1, g, none, by go_num, rfl, hw2, hml, by omega, by simp, keepsRd_t HK2.out HK3.out, by have := HJ3.out; rw [← HU.out] at this; exact this, HP3.out⟩
            case measure => simp [intOf] <;> omega
          · have HJ3 := Lib.hid hJx3; clear hJx3 hR hy
            gi_wp2
            go_wp2_with fail
            refine bodyPost_ret (results_none rfl _ _ _) rfl ?_
            exact ⟨⟨_, rfl⟩, .inr ⟨_, ⟨m + 1, by omega, HU.out.symm⟩, HJ3.out⟩⟩
      · have HC := Lib.hid (fun W' => cuts_no R W' hc)
        have HP2 := HIN.out hc
        have HP3 := Lib.hid (HP2.symm.trans HP.out)
        clear HP2 HSK HCUT HIN hc
        cases o with
        | none =>
          obtain rfl : _ = Value.int .i64 (-1) := hst
          go_wp2_with fail
          refine HD'.out.mono ?_
          rintro e w1 ⟨rfl, hb⟩
          have hK1 := keepsRd_t HK.out (keepsRd_below hb (Nat.lt_of_lt_of_le HL.out.1 hbs) (Nat.lt_of_lt_of_le HL.out.2.1 hbs) (Nat.le_trans HL.out.2.2 hbs))
          have hb2 : w1.cell? ⟨Bf, 0, none⟩ = some (.func (.func 95) #[] #[]) := (World.cell?_of_block (w := W) hK1.two).trans HBf.out
          have HJ2 := Lib.hid (hJd _ _ _ HJ.out hb); have HK2 := Lib.hid hK1
          clear hb hb1 hK1 HK HJ
          go_wp2_with fail
          refine (HC.out w1).mono ?_
          rintro e w2 ⟨rfl, rfl⟩
          go_wp2_with fail
          go_roundw
          case rel => exact ⟨k + z, m, g, some k, by go_num, rfl, hw2, hm, by omega, by simp, HK2.out, HJ2.out, HP3.out⟩
          case measure => simp [intOf] <;> omega
        | some a =>
          obtain rfl : _ = Value.int .i64 (a : Int) := hst
          have hak : a ≤ k := ho a rfl
          have ha0 : (0 : Int) ≤ (a : Int) := by omega
          have ha1 : ¬ (a : Int) < 0 := by omega
          go_wp2_with fail
          refine HD'.out.mono ?_
          rintro e w1 ⟨rfl, hb⟩
          have hK1 := keepsRd_t HK.out (keepsRd_below hb (Nat.lt_of_lt_of_le HL.out.1 hbs) (Nat.lt_of_lt_of_le HL.out.2.1 hbs) (Nat.le_trans HL.out.2.2 hbs))
          have hb2 : w1.cell? ⟨Bf, 0, none⟩ = some (.func (.func 95) #[] #[]) := (World.cell?_of_block (w := W) hK1.two).trans HBf.out
          have HJ2 := Lib.hid (hJd _ _ _ HJ.out hb); have HK2 := Lib.hid hK1
          clear hb hb1 hK1 HK HJ
          go_wp2_with fail
          refine (HC.out w1).mono ?_
          rintro e w2 ⟨rfl, rfl⟩
          go_wp2_with fail
          go_roundw
          case rel => exact ⟨k + z, m, g, some a, by go_num, rfl, hw2, hm, by omega, (fun b e => by injection e with e; omega), HK2.out, HJ2.out, HP3.out⟩
          case measure => simp [intOf] <;> omega
    · obtain rfl : k = N := by omega
      have HE := HP.out
      rw [ptsU_end (by omega) (by rw [← HN.out]; omega)] at HE
      have hsN : (S.size : Int) = (k : Int) := by rw [HN.out]
      cases o with
      | none =>
        obtain rfl : _ = Value.int .i64 (-1) := hst
        have hml : m = ps.length := by
          have : ps.drop m = [] := HE.symm
          have := congrArg List.length this
          rw [List.length_drop] at this
          simp at this; omega
        subst hml
        clear HE
        go_wp2_with fail
        go_end0
        exact ⟨⟨_, rfl⟩, .inl ⟨_, rfl, HJ.out⟩⟩
      | some a =>
        obtain rfl : _ = Value.int .i64 (a : Int) := hst
        have hak : a ≤ k := ho a rfl
        have ha0 : (0 : Int) ≤ (a : Int) := by omega
        have hm1 : m + 1 = ps.length := by
          have := congrArg List.length HE
          rw [List.length_drop] at this
          simp at this; omega
        have hml : m < ps.length := by omega
        rw [List.drop_eq_getElem_cons hml] at HE
        injection HE with hp1 hp2
        have HE : Hid (pieceEnc ps ⟨m, hml⟩ = #[.string (S.extract a S.size)]) := by unfold pieceEnc; simp only [Fin.getElem_fin]; rw [← hp1]; exact rfl
        have HU := Lib.hid (upF_succ hml)
        obtain ⟨fn, tmps, assign, body, hy, hR⟩ := hY (upF ps.length m) ⟨m, hml⟩ wr HJ.out (by rw [upF_len (Nat.le_of_lt hml)]; exact hml)
        rw [HE.out] at hy
        clear hp1 hp2
        go_upto_region 12 with (fail)
        refine (wpIn_wide (n := nn)).1 ?_
        gi_wp2
        refine hR.mono ?_
        rintro e W3 (⟨rfl, hJ3, hk3⟩ | ⟨rfl, hJx3⟩)
        · have HJ3 := Lib.hid hJ3; clear hJ3 hk3 hR hy
          gi_wp2
          go_wp2_with fail
          go_end0
          exact ⟨⟨_, rfl⟩, .inl ⟨_, rfl, by have := HJ3.out; rw [← HU.out, hm1] at this; exact this⟩⟩
        · have HJ3 := Lib.hid hJx3; clear hJx3 hR hy
          gi_wp2
          go_wp2_with fail
          go_end0
          exact ⟨⟨_, rfl⟩, .inr ⟨_, ⟨m + 1, by omega, HU.out.symm⟩, HJ3.out⟩⟩

/-- What FieldsFuncSeq hands back tells all parts, in order, or the first of them. -/
theorem fields_stops (nn : Nat) (hnn : 1 ≤ nn) (S : ByteArray) (ps : List ByteArray) (hps : ps = partsU S) (Bs Bf n₀ : Nat) (hS : S.size ≤ 9223372036854775807) (w : World)
    (hBs : w.cell? ⟨Bs, 0, none⟩ = some (.string S)) (hBf : w.cell? ⟨Bf, 0, none⟩ = some (.func (.func 95) #[] #[])) (hT : Lib.Utf8Tabs 3 4 w) (hn₀ : n₀ ≤ w.heap.size)
    (h3 : 3 < n₀) (h4 : 4 < n₀) :
    SeqStopsK Fence.wide nn Tryd.prog 108 #[.pointer (some ⟨Bs, 0, none⟩), .pointer (some ⟨Bf, 0, none⟩)] (pieceEnc ps) (KeepsRd Bs Bf n₀) (fun ys => ys = upF ps.length ps.length) (fun pre => ∃ k, k ≤ ps.length ∧ pre = upF ps.length k) ps.length w := fun lp J Jx W hW hJ _ hY h0 =>
  fields1_in nn hnn S ps hps lp Bs Bf n₀ hS J Jx hY W ((hW.cell (p := ⟨Bs, 0, none⟩) (World.block_lt_of_cell? w _ hBs)).trans hBs) ((hW.cell (p := ⟨Bf, 0, none⟩) (World.block_lt_of_cell? w _ hBf)).trans hBf)
    (Utf8Tabs_below hT hW) (Nat.le_trans hn₀ hW.size) h3 h4
    (fun s A B hs hb => hJ s A B none hs ⟨hb.os, hb.tape, hb.output, hb.size, fun k hk _ => hb.block k hk⟩ (fun r e => by cases e)) h0
end Go.Proofs.YtlcbdmmmafpchaaDoor
