/- The program's own word: digits that wait in a channel. -/
import Derived.Test.YthbjaclobllkhaaO2
import Derived.Test.YthbjaclobllkhaaC1
import Derived.Test.YthbjaclobllkhaaI2
namespace Go.Proofs.Ythbjaclobllkhaa
open Go.RowKit Go.BigFrame Go.Shelf Go.Conc
set_option linter.unusedSimpArgs false
set_option linter.unusedVariables false
set_option maxRecDepth 4000

/-- The signs of digits. -/
def sgn (d : Nat) : UInt8 := UInt8.ofNat (48 + d)
def sgL (ds : List Nat) : List UInt8 := ds.map sgn
def sgV (ds : List Nat) : List Value := ds.map fun (d : Nat) => Value.int .u8 (48 + (d : Int))
theorem sgV_u8 {ds : List Nat} (h : ∀ d ∈ ds, d ≤ 9) : sgV ds = u8s (sgL ds) := by
  unfold sgV u8s sgL
  rw [List.map_map]
  refine List.map_congr_left (fun d hd => ?_)
  have := h d hd
  simp only [Function.comp, sgn]
  rw [show (UInt8.ofNat (48 + d)).toNat = 48 + d from by simp; omega]
  simp
theorem sgV_len (ds : List Nat) : (sgV ds).length = ds.length := by simp [sgV]

theorem WpN.seq_mid {P : Program} {Q : Exit → Act → World → Prop} {a : Act} {w : World} {x y : Code} (Mid : Act → World → Prop)
    (h1 : ∀ K : Act → World → Prop, Hid (∀ a w, Mid a w → K a w) → WpN P x (fun e a w => e = .normal ∧ K a w) a w) (h2 : ∀ a w, Mid a w → WpN P y Q a w) : WpN P (.seq x y) Q a w := by
  refine WpN.seq ((h1 Mid (fun _ _ h => h)).mono ?_)
  rintro e a' w' ⟨rfl, h⟩
  exact h2 a' w' h
theorem WpN.loop_k {P : Program} {Q : Exit → Act → World → Prop} {a : Act} {w : World} {c : Code} (I : Act → World → Prop) (m : Act → World → Nat) (h0 : I a w)
    (round : ∀ a w, I a w → ∀ K : Act → World → Prop, Hid (∀ a' w', I a' w' → m a' w' < m a w → K a' w') → WpN P c (Exit.then K Q) a w) : WpN P (.loop c) Q a w :=
  WpN.loop I m h0 (fun a w h => round a w h _ (fun a' w' h1 h2 => ⟨h1, h2⟩))
theorem sgV_more (Q0 : List Nat) (k d : Nat) : (sgV (Q0 ++ List.replicate k d)).toArray.push (.int .u8 (48 + (d : Int))) = (sgV (Q0 ++ List.replicate (k + 1) d)).toArray := by
  simp [sgV, List.replicate_succ']
theorem ext_one (x : Value) (l : List Value) : (x :: l).toArray.extract 1 (x :: l).toArray.size = l.toArray := by simp
theorem setChan_else (w : World) (c c' cap : Nat) (buf : Array Value) (cl : Bool) (s r : Nat) (tm : Bool) (h : c' ≠ c) : (w.setChan c cap buf cl s r tm).heap[c']? = w.heap[c']? := by
  simp only [World.setChan]; rw [Array.getElem?_setIfInBounds_ne (by omega)]
def lenV : Value → Nat
  | .slice _ l _ => l
  | _ => 0
/-- The row of digits and the digits that wait. -/
structure OwnSt (w : World) (B c n : Nat) (v : Value) (T Qd : List Nat) (W : World) : Prop where
  row : W.ownsRow B 5 1 v T.length (sgV T)
  chan : ∃ s r, W.heap[c]? = some (.chan n (sgV Qd).toArray false s r false)
  bel : Below B w W
  low : B ≤ c
theorem OwnSt.far {w : World} {B c n : Nat} {v : Value} {T Qd : List Nat} {W : World} (h : OwnSt w B c n v T Qd W) : ∀ k, v.ownBlock = some k → k ≠ c := by
  intro k e hk
  subst hk
  obtain ⟨s, r, hc⟩ := h.chan
  rcases h.row.2 with ⟨rfl, _⟩ | ⟨g, cap, cur, rfl, _, hg, _⟩
  · cases e
  · have e' : g = k := by simpa [Value.ownBlock] using e
    subst e'
    rw [hg] at hc; cases hc
theorem OwnSt.set {w : World} {B c n : Nat} {v : Value} {T Qd Qe : List Nat} {W : World} (h : OwnSt w B c n v T Qd W) (s r : Nat) : OwnSt w B c n v T Qe (W.setChan c n (sgV Qe).toArray false s r false) := by
  obtain ⟨s0, r0, hc⟩ := h.chan
  have hlt : c < W.heap.size := (Array.getElem?_eq_some_iff.1 hc).1
  exact ⟨own_block h.row (fun k e => setChan_else _ _ _ _ _ _ _ _ _ (h.far k e)), ⟨s, r, heap_setChan _ _ _ _ _ _ _ _ hlt⟩, below_setChan h.bel h.low _ _ _ _ _ _, h.low⟩

set_option maxHeartbeats 1000000 in
theorem ownText_any (a b n : Nat) (w : World) (ha : 1 ≤ a ∧ a ≤ 9) (hb : 1 ≤ b ∧ b ≤ 9) (hn : n ≤ 100000) :
    Calls Try.prog 52 #[.int .i64 (a : Int), .int .i64 (b : Int), .int .i64 (n : Int)] w fun e w' => e = .returned (.string (bs (sgL (gOwn a b n)))) ∧ Below w.heap.size w w' := by
  obtain ⟨i0, hi, hz0, hz1, hz2⟩ := info_parts info_byte
  have hmc : ∀ W : World, (Instr.makeChan 78 (.int .i64 (n : Int))).run Try.prog W = .ok (.chan (some W.heap.size)) (W.alloc (.chan n #[] false 0 0 false)) := fun W => by
    simpa using run_makeChan (P := Try.prog) (w := W) Try.underlying78 hi .i64 n (by omega) (by rw [hz2]; omega)
  refine calls_of_wpN Try.func52 rfl ?_
  simp only [Try.ntmps52, List.size_toArray, List.length_cons, List.length_nil, Nat.reduceAdd, Nat.reduceSub, Array.replicate_succ, Array.replicate_zero, List.push_toArray, List.append_toArray, List.nil_append, List.cons_append]
  refine WpN.seq (WpN.of_wp ?_)
  go_wp2_with fail
  refine WpN.seq (WpN.of_wp ?_)
  go_wp2_with (refine wpList_make_own _ rfl _ _ 22 rfl w.heap.size 5 i0 (.int .u8 0) 1 Try.underlying22 hi hz0 hz1 .i64 .i64 (n : Int) n rfl rfl rfl (by rw [hz2]; omega) (by unfold maxLen; omega) (Nat.le_refl _) ?_; intro w1 hown hgr)
  have HO := Lib.hid hown; have HB := Lib.hid ((Below.refl w.heap.size w).grown hgr (Nat.le_refl _) (fun k h => by cases h))
  clear hown hgr
  refine WpN.seq (WpN.of_wp ?_)
  go_wp2_with fail
  obtain ⟨c, hc⟩ : ∃ c, c = w1.heap.size := ⟨_, rfl⟩
  have hc2 := HB.out.size
  have st0 : OwnSt w w.heap.size c n (.slice (some ⟨w.heap.size, 0, none⟩) 0 n) [] [] (w1.alloc (.chan n #[] false 0 0 false)) :=
    ⟨own_below HO.out (below_alloc _ _), ⟨0, 0, by rw [hc]; exact heap_alloc_new _ _⟩, HB.out.trans ((below_alloc _ _).mono hc2), by omega⟩
  have ST0 := Lib.hid st0
  rw [← hc]
  generalize w1.alloc (.chan n #[] false 0 0 false) = w2 at *
  clear st0 hc hc2
  refine WpN.seq ?_
  refine WpN.seq (WpN.of_wp ?_)
  go_wp2_with fail
  refine (signOf_is _ _ (by omega) (by omega)).mono ?_
  rintro e w3 ⟨rfl, rfl⟩
  go_wp2_with fail
  refine (signOf_is _ _ (by omega) (by omega)).mono ?_
  rintro e w3 ⟨rfl, rfl⟩
  go_wp2_with fail
  refine WpN.block ?_
  refine WpN.loop_k (fun a' W => ∃ (r : Nat) (T : List Nat) (av : Option Addr) (cv : Nat) (u11 u12 u21 u22 u23 u24 u25 u26 u27 u28 u29 u30 u31 u32 u33 u34 u35 u36 u37 u38 u39 u40 u41 u42 u43 u44 u45 u46 u47 u48 u49 u50 u51 u52 u53 u54 u55 : Value), a' = { tmps := #[.int .i64 (a : Int), .int .i64 (b : Int), .int .i64 (n : Int), undef, undef, undef, .string ⟨#[]⟩, .slice av T.length cv, .chan (some c), .int .u8 (48 + (gD a b r : Int)), .int .u8 (48 + (gD b a r : Int)), u11, u12, .int .i64 (n : Int), .slice (some ⟨w.heap.size, 0, none⟩) 0 n, .int .i64 (n : Int), .chan (some c), .int .i64 (a : Int), .int .u8 (48 + (a : Int)), .int .i64 (b : Int), .int .u8 (48 + (b : Int)), u21, u22, u23, u24, u25, u26, u27, u28, u29, u30, u31, u32, u33, u34, u35, u36, u37, u38, u39, u40, u41, u42, u43, u44, u45, u46, u47, u48, u49, u50, u51, u52, u53, u54, u55, undef, undef], defers := [] } ∧ r ≤ n ∧ T = (gG a b r).take n ∧ OwnSt w w.heap.size c n (.slice av T.length cv) T (T.drop r) W) (fun a' _ => n - lenV (a'.tmps.getD 7 undef)) ?_ ?_
  · exact ⟨0, [], _, _, _, _, _, _, _, _, _, _, _, _, _, _, _, _, _, _, _, _, _, _, _, _, _, _, _, _, _, _, _, _, _, _, _, _, _, _, _, rfl, Nat.zero_le _, by simp [gG], by simpa using ST0.out⟩
  · rintro _ W ⟨r, T, av, cv, u11, u12, u21, u22, u23, u24, u25, u26, u27, u28, u29, u30, u31, u32, u33, u34, u35, u36, u37, u38, u39, u40, u41, u42, u43, u44, u45, u46, u47, u48, u49, u50, u51, u52, u53, u54, u55, rfl, hr, hT, st⟩ KO HKO
    have ST := Lib.hid st; clear st ST0 HO HB
    have hTn : T.length ≤ n := by rw [hT, List.length_take]; omega
    have hgl := gG_len a b ha.1 hb.1 r
    have hrT : r ≤ T.length := by rw [hT, List.length_take]; omega
    obtain ⟨d, hd⟩ : ∃ d, d = gD a b r := ⟨_, rfl⟩
    have hd9 : 1 ≤ d ∧ d ≤ 9 := by rcases gD_mem a b r with h | h <;> omega
    have hd2 : gD b a (r + 1) = d := by rw [hd, gD_swap b a r]
    have hd3 := gD_swap a b r
    have HD := Lib.hid hd; have HD2 := Lib.hid hd2; have HD3 := Lib.hid hd3; have HT := Lib.hid hT
    clear hd2 hd3 hT
    by_cases hlt : T.length < n
    · have hT := HT.out
      have hTG : T = gG a b r := by
        rw [hT, List.length_take] at hlt
        rw [hT]; exact List.take_of_length_le (by omega)
      have hT9 : ∀ x ∈ T, 1 ≤ x ∧ x ≤ 9 := fun x hx => by
        rw [hTG] at hx
        rcases gG_mem a b r x hx with h | h <;> omega
      rw [← hd]
      have HTG := Lib.hid hTG
      clear hT hTG hd
      refine WpN.seq (WpN.seq (WpN.of_wp ?_))
      go_wp2_with fail
      refine WpN.of_wp ?_
      go_wp2_with fail
      refine WpN.seq (WpN.block ?_)
      refine WpN.seq (WpN.of_wp ?_)
      go_wp2_with fail
      refine WpN.seq_mid (fun a' W => ∃ (T0 Q0 : List Nat) (x : Nat) (av : Option Addr) (cv : Nat) (u12 u21 u22 u23 u24 u25 u26 u27 u28 u29 u30 u31 u32 u33 u34 u35 u36 u37 u38 u39 u40 u41 u42 u43 u44 u45 u46 u47 u48 u49 u50 u51 u52 u53 u54 u55 : Value), a' = { tmps := #[.int .i64 (a : Int), .int .i64 (b : Int), .int .i64 (n : Int), undef, undef, undef, .string ⟨#[]⟩, .slice av T0.length cv, .chan (some c), .int .u8 (48 + (d : Int)), .int .u8 (48 + (gD b a r : Int)), .int .i64 (x : Int), u12, .int .i64 (n : Int), .slice (some ⟨w.heap.size, 0, none⟩) 0 n, .int .i64 (n : Int), .chan (some c), .int .i64 (a : Int), .int .u8 (48 + (a : Int)), .int .i64 (b : Int), .int .u8 (48 + (b : Int)), u21, u22, u23, u24, u25, u26, u27, u28, u29, u30, u31, u32, u33, u34, u35, u36, u37, u38, u39, u40, u41, u42, u43, u44, u45, u46, u47, u48, u49, u50, u51, u52, u53, u54, u55, undef, undef], defers := [] } ∧ x ≤ 9 ∧ T0.length ≤ n ∧ Q0.length ≤ T0.length ∧ T.length < T0.length + min x (n - T0.length) ∧
        (gG a b (r + 1)).take n = T0 ++ List.replicate (min x (n - T0.length)) d ∧ ((gG a b (r + 1)).take n).drop (r + 1) = Q0 ++ List.replicate (min x (n - T0.length)) d ∧ OwnSt w w.heap.size c n (.slice av T0.length cv) T0 Q0 W) ?_ ?_
      · intro K HK
        refine WpN.seq (WpN.of_wp ?_)
        go_wp2_with fail
        refine WpN.seq (WpN.region ?_)
        obtain ⟨s, q, hch⟩ := ST.out.chan
        by_cases hrl : r < T.length
        · obtain ⟨x, hx⟩ : ∃ x, T[r]? = some x := ⟨_, List.getElem?_eq_getElem hrl⟩
          have hx9 := hT9 x (List.mem_of_getElem? hx)
          have hdr : T.drop r = x :: T.drop (r + 1) := by
            rw [List.drop_eq_getElem_cons hrl]
            rw [List.getElem?_eq_getElem hrl] at hx
            rw [Option.some.inj hx]
          have hr1 := gG_round a b r n T x HTG.out hx hlt
          rw [← HD.out] at hr1
          have HR1 := Lib.hid hr1; clear hr1
          refine WpIN.recv (c := c) (z := .int .u8 0) (cap := n) (buf := (sgV (T.drop r)).toArray) (closed := false) (s := s) (r := q) (tm := false) rfl (by kernel_rfl) (by simp [go_sem, execOp, rcase, Act.eval, hi, hz0]) hch (by rw [hdr]; simp [sgV]) ?_
          rw [show (sgV (T.drop r)).toArray.getD 0 undef = .int .u8 (48 + (x : Int)) by rw [hdr]; simp [sgV],
            show (sgV (T.drop r)).toArray.extract 1 (sgV (T.drop r)).toArray.size = (sgV (T.drop (r + 1))).toArray by rw [hdr]; exact ext_one _ _]
          have ST1 := Lib.hid (ST.out.set (Qe := T.drop (r + 1)) s (q + 1))
          generalize W.setChan c n (sgV (T.drop (r + 1))).toArray false s (q + 1) false = W1 at *
          refine WpIN.value rfl (by kernel_rfl) (v := .int .i64 0) (w1 := W1) (by simp [go_sem, execOp, Act.eval, Act.put, goInt]) ?_
          refine WpIN.value rfl (by kernel_rfl) (v := .bool true) (w1 := W1) (by simp [go_sem, execOp, Act.eval, Act.put]) ?_
          refine WpIN.nil ?_
          clear hch
          simp only [Exit.then, Act.put, List.setIfInBounds_toArray, List.set_cons_zero, List.set_cons_succ, goInt]
          refine WpN.of_wp ?_
          have hx48 : (48 + (x : Int) - 48) = x := by omega
          go_wp2_with (go_at_call 37; refine (digitOf_is _ _ (by omega) (by omega)).mono ?_; rintro e w' ⟨rfl, rfl⟩)
          refine HK.out _ _ ⟨T, T.drop (r + 1), x, av, cv, _, _, _, _, _, _, _, _, _, _, _, _, _, _, _, _, _, _, _, _, _, _, _, _, _, _, _, _, _, _, _, _, _, _, _, _, rfl, hx9.2, by omega, by simp, by omega, HR1.out, ?_, ST1.out⟩
          rw [HR1.out, List.drop_append_of_le_length (by omega)]
        · have hrl2 : T.length = r := by omega
          have hr1 := gG_round0 a b r n T HTG.out hrl2 hlt ha.1 hb.1
          rw [← HD.out] at hr1
          have HR1 := Lib.hid hr1; clear hr1
          have hdr : T.drop r = [] := List.drop_eq_nil_of_le (by omega)
          rw [hdr] at hch
          clear hdr
          have HRL := Lib.hid hrl2; clear hrl2 hrl
          refine WpIN.none (c := c) (z := .int .u8 0) (cap := n) (s := s) (r := q) (tm := false) rfl (by kernel_rfl) (by simp [go_sem, execOp, rcase, Act.eval, hi, hz0]) hch ?_
          refine WpIN.value rfl (by kernel_rfl) (v := .int .i64 (-1)) (w1 := W) (by simp [go_sem, execOp, Act.eval, Act.put, goInt]) ?_
          refine WpIN.value rfl (by kernel_rfl) (v := .bool false) (w1 := W) (by simp [go_sem, execOp, Act.eval, Act.put]) ?_
          refine WpIN.nil ?_
          have HCH := Lib.hid hch; clear hch
          simp only [Exit.then, Act.put, List.setIfInBounds_toArray, List.set_cons_zero, List.set_cons_succ, goInt]
          refine WpN.of_wp ?_
          go_wp2_with (at_builtin; refine wpList_app _ rfl _ _ 22 rfl w.heap.size 5 i0 (.int .u8 0) 1 Try.underlying22 hi hz0 hz1 hz2 rfl _ T.length _ rfl (ST.out.row.alloc _) _ 1 1 [.int .u8 (48 + (d : Int))] rfl rfl ?c1 ?c2 ?c3 ?c4 ?c5 ?_)
          case c1 => intro j u hj; cases j with | zero => (simp at hj; subst hj; simp [Addr.add]) | succ j => simp at hj
          case c2 => intro u hu; simp at hu; subst hu; rfl
          case c3 => unfold maxLen; omega
          case c4 => omega
          case c5 => have := ST.out.bel.size; simp; omega
          intro v' w3 hown' hgrow _
          obtain ⟨av', cv', rfl⟩ := own_slice hown'
          have hfar := ST.out.far
          have hcl : c < W.heap.size := (Array.getElem?_eq_some_iff.1 HCH.out).1
          have R1 : Hid (OwnSt w w.heap.size c n (.slice av' (T.length + 1) cv') (T ++ [d]) [] w3) := by
            refine ⟨by simpa [sgV] using hown', ⟨s, q, ?_⟩, (ST.out.bel.alloc ST.out.bel.size _).grown hgrow (by have := ST.out.bel.size; simp; omega) (fun q hq => (ST.out.row.lt q hq).1), ST.out.low⟩
            rw [hgrow.block c (by simp; omega) (fun e => hfar c e.symm rfl)]
            exact ((below_alloc _ _).block c hcl).trans HCH.out
          clear hown' hgrow
          have hd48 : (48 + (d : Int) - 48) - 1 = ((d - 1 : Nat) : Int) := by omega
          go_wp2_with (go_at_call 37; refine (digitOf_is _ _ (by omega) (by omega)).mono ?_; rintro e w' ⟨rfl, rfl⟩)
          have e1 : T.length + 1 = (T ++ [d]).length := by simp
          rw [e1]
          refine HK.out _ _ ⟨T ++ [d], [], d - 1, av', cv', _, _, _, _, _, _, _, _, _, _, _, _, _, _, _, _, _, _, _, _, _, _, _, _, _, _, _, _, _, _, _, _, _, _, _, _, rfl, by omega, by simp; omega, by simp, by simp; omega, ?_, ?_, by rw [← e1]; exact R1.out⟩
          · rw [HR1.out]; simp
          · have hl2 := HRL.out
            rw [HR1.out, ← List.singleton_append, ← List.append_assoc, List.drop_append_of_le_length (by simp; omega), List.drop_eq_nil_of_le (by simp; omega)]
            simp
      · rintro _ W2 ⟨T0, Q0, x, av, cv, u12, u21, u22, u23, u24, u25, u26, u27, u28, u29, u30, u31, u32, u33, u34, u35, u36, u37, u38, u39, u40, u41, u42, u43, u44, u45, u46, u47, u48, u49, u50, u51, u52, u53, u54, u55, rfl, hx9, hT0, hQ0, hgrow, hnx, hnq, st⟩
        have ST2 := Lib.hid st; have HNX := Lib.hid hnx; have HNQ := Lib.hid hnq; have HGR := Lib.hid hgrow
        clear st hnx hnq hgrow ST
        obtain ⟨M, hM⟩ : ∃ M, M = min x (n - T0.length) := ⟨_, rfl⟩
        rw [← hM] at HNX HNQ HGR
        have HM := Lib.hid hM; clear hM
        refine WpN.seq_mid (fun a' W => ∃ (u11 u12 u21 u22 u23 u24 u25 u26 u27 u28 u29 u30 u31 u32 u33 u34 u35 u36 u37 u38 u39 u40 u41 u42 u43 u44 u45 u48 u49 u50 u51 u52 u53 u54 u55 : Value), a' = { tmps := #[.int .i64 (a : Int), .int .i64 (b : Int), .int .i64 (n : Int), undef, undef, undef, .string ⟨#[]⟩, .slice av T0.length cv, .chan (some c), .int .u8 (48 + (d : Int)), .int .u8 (48 + (gD b a r : Int)), u11, u12, .int .i64 (n : Int), .slice (some ⟨w.heap.size, 0, none⟩) 0 n, .int .i64 (n : Int), .chan (some c), .int .i64 (a : Int), .int .u8 (48 + (a : Int)), .int .i64 (b : Int), .int .u8 (48 + (b : Int)), u21, u22, u23, u24, u25, u26, u27, u28, u29, u30, u31, u32, u33, u34, u35, u36, u37, u38, u39, u40, u41, u42, u43, u44, u45, .int .i64 (M : Int), .int .i64 0, u48, u49, u50, u51, u52, u53, u54, u55, undef, undef], defers := [] } ∧ W = W2) ?_ ?_
        · intro K HK
          refine WpN.of_wp ?_
          by_cases hxn : x ≤ n - T0.length
          · have hMx : x = M := by have := HM.out; omega
            rw [hMx] at hxn hx9 ⊢
            clear hMx
            go_wp2_with fail
            exact HK.out _ _ ⟨_, _, _, _, _, _, _, _, _, _, _, _, _, _, _, _, _, _, _, _, _, _, _, _, _, _, _, _, _, _, _, _, _, _, _, rfl, rfl⟩
          · have e : (n : Int) - (T0.length : Int) = (M : Int) := by have := HM.out; omega
            go_wp2_with fail
            try rw [e]
            exact HK.out _ _ ⟨_, _, _, _, _, _, _, _, _, _, _, _, _, _, _, _, _, _, _, _, _, _, _, _, _, _, _, _, _, _, _, _, _, _, _, rfl, rfl⟩
        rintro _ _ ⟨u11, u12, u21, u22, u23, u24, u25, u26, u27, u28, u29, u30, u31, u32, u33, u34, u35, u36, u37, u38, u39, u40, u41, u42, u43, u44, u45, u48, u49, u50, u51, u52, u53, u54, u55, rfl, rfl⟩
        refine WpN.block (WpN.loop_k (fun a' W => ∃ (k : Nat) (av : Option Addr) (cv : Nat) (u11 u12 u21 u22 u23 u24 u25 u26 u27 u28 u29 u30 u31 u32 u33 u34 u35 u36 u37 u38 u39 u40 u41 u42 u43 u44 u45 u48 u49 u50 u51 u52 u53 u54 u55 : Value), a' = { tmps := #[.int .i64 (a : Int), .int .i64 (b : Int), .int .i64 (n : Int), undef, undef, undef, .string ⟨#[]⟩, .slice av (T0.length + k) cv, .chan (some c), .int .u8 (48 + (d : Int)), .int .u8 (48 + (gD b a r : Int)), u11, u12, .int .i64 (n : Int), .slice (some ⟨w.heap.size, 0, none⟩) 0 n, .int .i64 (n : Int), .chan (some c), .int .i64 (a : Int), .int .u8 (48 + (a : Int)), .int .i64 (b : Int), .int .u8 (48 + (b : Int)), u21, u22, u23, u24, u25, u26, u27, u28, u29, u30, u31, u32, u33, u34, u35, u36, u37, u38, u39, u40, u41, u42, u43, u44, u45, .int .i64 (M : Int), .int .i64 (k : Int), u48, u49, u50, u51, u52, u53, u54, u55, undef, undef], defers := [] } ∧ k ≤ M ∧ OwnSt w w.heap.size c n (.slice av (T0.length + k) cv) (T0 ++ List.replicate k d) (Q0 ++ List.replicate k d) W) (fun a' _ => n - lenV (a'.tmps.getD 7 undef)) ?_ ?_)
        · exact ⟨0, av, cv, _, _, _, _, _, _, _, _, _, _, _, _, _, _, _, _, _, _, _, _, _, _, _, _, _, _, _, _, _, _, _, _, _, _, _, rfl, Nat.zero_le _, by simpa using ST2.out⟩
        · rintro _ W3 ⟨k, av, cv, u11, u12, u21, u22, u23, u24, u25, u26, u27, u28, u29, u30, u31, u32, u33, u34, u35, u36, u37, u38, u39, u40, u41, u42, u43, u44, u45, u48, u49, u50, u51, u52, u53, u54, u55, rfl, hkM, st⟩ KI HKI
          have ST3 := Lib.hid st; clear st ST2
          have hMn : T0.length + M ≤ n := by have := HM.out; omega
          by_cases hk : k < M
          · refine WpN.seq (WpN.of_wp ?_)
            go_wp2_with fail
            refine WpN.seq (WpN.of_wp ?_)
            go_wp2_with fail
            refine WpN.seq (WpN.block ?_)
            refine WpN.seq (WpN.of_wp ?_)
            have hTl : (T0 ++ List.replicate k d).length = T0.length + k := by simp
            have hrow := ST3.out.row
            rw [hTl] at hrow
            have HROW := Lib.hid hrow; clear hrow hTl
            go_wp2_with (at_builtin; refine wpList_app _ rfl _ _ 22 rfl w.heap.size 5 i0 (.int .u8 0) 1 Try.underlying22 hi hz0 hz1 hz2 rfl _ (T0.length + k) _ rfl (HROW.out.alloc _) _ 1 1 [.int .u8 (48 + (d : Int))] rfl rfl ?c1 ?c2 ?c3 ?c4 ?c5 ?_)
            case c1 => intro j u hj; cases j with | zero => (simp at hj; subst hj; simp [Addr.add]) | succ j => simp at hj
            case c2 => intro u hu; simp at hu; subst hu; rfl
            case c3 => unfold maxLen; omega
            case c4 => omega
            case c5 => have := ST3.out.bel.size; simp; omega
            intro v' w3 hown' hgrow _
            obtain ⟨av', cv', rfl⟩ := own_slice hown'
            obtain ⟨s, q, hch⟩ := ST3.out.chan
            have hfar := ST3.out.far
            have hcl : c < W3.heap.size := (Array.getElem?_eq_some_iff.1 hch).1
            have hch3 : w3.heap[c]? = some (.chan n (sgV (Q0 ++ List.replicate k d)).toArray false s q false) := by
              rw [hgrow.block c (by simp; omega) (fun e => hfar c e.symm rfl)]
              exact ((below_alloc _ _).block c hcl).trans hch
            have R1 : Hid (OwnSt w w.heap.size c n (.slice av' (T0.length + k + 1) cv') (T0 ++ List.replicate (k + 1) d) (Q0 ++ List.replicate k d) w3) := by
              refine ⟨?_, ⟨s, q, hch3⟩, (ST3.out.bel.alloc ST3.out.bel.size _).grown hgrow (by have := ST3.out.bel.size; simp; omega) (fun q hq => (ST3.out.row.lt q hq).1), ST3.out.low⟩
              have e2 : (T0 ++ List.replicate (k + 1) d).length = T0.length + k + 1 := by simp; omega
              rw [e2]
              have e3 : sgV (T0 ++ List.replicate (k + 1) d) = sgV (T0 ++ List.replicate k d) ++ [.int .u8 (48 + (d : Int))] := by simp [sgV, List.replicate_succ']
              rw [e3]; exact hown'
            have HCH := Lib.hid hch3
            clear hown' hgrow hch hfar hch3
            go_wp2_with fail
            refine WpN.region ?_
            refine WpIN.value rfl (by kernel_rfl) (v := .chan (some c)) (w1 := w3) (by simp [go_sem, execOp, Act.eval]) ?_
            refine WpIN.value rfl (by kernel_rfl) (v := .int .u8 (48 + (d : Int))) (w1 := w3) (by simp [go_sem, execOp, Act.eval, Act.put]) ?_
            refine WpIN.send (v := .int .u8 (48 + (d : Int))) (z := .tuple #[]) (c := c) (cap := n) (s := s) (r := q) (tm := false) rfl (by kernel_rfl) (by simp [go_sem, execOp, scase, Act.eval, Act.put]) HCH.out (by simp [sgV]; omega) ?_
            refine WpIN.nil ?_
            rw [sgV_more]
            have R2 := Lib.hid (R1.out.set (Qe := Q0 ++ List.replicate (k + 1) d) (s + 1) q)
            generalize w3.setChan c n (sgV (Q0 ++ List.replicate (k + 1) d)).toArray false (s + 1) q false = w4 at *
            simp only [Exit.then, Exit.inBlock, Act.put, List.setIfInBounds_toArray, List.set_cons_zero, List.set_cons_succ]
            refine WpN.of_wp ?_
            go_wp2_with fail
            refine HKI.out _ _ ⟨k + 1, av', cv', _, _, _, _, _, _, _, _, _, _, _, _, _, _, _, _, _, _, _, _, _, _, _, _, _, _, _, _, _, _, _, _, _, _, _, rfl, by omega, R2.out⟩ ?_
            simp [lenV]; omega
          · obtain rfl : k = M := by omega
            refine WpN.seq (WpN.of_wp ?_)
            go_wp2_with fail
            refine WpN.of_wp ?_
            go_wp2_with fail
            refine WpN.of_wp ?_
            go_wp2_with fail
            have e1 : T0.length + k = (T0 ++ List.replicate k d).length := by simp
            rw [e1]
            refine HKO.out _ _ ⟨r + 1, T0 ++ List.replicate k d, av, cv, _, _, _, _, _, _, _, _, _, _, _, _, _, _, _, _, _, _, _, _, _, _, _, _, _, _, _, _, _, _, _, _, _, _, _, _, _, by rw [HD2.out, ← HD3.out], by omega, HNX.out.symm, ?_⟩ ?_
            · have h := ST3.out
              rw [← HNQ.out, HNX.out] at h
              rw [← e1]; exact h
            · have := HGR.out
              simp [lenV]; omega
    · have hT := HT.out
      have hTn2 : T.length = n := by omega
      have hge : n ≤ (gG a b r).length := by rw [hT, List.length_take] at hTn2; omega
      have hTe : T = gOwn a b n := by rw [hT]; exact gG_take a b r n ha.1 hb.1 hge
      have hT9 : ∀ x ∈ T, x ≤ 9 := fun x hx => by
        rw [hTe] at hx
        rcases gOwn_mem a b n x hx with h | h <;> omega
      have hrow := ST.out.row
      rw [sgV_u8 hT9] at hrow
      have hconv := conv_own (l := sgL T) (v := .slice av T.length cv) (by simpa [sgL] using hrow)
      rw [← hTe]
      rw [hTn2] at hconv
      clear hT hTe hge hrow
      refine WpN.seq (WpN.seq (WpN.of_wp ?_))
      go_wp2_with fail
      refine WpN.of_wp ?_
      go_wp2_with fail
      refine WpN.of_wp ?_
      go_wp2_with fail
      go_ret
      exact ⟨rfl, ST.out.bel⟩
end Go.Proofs.Ythbjaclobllkhaa
