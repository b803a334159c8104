/- Chapter 8: chains: both sides and the laws of ChainOf and StepsToFour. -/
import Derived.Test.YtlcbdmmmafpchaaDoormo
import Derived.Test.YtlcbdmmmafpchaaDoorMA
import Derived.ScopeJumps
import Derived.WalkMore
namespace Go.Proofs.YtlcbdmmmafpchaaDoor
open Go.RowKit Go.BigFrame
set_option linter.unusedSimpArgs false
set_option linter.unusedVariables false
set_option maxRecDepth 4000

def toI (l : List Nat) : List Int := l.map (fun (k : Nat) => (k : Int))
theorem toI_len (l : List Nat) : (toI l).length = l.length := by simp [toI]
theorem toI_snoc (l : List Nat) (k : Nat) : toI (l ++ [k]) = toI l ++ [(k : Int)] := by simp [toI]
theorem toI_mem {l : List Nat} {k : Nat} : ((k : Int) ∈ toI l) ↔ k ∈ l := by
  unfold toI
  rw [List.mem_map]
  constructor
  · rintro ⟨a, ha, e⟩
    have : a = k := by omega
    exact this ▸ ha
  · exact fun h => ⟨k, h, rfl⟩
def chO (n : Int) : List Int := if nmB n = true then toI (chL n.toNat) else []
def stO (n : Int) : Int := if nmB n = true then (((chL n.toNat).length - 1 : Nat) : Int) else 0
def lenV : Value → Nat
  | .slice _ n _ => n
  | _ => 0
theorem lenO_nat (k : Nat) (h : nmB (k : Int) = true) : lenO (k : Int) = (ltlen k : Int) := by unfold lenO; rw [h]; rfl

set_option maxHeartbeats 1000000 in
set_option maxRecDepth 100000 in
theorem naChain_any (n : Nat) (w : World) (h : n < 1000000) :
    Calls Tryd.prog 58 #[.int .i64 (n : Int)] w fun e w' => ∃ q d, e = .returned (.slice q (chL n).length d) ∧ Ints w' w.heap.size (.slice q (chL n).length d) (toI (chL n)) ∧ Below w.heap.size w w' := by
  obtain ⟨C, hC⟩ : ∃ C, C = chL n := ⟨_, rfl⟩
  obtain ⟨L, hL⟩ : ∃ L, L = C.length := ⟨_, rfl⟩
  have hon := fun (P : List Nat) (x : Nat) => @chain_on P x n h
  rw [← hC] at hon
  rw [← hC, ← hL]
  have HON := Lib.hid hon; have HC := Lib.hid hC; have HL := Lib.hid hL
  clear hon hC hL h
  go_enter Tryd.func58, Tryd.ntmps58
  go_wp2_with fail
  go_loopw [0, 3] (fun xv v wr => ∃ (x p d : Nat) (q : Option Addr) (P : List Nat), xv = .int .i64 (x : Int) ∧ v = .slice q p d ∧ p ≤ 11 ∧ Hid (p = P.length + 1 ∧ C = P ++ chL x ∧ Ints wr w.heap.size (.slice q p d) (toI (P ++ [x])) ∧ Below w.heap.size w wr)) (fun _ v _ => 12 - lenV v)
  case atStart => exact ⟨n, 1, 1, some ⟨w.heap.size, 0, none⟩, [], rfl, rfl, by omega, rfl, HC.out, own_lit w w.heap.size 3 [.int .i64 (n : Int)] (Nat.le_refl _) (by simp [maxLen]), below_alloc _ _⟩
  case round =>
    obtain ⟨x, p, d, q, P, rfl, rfl, hp, HX⟩ := hrel
    obtain ⟨c1, c2, c3, c4, c5⟩ := HON.out P x HX.out.2.1
    by_cases h4 : x = 4
    · have hz : ((x : Int) != 4) = false := by rw [h4]; rfl
      have hq : C = P ++ [4] := c5 h4
      have hpL : p = L := by rw [HL.out, hq, HX.out.1]; simp
      have hx4 : C = P ++ [x] := by rw [hq, h4]
      have HX4 := Lib.hid hx4
      subst hpL
      clear c4 c5 hq hx4 h4
      go_wp2_with fail
      go_ret
      refine ⟨_, _, rfl, ?_, HX.out.2.2.2⟩
      rw [HX4.out]; exact HX.out.2.2.1
    · have hz : ((x : Int) != 4) = true := by simpa using (show ¬ (x : Int) = 4 by omega)
      have hC2 := c4 h4
      have HC2 := Lib.hid hC2
      have HL2 := Lib.hid (fun (W : World) => naLetters_any x W c1)
      obtain ⟨t, ht⟩ : ∃ t, t = bs (ltN x) := ⟨_, rfl⟩
      obtain ⟨M, hM⟩ : ∃ M, M = ltlen x := ⟨_, rfl⟩
      have hsz : t.size = M := by rw [ht, bs_size, hM]; rfl
      have hMb : M < 65 := by rw [hM]; exact ltlen_le x c1
      rw [← ht] at HL2
      have hp11 : p ≤ 10 := by
        have := (HON.out (P ++ [x]) M (by rw [hM]; exact hC2)).2.2.1
        rw [HX.out.1]; simp at this; omega
      have HP9 := Lib.hid (show p ≤ 1000000 by omega)
      have HPL := Lib.hid (show p = (toI (P ++ [x])).length by rw [toI_len, HX.out.1]; simp)
      have HM := Lib.hid hM
      clear c4 c5 hC2 ht hM h4
      go_wp2_with fail
      refine (HL2.out _).mono ?_
      rintro e w1 ⟨rfl, hb⟩
      have HB := Lib.hid (below_trans HX.out.2.2.2 hb); have HI := Lib.hid (own_below HX.out.2.2.1 hb); clear hb
      go_wp2_with (at_builtin; refine wp_appI w1 rfl _ _ rfl w (M : Int) HI.out HPL.out rfl rfl HB.out HP9.out ?_; intro q3 d3 w3 hi3 hb3; have HI3 := Lib.hid hi3; have HB3 := Lib.hid hb3; clear hi3 hb3)
      go_roundw
      case rel => exact ⟨M, p + 1, d3, q3, P ++ [x], rfl, rfl, by omega, by rw [HX.out.1]; simp, by rw [HM.out]; exact HC2.out, by rw [toI_snoc]; exact HI3.out, HB3.out⟩
      case measure => simp [lenV] <;> omega

set_option maxHeartbeats 1000000 in
theorem specChainOf_any (n : Int) (w : World) :
    Calls Tryd.prog 14 #[.int .i64 n] w (NumsOk2 w.heap.size (chO n) (nmB n) w) := by
  have HG := Lib.hid (fun W => naGood_is n W)
  cases hb : nmB n with
  | false =>
    have e : chO n = [] := by unfold chO; rw [hb]; rfl
    rw [e]; rw [hb] at HG
    clear e hb
    go_enter Tryd.func14, Tryd.ntmps14
    go_wp2_with fail
    refine (HG.out _).mono ?_
    rintro e w1 ⟨rfl, rfl⟩
    go_wp2_with fail
    go_ret2
    exact ⟨_, rfl, World.ownsRow_nil _ _ _ _, below_refl _⟩
  | true =>
    obtain ⟨k, rfl, hk⟩ := nmB_parts hb
    have e : chO (k : Int) = toI (chL k) := by unfold chO; rw [hb]; rfl
    rw [e]; rw [hb] at HG
    have HN := Lib.hid (fun W => naChain_any k W hk)
    generalize chL k = R at *
    clear e hb hk
    go_enter Tryd.func14, Tryd.ntmps14
    go_wp2_with fail
    refine (HG.out _).mono ?_
    rintro e w1 ⟨rfl, rfl⟩
    go_wp2_with fail
    refine (HN.out _).mono ?_
    rintro e w1 ⟨q, d, rfl, hi, hb⟩
    have HB := Lib.hid hb; have HI := Lib.hid hi; clear hb hi
    go_wp2_with fail
    go_ret2
    exact ⟨_, rfl, HI.out, HB.out⟩

set_option maxHeartbeats 1000000 in
theorem specStepsToFour_any (n : Int) (w : World) :
    Calls Tryd.prog 16 #[.int .i64 n] w fun e w' => e = .returned (.tuple #[.int .i64 (stO n), .bool (nmB n)]) ∧ Below w.heap.size w w' := by
  have HG := Lib.hid (fun W => naGood_is n W)
  cases hb : nmB n with
  | false =>
    have e : stO n = 0 := by unfold stO; rw [hb]; rfl
    rw [e]; rw [hb] at HG
    clear e hb
    go_enter Tryd.func16, Tryd.ntmps16
    go_wp2_with fail
    refine (HG.out _).mono ?_
    rintro e w1 ⟨rfl, rfl⟩
    go_wp2_with fail
    go_ret2
    exact ⟨rfl, below_refl _⟩
  | true =>
    obtain ⟨k, rfl, hk⟩ := nmB_parts hb
    have e : stO (k : Int) = (((chL k).length - 1 : Nat) : Int) := by unfold stO; rw [hb]; rfl
    rw [e]; rw [hb] at HG
    have HN := Lib.hid (fun W => naChain_any k W hk)
    have hl := (chL_facts k hk).1
    have hl1 : 1 ≤ (chL k).length := by obtain ⟨r, hr⟩ := chL_head k; rw [hr]; simp
    obtain ⟨M, hM⟩ : ∃ M, (chL k).length = M + 1 := ⟨(chL k).length - 1, by omega⟩
    rw [hM, Nat.add_sub_cancel]
    rw [hM] at HN
    have hMb : M ≤ 10 := by omega
    have hmz : ((M + 1 : Nat) : Int) - 1 = (M : Int) := by omega
    generalize chL k = R at *
    clear e hb hk hM hl hl1
    go_enter Tryd.func16, Tryd.ntmps16
    go_wp2_with fail
    refine (HG.out _).mono ?_
    rintro e w1 ⟨rfl, rfl⟩
    go_wp2_with fail
    refine (HN.out _).mono ?_
    rintro e w1 ⟨q, d, rfl, hi, hb⟩
    have HB := Lib.hid hb; clear hb hi
    go_wp2_with fail
    go_ret2
    exact ⟨rfl, HB.out⟩

/-- The place of a number in a list, -1 if it is not there. -/
def idxI (xs : List Int) (x : Int) : Nat → Int
  | 0 => -1
  | f + 1 => if xs.getD (xs.length - (f + 1)) 0 = x then ((xs.length - (f + 1) : Nat) : Int) else idxI xs x f
theorem idxI_not {xs : List Int} {x : Int} (h : x ∉ xs) : ∀ f, f ≤ xs.length → idxI xs x f = -1
  | 0, _ => rfl
  | f + 1, hf => by
    rw [idxI, if_neg (fun e => h (by
      have hk : xs.length - (f + 1) < xs.length := by omega
      rw [show xs.getD (xs.length - (f + 1)) 0 = xs[xs.length - (f + 1)] from by simp [List.getD, hk]] at e
      rw [← e]; exact List.getElem_mem hk)), idxI_not h f (by omega)]
theorem idxI_last {P : List Int} {x : Int} (h : x ∉ P) : idxI (P ++ [x]) x (P ++ [x]).length = (P.length : Int) := by
  have key : ∀ f, f ≤ P.length → idxI (P ++ [x]) x (f + 1) = (P.length : Int) := by
    intro f
    induction f with
    | zero =>
      intro _
      rw [idxI, if_pos (by simp [List.getD])]
      simp
    | succ f ih =>
      intro hf
      rw [idxI, if_neg (fun e => h (by
        have hk : P.length - (f + 1) < P.length := by omega
        rw [show (P ++ [x]).getD ((P ++ [x]).length - (f + 1 + 1)) 0 = P[P.length - (f + 1)] from by
          have : (P ++ [x]).length - (f + 1 + 1) = P.length - (f + 1) := by rw [List.length_append, List.length_singleton]; omega
          rw [this]
          simp [List.getD, List.getElem?_append_left hk, hk]] at e
        rw [← e]; exact List.getElem_mem hk)), ih (by omega)]
  have := key P.length (Nat.le_refl _)
  rw [List.length_append, List.length_singleton]
  exact this

set_option maxHeartbeats 1000000 in
theorem indexI_any (w : World) (B p : Nat) (v : Value) (xs : List Int) (x : Int) (h : Ints w B v xs) (hp : p = xs.length) (h9 : p ≤ 1000000) :
    Calls Tryd.prog 78 #[v, .int .i64 x] w fun e w' => e = .returned (.int .i64 (idxI xs x p)) ∧ w = w' := by
  rcases ints_open h with ⟨rfl, rfl⟩ | ⟨g, cap, rfl, _, hg, _, hcp, hca, _⟩
  · obtain rfl : p = 0 := hp
    clear h
    go_enter Tryd.func78, Tryd.ntmps78
    go_wp2_with fail
    refine wp_loop_rounds 1 ?_
    rw [rounds_succ]
    go_wp2
    go_ret
    exact ⟨rfl, rfl⟩
  · have HA := Lib.hid hca
    have HP := Lib.hid hp
    obtain ⟨R, hR⟩ : ∃ R, R = idxI xs x p := ⟨_, rfl⟩
    have HR := Lib.hid hR
    rw [← hR, ← hp]
    clear h hca hp hR
    go_enter Tryd.func78, Tryd.ntmps78
    go_wp2_with fail
    go_loop [5, 8] (fun cv i => ∃ (k : Nat), k ≤ p ∧ i = .int .i64 (k : Int) ∧ Hid (R = idxI xs x (p - k))) (fun _ i => p - (intOf i).toNat)
    case atStart => exact ⟨0, Nat.zero_le _, rfl, HR.out⟩
    case round =>
      obtain ⟨k, hk, rfl, HX⟩ := hrel
      by_cases hlt : k < p
      · have hkx : k < xs.length := by rw [← HP.out]; exact hlt
        have hc := HA.out k hkx
        have hst : R = if xs[k] = x then (k : Int) else idxI xs x (p - (k + 1)) := by
          have e := HX.out
          rw [show p - k = (p - (k + 1)) + 1 by omega, idxI, ← HP.out, show p - (p - (k + 1) + 1) = k by omega] at e
          rw [show xs.getD k 0 = xs[k] from by simp [List.getD, hkx]] at e
          exact e
        obtain ⟨y, hy⟩ : ∃ y, y = xs[k] := ⟨_, rfl⟩
        rw [← hy] at hc hst
        by_cases hq : y = x
        · have hz : (x == y) = true := by rw [hq]; simp
          rw [if_pos hq] at hst
          have HST := Lib.hid hst
          clear hst hy hq
          go_wp2_with fail
          go_ret
          exact ⟨ret_int HST.out.symm, rfl⟩
        · have hz : (x == y) = false := beq_false_of_ne (fun e => hq e.symm)
          rw [if_neg hq] at hst
          have HST := Lib.hid hst
          clear hst hy hq
          go_wp2_with fail
          go_round
          case rel => exact ⟨k + 1, by omega, by go_num, HST.out⟩
          case measure => simp [intOf] <;> omega
      · obtain rfl : k = p := by omega
        have hn : R = -1 := by rw [HX.out, Nat.sub_self]; rfl
        have HN := Lib.hid hn
        clear hn
        go_wp2_with fail
        go_ret
        exact ⟨ret_int HN.out.symm, rfl⟩

theorem wp_scope_again {P : Program} {a : Act} {w : World} {Q : Exit → Act → World → Prop} {c rest : Code} (l : Nat) (J : Act → World → Prop) (μ : Act → World → Nat) (hf : findLabel c l = some (Code.seq Code.skip rest))
    (pass : ∀ a w, J a w → rest.wp P (Exit.jump l (fun a' w' => J a' w' ∧ μ a' w' < μ a w) Q) a w)
    (first : (∀ a w, J a w → rest.wp P (Exit.jump l J Q) a w) → c.wp P (Exit.jump l J Q) a w) : (Code.scope c).wp P Q a w :=
  wp_scope_jumps l J μ hf (first fun a w h => Code.wp_mono (fun e a' w' h' => by
    cases e
    case goto l' => exact ⟨h'.1, h'.2.1⟩
    all_goals exact h') (pass a w h)) (fun a w h => wp_seq (wp_skip (pass a w h)))

/-- Where the search stands: on the way of the chain, at its end, or at a number that has no name. -/
def ChSt (n : Int) (P : List Int) (x : Int) : Prop :=
  (∃ (k y : Nat) (Q : List Nat), n = (k : Int) ∧ k < 1000000 ∧ x = (y : Int) ∧ P = toI Q ∧ (chL k = Q ++ chL y ∨ (Q = chL k ∧ y = 4))) ∨ (nmB n = false ∧ P = [] ∧ x = n)
def AtL (n : Int) (w : World) (v : Value) (p : Nat) (x : Int) (ok : Bool) (wr : World) : Prop :=
  ∃ P : List Int, p = P.length ∧ Ints wr w.heap.size v P ∧ Below w.heap.size w wr ∧ p ≤ 12 ∧ (if ok = true then ChSt n P x else nmB n = false)
def LabJ (n : Int) (w : World) (a' : Act) (w' : World) : Prop :=
  ∃ (p g c : Nat) (x : Int) (ok : Bool) (u10 u11 u12 u13 u14 u15 u16 u17 u18 u19 u20 u21 u22 u23 u24 u25 u26 u27 u28 u29 u30 u31 : Value), a' = { tmps := #[.int .i64 n, .func (.func 11) #[] #[], undef, undef, .slice none 0 0, .int .i64 0, .bool false, .slice (some ⟨g, 0, none⟩) p c, .int .i64 x, .bool ok, u10, u11, u12, u13, u14, u15, u16, u17, u18, u19, u20, u21, u22, u23, u24, u25, u26, u27, u28, u29, u30, u31], defers := [] } ∧ AtL n w (.slice (some ⟨g, 0, none⟩) p c) p x ok w'

def labM (a' : Act) (_ : World) : Nat := 20 - lenV (a'.tmps.getD 7 undef)
/-- The way, the place of its last number, and whether there are any. -/
def ChOk (n : Int) (w : World) (e : Ending) (w' : World) : Prop := ∃ v, e = .returned (.tuple #[v, .int .i64 (stO n), .bool (nmB n)]) ∧ Ints w' w.heap.size v (chO n) ∧ Below w.heap.size w w'

set_option maxHeartbeats 4000000 in
set_option maxRecDepth 100000 in
theorem loopFrom_any (n : Int) (w : World) (NA : NamesAt w) :
    Calls Tryd.prog 57 #[.int .i64 n, .func (.func 11) #[] #[]] w (ChOk n w) := by
  have HNA := Lib.hid NA
  clear NA
  go_enter Tryd.func57, Tryd.ntmps57
  go_wp2_with fail
  refine wp_scope_again 0 (LabJ n w) labM rfl ?_ ?_
  · rintro a' wr ⟨p, g, c, x, ok, u10, u11, u12, u13, u14, u15, u16, u17, u18, u19, u20, u21, u22, u23, u24, u25, u26, u27, u28, u29, u30, u31, rfl, HX⟩
    obtain ⟨P, hp, ho, hb, hp9, hok⟩ := HX
    cases ok with
    | false =>
      rw [if_neg (by simp)] at hok
      have e1 : stO n = 0 := by unfold stO; rw [hok]; rfl
      have e2 : chO n = [] := by unfold chO; rw [hok]; rfl
      have HB := Lib.hid hb; have HE1 := Lib.hid e1; have HE2 := Lib.hid e2; have HOK := Lib.hid hok
      clear hok hb ho e1 e2
      go_wp2_with fail
      simp only [Exit.jump]
      go_ret3
      exact ⟨.slice none 0 0, by rw [HE1.out, HOK.out]; rfl, by rw [HE2.out]; exact World.ownsRow_nil _ _ _ _, HB.out⟩
    | true =>
      rw [if_pos rfl] at hok
      have hix := indexI_any wr w.heap.size p _ P x ho hp (by omega)
      have HIX := Lib.hid hix; have HO := Lib.hid ho; have HB := Lib.hid hb; have HP := Lib.hid hp
      have HCON := Lib.hid (fun (W : World) (hW : Below w.heap.size w W) => implLettersOf_any x W (HNA.out.below hW))
      clear hix ho hb hp
      -- the end of the chain is found again
      by_cases hend : ∃ (k : Nat), n = (k : Int) ∧ k < 1000000 ∧ P = toI (chL k) ∧ x = 4
      · obtain ⟨k, rfl, hk, hPk, rfl⟩ := hend
        have hnm : nmB (k : Int) = true := decide_eq_true ⟨by omega, by omega⟩
        obtain ⟨f1, f2, _, _⟩ := chL_facts k hk
        have hne : chL k ≠ [] := by obtain ⟨r, hr⟩ := chL_head k; rw [hr]; simp
        obtain ⟨D, hD⟩ : ∃ D, D = (chL k).dropLast := ⟨_, rfl⟩
        have hD4 : chL k = D ++ [4] := by
          have := List.dropLast_concat_getLast hne
          rw [List.getLast?_eq_some_getLast hne] at f2
          have e := Option.some.inj f2
          rw [e] at this; rw [hD]; exact this.symm
        have hid : idxI P 4 p = (D.length : Int) := by
          rw [HP.out, hPk, hD4, toI_snoc]
          have := idxI_last (P := toI D) (x := (4 : Int)) (fun hm => four_at k hk D hD4 ((toI_mem (k := 4)).1 hm))
          rw [toI_len] at this
          exact this
        obtain ⟨m, hm⟩ : ∃ m, m = D.length := ⟨_, rfl⟩
        have e1 : stO (k : Int) = (m : Int) := by
          unfold stO; rw [hnm, if_pos rfl, show (k : Int).toNat = k from by simp, hD4, hm]; simp
        have e2 : chO (k : Int) = P := by unfold chO; rw [hnm, hPk]; rfl
        rw [← hm] at hid
        have HE1 := Lib.hid e1; have HE2 := Lib.hid e2; have HID := Lib.hid hid; have HNM := Lib.hid hnm
        have hm0 : (0 : Int) ≤ (m : Int) := by omega
        clear hok hid e1 e2 hnm hD4 hD hne f1 f2 hm hPk hk
        go_wp2_with fail
        refine HIX.out.mono ?_
        rintro e w2 ⟨rfl, rfl⟩
        rw [HID.out]
        go_wp2_with fail
        simp only [Exit.jump]
        go_ret3
        exact ⟨_, by rw [HE1.out, HNM.out]; rfl, by rw [HE2.out]; exact HO.out, HB.out⟩
      · have hnot : x ∉ P := by
          rcases hok with ⟨k, y, Q, rfl, hk, rfl, rfl, hq⟩ | ⟨_, rfl, _⟩
          · rcases hq with hq | ⟨hq, hy⟩
            · exact fun hm => (chain_on hk hq).2.1 (toI_mem.1 hm)
            · exact absurd ⟨k, rfl, hk, by rw [hq], by rw [hy]; rfl⟩ hend
          · simp
        have hid : idxI P x p = -1 := idxI_not hnot p (by rw [HP.out]; exact Nat.le_refl _)
        -- what comes next
        have hnext : (∃ (z : Int), lenO x = z ∧ nmB x = true ∧ ChSt n (P ++ [x]) z ∧ p + 1 ≤ 12) ∨ (nmB x = false ∧ nmB n = false ∧ lenO x = 0 ∧ p + 1 ≤ 12) := by
          rcases hok with ⟨k, y, Q, rfl, hk, rfl, rfl, hq⟩ | ⟨hn, rfl, rfl⟩
          · rcases hq with hq | ⟨hq, hy⟩
            · obtain ⟨c1, _, c3, c4, c5⟩ := chain_on hk hq
              have hny : nmB (y : Int) = true := decide_eq_true ⟨by omega, by omega⟩
              refine .inl ⟨(ltlen y : Int), lenO_nat y hny, hny, .inl ⟨k, ltlen y, Q ++ [y], rfl, hk, rfl, (toI_snoc Q y).symm, ?_⟩, by rw [HP.out, toI_len]; omega⟩
              by_cases h4 : y = 4
              · right
                subst h4
                exact ⟨(c5 rfl).symm, ltlen4⟩
              · left; exact c4 h4
            · exact absurd ⟨k, rfl, hk, by rw [hq], by rw [hy]; rfl⟩ hend
          · refine .inr ⟨hn, hn, ?_, ?_⟩
            · unfold lenO; rw [hn]; rfl
            · rw [HP.out]; simp
        have HID := Lib.hid hid; have HN := Lib.hid hnext
        have HP9 := Lib.hid (show p ≤ 1000000 by omega)
        clear hok hid hnext hnot hend
        go_wp2_with fail
        refine HIX.out.mono ?_
        rintro e w2 ⟨rfl, rfl⟩
        rw [HID.out]
        go_wp2_with (at_builtin; refine wp_appI wr rfl _ _ rfl w x HO.out HP.out rfl rfl HB.out HP9.out ?_; intro q3 d3 w3 hi3 hb3; have HI3 := Lib.hid hi3; have HB3 := Lib.hid hb3; clear hi3 hb3)
        refine (HCON.out w3 HB3.out).mono ?_
        rintro e w4 ⟨rfl, hb4⟩
        have HI4 := Lib.hid (own_below HI3.out hb4); have HB4 := Lib.hid (below_trans HB3.out hb4)
        have hsh : ∃ g' , q3 = some ⟨g', 0, none⟩ := by
          rcases ints_open HI3.out with ⟨_, h0⟩ | ⟨g', cap', hv, _⟩
          · simp at h0
          · injection hv with hv _ _; exact ⟨g', hv⟩
        obtain ⟨g', rfl⟩ := hsh
        clear hb4
        rcases HN.out with ⟨z, hz, hnx, hst, hp1⟩ | ⟨hnx, hnn, hz, hp1⟩
        · rw [hz, hnx]
          have HST := Lib.hid hst
          clear hz hnx hst
          go_wp2_with fail
          go_step3
          refine ⟨rfl, ⟨p + 1, g', d3, z, true, _, _, _, _, _, _, _, _, _, _, _, _, _, _, _, _, _, _, _, _, _, _, rfl, P ++ [x], by rw [HP.out]; simp, HI4.out, HB4.out, hp1, by rw [if_pos rfl]; exact HST.out⟩, ?_⟩
          simp [labM, lenV]; omega
        · rw [hz, hnx]
          have HST := Lib.hid hnn
          clear hz hnx hnn
          go_wp2_with fail
          go_step3
          refine ⟨rfl, ⟨p + 1, g', d3, 0, false, _, _, _, _, _, _, _, _, _, _, _, _, _, _, _, _, _, _, _, _, _, _, rfl, P ++ [x], by rw [HP.out]; simp, HI4.out, HB4.out, hp1, by rw [if_neg (by simp)]; exact HST.out⟩, ?_⟩
          simp [labM, lenV]; omega
  · intro hp
    go_wp2_with fail
    refine wp_label ?_
    rename_i K1 hk
    refine hk _ _ (hp _ _ ⟨0, w.heap.size, 0, n, true, _, _, _, _, _, _, _, _, _, _, _, _, _, _, _, _, _, _, _, _, _, _, rfl, [], rfl, ?_, below_alloc _ _, by omega, ?_⟩)
    · exact own_lit w w.heap.size 3 [] (Nat.le_refl _) (by simp [maxLen])
    · rw [if_pos rfl]
      cases hnm : nmB n with
      | false => exact .inr ⟨hnm, rfl, rfl⟩
      | true =>
        obtain ⟨k, rfl, hk2⟩ := nmB_parts hnm
        exact .inl ⟨k, k, [], rfl, hk2, rfl, rfl, .inl rfl⟩

set_option maxHeartbeats 1000000 in
theorem implChainOf_any (n : Int) (w : World) (NA : NamesAt w) :
    Calls Tryd.prog 13 #[.int .i64 n] w (NumsOk2 w.heap.size (chO n) (nmB n) w) := by
  have H := Lib.hid (loopFrom_any n w NA)
  unfold ChOk at H
  generalize stO n = S at *
  generalize chO n = R at *
  generalize nmB n = b at *
  clear NA
  go_enter Tryd.func13, Tryd.ntmps13
  go_wp2_with fail
  refine H.out.mono ?_
  rintro e w1 ⟨v, rfl, hi, hb⟩
  have HB := Lib.hid hb; have HI := Lib.hid hi; clear hb hi
  go_wp2_with fail
  go_ret2
  exact ⟨_, rfl, HI.out, HB.out⟩

set_option maxHeartbeats 1000000 in
theorem implStepsToFour_any (n : Int) (w : World) (NA : NamesAt w) :
    Calls Tryd.prog 15 #[.int .i64 n] w fun e w' => e = .returned (.tuple #[.int .i64 (stO n), .bool (nmB n)]) ∧ Below w.heap.size w w' := by
  have H := Lib.hid (loopFrom_any n w NA)
  unfold ChOk at H
  generalize stO n = S at *
  generalize chO n = R at *
  generalize nmB n = b at *
  clear NA
  go_enter Tryd.func15, Tryd.ntmps15
  go_wp2_with fail
  refine H.out.mono ?_
  rintro e w1 ⟨v, rfl, hi, hb⟩
  have HB := Lib.hid hb; clear hb hi
  go_wp2_with fail
  go_ret2
  exact ⟨rfl, HB.out⟩

end Go.Proofs.YtlcbdmmmafpchaaDoor
