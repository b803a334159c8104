/- Inventories made again and again: pure facts; the library's Index at texts; the model's taWay. -/
import Derived.Test.YtkdoghopbefjfaaT3
import Derived.Test.YtkdoghopbefjfaaT13
import Derived.Test.YtkdoghopbefjfaaT9
namespace Go.Proofs.Ytkdoghopbefjfaa
open Go.RowKit Go.BigFrame
set_option linter.unusedSimpArgs false
set_option linter.unusedVariables false
set_option maxRecDepth 4000

/-- The number of an inventory. -/
def cdI (m : List UInt8) : Nat := code9 ((toldF 0 zeros9 m).getD [])
theorem invO_told {l m : List UInt8} (h : invO l = some m) : toldF 0 zeros9 m = some (tal l) ∧ ∀ n ∈ tal l, n ≤ 9 := by
  unfold invO at h
  split at h
  · rename_i hh
    have hok : ∀ n ∈ tal l, n ≤ 9 := fun n hn => by simpa using List.all_eq_true.1 hh.2 n hn
    refine ⟨?_, hok⟩
    rw [← Option.some.inj h, invT_prF (tal_len l), told_of_pr (tal l) 0 0 zeros9 (Nat.le_refl _) (by rw [tal_len]) rfl (fun i _ hi => zeros9_get i hi) hok]
    rfl
  · cases h
theorem cdI_lt {l m : List UInt8} (h : invO l = some m) : cdI m < 1000000000 := by
  obtain ⟨h1, h2⟩ := invO_told h
  unfold cdI
  rw [h1]
  have := code9_lt (tal l) h2
  rw [tal_len] at this
  exact this
theorem cdI_inj {a b u v : List UInt8} (ha : invO a = some u) (hb : invO b = some v) (h : cdI u = cdI v) : u = v := by
  obtain ⟨h1, h2⟩ := invO_told ha
  obtain ⟨k1, k2⟩ := invO_told hb
  unfold cdI at h
  rw [h1, k1] at h
  have e := code9_inj (tal a) (tal b) (by rw [tal_len, tal_len]) h2 k2 h
  unfold invO at ha hb
  split at ha
  · split at hb
    · rw [← Option.some.inj ha, ← Option.some.inj hb, e]
    · cases hb
  · cases ha
theorem wayI_len {x0 x : List UInt8} {way : List (List UInt8)} (h : Way invO x0 way x) : way.length ≤ 1000000001 :=
  way_len h cdI 1000000000 (fun a b u v ha hb e => cdI_inj ha hb e) (fun a u ha => cdI_lt ha)

theorem idx_at {α : Type} [DecidableEq α] (x : α) : ∀ (l : List α) (k : Nat) (hk : k < l.length), l[k] = x → (∀ j (hj : j < l.length), j < k → l[j] ≠ x) → x ∈ l ∧ posL x l = k
  | [], k, hk, _, _ => by simp at hk
  | a :: r, 0, _, h, _ => by
    simp at h; subst h
    exact ⟨List.mem_cons_self, by simp [posL]⟩
  | a :: r, k + 1, hk, h, hn => by
    have h0 : a ≠ x := hn 0 (by simp) (by omega)
    obtain ⟨h1, h2⟩ := idx_at x r k (by simpa using hk) (by simpa using h) (fun j hj hjk => hn (j + 1) (by simpa using hj) (by omega))
    exact ⟨List.mem_cons_of_mem _ h1, by unfold posL; rw [if_neg h0, h2]⟩
theorem idx_none {α : Type} {x : α} {l : List α} (h : ∀ j (hj : j < l.length), l[j] ≠ x) : x ∉ l := by
  intro hm
  obtain ⟨i, hi, e⟩ := List.mem_iff_getElem.1 hm
  exact h i hi e
/-- Where a text stands, or -1. -/
def idxI (xs : List (List UInt8)) (x : List UInt8) : Int := if x ∈ xs then (posL x xs : Int) else -1
theorem bs_beq (x y : List UInt8) : ((bs x).toList == (bs y).toList) = decide (x = y) := by
  rw [bytes_toListT, bytes_toListT, bs_list, bs_list]
  by_cases h : x = y
  · rw [h]; simp
  · rw [decide_eq_false h, beq_eq_false_iff_ne]; exact h
theorem strs_cells {w : World} {B g cap n : Nat} {ls : List (List UInt8)} (h : w.ownsRow B 9 1 (.slice (some ⟨g, 0, none⟩) n cap) n (strVs ls)) (hn : n = ls.length) (k : Nat) (hk : k < ls.length) : w.cell? ⟨g, k, none⟩ = some (.string (bs ls[k])) := by
  rw [h.cellAt k (by omega)]
  simp [strVs, hk]

set_option maxHeartbeats 1000000 in
theorem index_any (w : World) (B g cap n : Nat) (ls : List (List UInt8)) (x : List UInt8) (h : w.ownsRow B 9 1 (.slice (some ⟨g, 0, none⟩) n cap) n (strVs ls)) (hn : n = ls.length) (hc : n ≤ 2000000000) :
    Calls Try.prog 108 #[.slice (some ⟨g, 0, none⟩) n cap, .string (bs x)] w fun e w' => e = .returned (.int .i64 (idxI ls x)) ∧ w = w' := by
  have HC := Lib.hid (fun (k : Nat) (hk : k < ls.length) => strs_cells h hn k hk); have HN := Lib.hid hn
  clear h hn
  go_enter Try.func108, Try.ntmps108
  go_wp2_with fail
  go_loop [8] (fun i => ∃ k : Nat, i = .int .i64 k ∧ k ≤ n ∧ Hid (∀ j (hj : j < ls.length), j < k → ls[j] ≠ x)) (fun i => n - (intOf i).toNat)
  case atStart => exact ⟨0, rfl, Nat.zero_le _, fun j _ h => by omega⟩
  case round =>
    obtain ⟨k, rfl, hk, HX⟩ := hrel
    by_cases hlt : k < n
    · have hk' : k < ls.length := by rw [← HN.out]; exact hlt
      have h1 : w.cell? ⟨g, k, none⟩ = some (.string (bs ls[k])) := HC.out k hk'
      have hbe := bs_beq x ls[k]
      obtain ⟨y, hy⟩ : ∃ y, y = ls[k] := ⟨_, rfl⟩
      rw [← hy] at h1 hbe
      by_cases he : x = y
      · rw [decide_eq_true he] at hbe
        have hid : idxI ls x = k := by
          obtain ⟨i1, i2⟩ := idx_at x ls k hk' (by rw [← hy]; exact he.symm) HX.out
          unfold idxI; rw [if_pos i1, i2]
        have HID := Lib.hid hid; clear hid hy he
        go_wp2_with fail
        go_ret
        exact ⟨by rw [HID.out]; rfl, rfl⟩
      · rw [decide_eq_false he] at hbe
        have hnew : Hid (∀ j (hj : j < ls.length), j < k + 1 → ls[j] ≠ x) := fun j hj h => by
          by_cases e : j = k
          · subst e; rw [← hy]; exact fun e => he e.symm
          · exact HX.out j hj (by omega)
        clear hy he
        go_wp2_with fail
        go_round
        case rel => exact ⟨k + 1, by go_num, by omega, hnew⟩
        case measure => simp [intOf] <;> omega
    · obtain rfl : k = n := by omega
      have hid : idxI ls x = -1 := by
        unfold idxI; rw [if_neg (idx_none (fun j hj => HX.out j hj (by rw [HN.out]; exact hj)))]
      have HID := Lib.hid hid; clear hid
      go_wp2_with fail
      go_ret
      exact ⟨by rw [HID.out]; rfl, rfl⟩

/-- The way and the place of what comes again, and true; or nothing and false. -/
def LoopOk (o : Option (List (List UInt8) × Nat)) (w w' : World) (e : Ending) : Prop :=
  ∃ v, e = .returned (.tuple #[v, .int .i64 (o.getD ([], 0)).2, .bool o.isSome]) ∧ w'.ownsRow w.heap.size 9 1 v (o.getD ([], 0)).1.length (strVs (o.getD ([], 0)).1) ∧ Below w.heap.size w w' ∧ (o = none → v = .slice none 0 0) ∧ (o ≠ none → (o.getD ([], 0)).2 < (o.getD ([], 0)).1.length ∧ (o.getD ([], 0)).1.length ≤ 2000000000)
def lenV : Value → Nat
  | .slice _ n _ => n
  | _ => 0
theorem loopF_step {K m : Nat} {f : List UInt8 → Option (List UInt8)} {way : List (List UInt8)} {x : List UInt8} (hK : K = m + 1) (hx : x ∉ way) : loopF f K way x = match f x with | none => none | some y => loopF f m (way ++ [x]) y := by
  subst hK; rw [loopF, if_neg hx]; cases f x <;> rfl
theorem loopF_end {K m : Nat} {f : List UInt8 → Option (List UInt8)} {way : List (List UInt8)} {x : List UInt8} (hK : K = m + 1) (hx : x ∈ way) : loopF f K way x = some (way, posL x way) := by
  subst hK; rw [loopF, if_pos hx]

set_option maxHeartbeats 4000000 in
theorem taWay_good (s : ByteArray) (w : World) (hs : s.size ≤ maxLen) (hg : goodL s.data.toList = true) (K : Nat) (hK : 1000000010 ≤ K) :
    Calls Try.prog 54 #[.string s] w fun e w' => LoopOk (loopF invO K [] s.data.toList) w w' e := by
  obtain ⟨i0, hi, hz0, hz1, hz2⟩ := info_parts info_str
  have hl := (goodL_parts hg).2.1
  obtain ⟨R, hR⟩ : ∃ R, R = loopF invO K [] s.data.toList := ⟨_, rfl⟩
  rw [← hR]
  have hs4 : s.data.toList.length ≤ 400 := by simpa using hl
  have HG := Lib.hid hg; have HR := Lib.hid hR; clear hg hR
  go_enter Try.func54, Try.ntmps54
  go_wp2_with fail
  refine (woGood_any s w hs).mono ?_
  rintro e w1 ⟨rfl, rfl⟩
  rw [HG.out]
  go_wp2_with fail
  go_loopw [5] (fun v wr => ∃ (way : List (List UInt8)) (x : List UInt8) (n : Nat) (a : Option Addr) (c : Nat), n = way.length ∧ v = .slice a (n + 1) c ∧ x.length ≤ 400 ∧ Hid (Way invO s.data.toList way x ∧ x ∉ way ∧ loopF invO (K - way.length) way x = R ∧ wr.ownsRow w.heap.size 9 1 v (n + 1) (strVs (way ++ [x])) ∧ Below w.heap.size w wr)) (fun v _ => K + 1 - lenV v)
  case atStart =>
    refine ⟨[], s.data.toList, 0, _, _, rfl, rfl, hs4, way_nil _ _, by simp, HR.out.symm, ?_, below_alloc _ _⟩
    have := own_lit w w.heap.size 9 [.string s] (Nat.le_refl _) (by simp [maxLen])
    have e : strVs ([] ++ [s.data.toList]) = [.string s] := by
      simp only [strVs, List.nil_append, List.map_cons, List.map_nil]
      rw [← bs_eq (t := s) rfl]
    rw [e]
    exact this
  case round =>
    obtain ⟨way, x, n, a, c, hn, rfl, hx4, HX⟩ := hrel
    have hwl := wayI_len HX.out.1
    have hn9 : n ≤ 1000000001 := by omega
    rcases own_open HX.out.2.2.2.1 with ⟨e, _⟩ | ⟨g, cap, e, _, hg, hc1, hc2, hlv, hcell, _⟩
    · cases e
    cases e
    have hck : wr.cell? ⟨g, n, none⟩ = some (.string (bs x)) := by
      have := strs_cells HX.out.2.2.2.1 (by simp; omega) n (by simp; omega)
      rw [this]; simp [hn]
    have hsz : (bs x).size ≤ maxLen := by rw [bs_size]; unfold maxLen; omega
    have hcon := fun (W : World) => taOf_any (bs x) W hsz
    rw [bs_list] at hcon
    have HC := Lib.hid hcon; have HNN := Lib.hid hn
    have hst := loopF_step (K := K - way.length) (m := K - (n + 1)) (f := invO) (way := way) (x := x) (by omega) HX.out.2.1
    rw [HX.out.2.2.1] at hst
    unfold maxLen at hc2
    clear hcon hcell hlv hn hwl
    cases hm : invO x with
    | none =>
      rw [hm] at HC hst
      have HST := Lib.hid hst; clear hst hm
      go_wp2_with fail
      refine (HC.out wr).mono ?_
      rintro e w2 ⟨rfl, hb⟩
      have HB := Lib.hid hb; clear hb
      unfold strOk
      go_wp2_with fail
      go_ret3
      rw [HST.out]
      exact ⟨_, rfl, World.ownsRow_nil _ _ _ _, HX.out.2.2.2.2.trans (HB.out.mono HX.out.2.2.2.2.size), fun _ => rfl, fun h => absurd rfl h⟩
    | some y =>
      rw [hm] at HC hst
      have hy4 : y.length ≤ 400 := by have := invO_len hm; omega
      have HST := Lib.hid hst; have HM := Lib.hid hm; clear hst hm
      go_wp2_with fail
      refine (HC.out wr).mono ?_
      rintro e w2 ⟨rfl, hb⟩
      have ho2 := own_below HX.out.2.2.2.1 hb
      have hb2 := HX.out.2.2.2.2.trans (hb.mono HX.out.2.2.2.2.size)
      have HO2 := Lib.hid ho2; have HB2 := Lib.hid hb2
      unfold strOk
      clear hb ho2 hb2 hck
      go_wp2_with fail
      go_loop [29] (fun i => ∃ k : Nat, i = .int .i64 k ∧ k ≤ n + 1 ∧ Hid (∀ j (hj : j < (way ++ [x]).length), j < k → (way ++ [x])[j] ≠ y)) (fun i => n + 1 - (intOf i).toNat)
      case atStart => exact ⟨0, rfl, Nat.zero_le _, fun j _ h => by omega⟩
      case round =>
        obtain ⟨k, rfl, hk, HY⟩ := hrel
        by_cases hlt : k < n + 1
        · have hk' : k < (way ++ [x]).length := by have := HNN.out; simp; omega
          have h1 : w2.cell? ⟨g, k, none⟩ = some (.string (bs (way ++ [x])[k])) := strs_cells HO2.out (by have := HNN.out; simp; omega) k hk'
          have hbe := bs_beq (way ++ [x])[k] y
          obtain ⟨z, hz⟩ : ∃ z, z = (way ++ [x])[k] := ⟨_, rfl⟩
          rw [← hz] at h1 hbe
          by_cases he : z = y
          · rw [decide_eq_true he] at hbe
            obtain ⟨i1, i2⟩ := idx_at y (way ++ [x]) k hk' (by rw [← hz]; exact he) HY.out
            have hst := HST.out
            rw [loopF_end (m := K - (n + 2)) (by omega) i1, i2] at hst
            have HS2 := Lib.hid hst; clear hst hz he i1 i2 HST
            go_wp2_with fail
            go_ret3
            rw [HS2.out]
            have e : (way ++ [x]).length = n + 1 := by have := HNN.out; simp; omega
            refine ⟨_, rfl, ?_, HB2.out, ?_⟩
            · simp only [Option.getD_some, e]
              exact HO2.out
            · refine ⟨?_, ?_⟩
              · intro h; cases h
              · intro _; exact ⟨hk', by have := HNN.out; simp; omega⟩
          · rw [decide_eq_false he] at hbe
            have hnew : Hid (∀ j (hj : j < (way ++ [x]).length), j < k + 1 → (way ++ [x])[j] ≠ y) := fun j hj h => by
              by_cases e : j = k
              · subst e; rw [← hz]; exact he
              · exact HY.out j hj (by omega)
            clear hz he
            go_wp2_with fail
            go_round
            case rel => exact ⟨k + 1, by go_num, by omega, hnew⟩
            case measure => simp [intOf] <;> omega
        · obtain rfl : k = n + 1 := by omega
          have hno : y ∉ way ++ [x] := idx_none (fun j hj => HY.out j hj (by have := HNN.out; simp at hj; omega))
          have HNO := Lib.hid hno; clear hno
          go_wp2_with (at_builtin; refine wpList_app _ rfl _ _ 27 rfl w.heap.size 9 i0 (.string ⟨#[]⟩) 16 Try.underlying27 hi hz0 hz1 hz2 rfl _ (n + 1) _ rfl (HO2.out.alloc _) ⟨w2.heap.size, 0, none⟩ 1 1 [.string (bs y)] rfl rfl ?c1 ?c2 ?c3 ?c4 ?c5 ?_)
          case c2 => rfl
          case c3 => unfold maxLen; omega
          case c4 => omega
          case c5 => have := HB2.out.size; simp; omega
          intro v' w3 hown' hgrow _
          obtain ⟨av', cv', rfl⟩ := own_slice hown'
          have R1 := Lib.hid hown'
          have R2 := Lib.hid ((HB2.out.alloc HB2.out.size _).grown hgrow (by have := HB2.out.size; simp; omega) (fun q hq => (HO2.out.lt q hq).1))
          clear hown' hgrow
          go_wp2_with fail
          go_roundw
          case rel =>
            refine ⟨way ++ [x], y, n + 1, _, _, by have := HNN.out; simp; omega, rfl, hy4, way_snoc HX.out.1 HX.out.2.1 HM.out, HNO.out, ?_, ?_, R2.out⟩
            · rw [HST.out, List.length_append, List.length_singleton, HNN.out]
            · have := R1.out
              simp only [strVs, List.map_append, List.map_cons, List.map_nil] at this ⊢
              exact this
          case measure => simp [lenV] <;> omega
end Go.Proofs.Ytkdoghopbefjfaa
