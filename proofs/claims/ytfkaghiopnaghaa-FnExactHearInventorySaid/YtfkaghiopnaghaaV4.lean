/- HearInventory on both sides, and the law. -/
import Derived.Test.YtfkaghiopnaghaaV3
namespace Go.Proofs.Ytfkaghiopnaghaa
open Go.RowKit Go.BigFrame
set_option linter.unusedSimpArgs false
set_option linter.unusedVariables false
set_option maxRecDepth 4000

theorem zeros9_none {i m : Nat} (h : zeros9[i]? = some (m + 1)) : False := by
  have hi := get_lt h
  rw [zeros9_get i hi] at h
  cases h
theorem pow9_le : ∀ n, n ≤ 6 → 9 ^ n ≤ 531441
  | 0, _ => by decide
  | 1, _ => by decide
  | 2, _ => by decide
  | 3, _ => by decide
  | 4, _ => by decide
  | 5, _ => by decide
  | 6, _ => by decide
  | n + 7, h => by omega
theorem heard_hyps {n : Nat} {ts : List Nat} {b : List UInt8} (h9 : ts.length = 9) (hs : ts.sum = n + 1) (hn : n ≤ 6) :
    ∀ i m, ts[i]? = some (m + 1) → 0 < (heardL n (ts.set i m) (b ++ numL (i + 1))).length ∧ (heardL n (ts.set i m) (b ++ numL (i + 1))).length ≤ 5000000 := by
  intro i m h
  have := heardL_facts n (ts.set i m) (b ++ numL (i + 1)) (by simpa using h9) (by have := sum_set ts i m h; omega)
  have h2 := pow9_le n hn
  exact ⟨this.1, by omega⟩
theorem numL_len1 (i : Nat) (hi : i < 9) : (numL (i + 1)).length = 1 := by rw [numL_small (i + 1) (by omega)]; rfl
theorem all_ne {ts : List Nat} {n : Nat} (h9 : ts.length = 9) (hs : ts.sum = n + 1) : ts.all (fun n => decide (n = 0)) = false := by
  obtain ⟨i, m, _, hi⟩ := pos_of_sum h9 hs
  apply Bool.eq_false_iff.2
  intro h
  have := List.all_eq_true.1 h _ (List.mem_of_getElem? hi)
  simp at this

theorem taHeard_any : ∀ (n : Nat) (ts : List Nat) (b : List UInt8) (w : World) (B : Nat) (v : Value), ts.length = 9 → ts.sum = n → n ≤ 7 → b.length + n ≤ 7 → IntsA w B v (ti ts) →
    Calls Try.prog 55 #[v, .string (bs b)] w fun e w' => TextsOk (heardL n ts b) w w' e
  | 0, ts, b, w, B, v, h9, hs, hn, hb, ha => by
    have hz := (sum_zero h9).1 hs
    subst hz
    have := taHeard_loop (fun _ _ => []) zeros9 b w B v h9 (fun n hn => by simp [zeros9] at hn; omega) (by omega) ha (fun i m h => (zeros9_none h).elim) (fun i m _ h => (zeros9_none h).elim)
    rw [if_pos (by decide)] at this
    exact this
  | n + 1, ts, b, w, B, v, h9, hs, hn, hb, ha => by
    have := taHeard_loop (heardL n) ts b w B v h9 (fun m hm => by
        obtain ⟨i, hi⟩ := List.mem_iff_getElem?.1 hm
        have := le_sumT ts i m hi; omega) (by omega) ha (heard_hyps h9 hs (by omega)) (fun i m hi9 h W B' u hu => by
        refine taHeard_any n _ _ W B' u (by simpa using h9) (by have := sum_set ts i m h; omega) (by omega) ?_ hu
        rw [List.length_append, numL_len1 i hi9]; omega)
    rw [if_neg (by rw [all_ne h9 hs]; simp)] at this
    exact this

theorem wordsBehind_any : ∀ (n : Nat) (ts : List Nat) (b : List UInt8) (w : World), ts.length = 9 → ts.sum = n → n ≤ 7 → b.length + n ≤ 7 →
    Calls Try.prog 57 #[.agg (tvl ts).toArray, .string (bs b)] w fun e w' => TextsOk (heardL n ts b) w w' e
  | 0, ts, b, w, h9, hs, hn, hb => by
    have hz := (sum_zero h9).1 hs
    subst hz
    have := wordsBehind_loop (fun _ _ => []) zeros9 b w h9 (fun n hn => by simp [zeros9] at hn; omega) (by omega) (fun i m h => (zeros9_none h).elim) (fun i m _ h => (zeros9_none h).elim)
    rw [if_pos rfl] at this
    exact this
  | n + 1, ts, b, w, h9, hs, hn, hb => by
    have := wordsBehind_loop (heardL n) ts b w h9 (fun m hm => by
        obtain ⟨i, hi⟩ := List.mem_iff_getElem?.1 hm
        have := le_sumT ts i m hi; omega) (by omega) (heard_hyps h9 hs (by omega)) (fun i m hi9 h W => by
        refine wordsBehind_any n _ _ W (by simpa using h9) (by have := sum_set ts i m h; omega) (by omega) ?_
        rw [List.length_append, numL_len1 i hi9]; omega)
    rw [if_neg (fun e => by rw [(sum_zero h9).2 e] at hs; omega)] at this
    exact this

set_option maxHeartbeats 1000000 in
theorem sum_any (ts : List Nat) (w : World) (h9 : ts.length = 9) (hle : ∀ n ∈ ts, n ≤ 9) :
    Calls Try.prog 56 #[aggT ts] w fun e w' => e = .returned (.int .i64 (ts.sum : Nat)) ∧ Below w.heap.size w w' := by
  have hix := fun (W : World) (k n : Nat) => run_indexT ts k n W h9
  have hsum : ∀ k, k ≤ 9 → (ts.take k).sum ≤ 9 * k := by
    intro k
    induction k with
    | zero => intro _; simp
    | succ k ih =>
      intro hk
      have hkl : k < ts.length := by omega
      rw [List.take_succ_eq_append_getElem hkl, List.sum_append]
      have := ih (by omega)
      have := hle ts[k] (List.getElem_mem _)
      simp; omega
  have HIX := Lib.hid hix; have HS := Lib.hid hsum; have HL := Lib.hid hle
  clear hix hsum hle
  have hagg : aggT ts = .agg (tvA ts) := rfl
  rw [hagg]
  go_enter Try.func56, Try.ntmps56
  go_wp2_with (refine wpList_getT rfl _ rfl w.heap.size rfl ts ⟨heap_alloc_new _ _, h9⟩ ?_; unfold aggT)
  go_loopw [3, 7] (fun sv iv wr => ∃ k m : Nat, k ≤ 9 ∧ iv = .int .i64 (k : Int) ∧ sv = .int .i64 (m : Int) ∧ m ≤ 9 * k ∧ Hid (m = (ts.take k).sum ∧ Below w.heap.size w wr)) (fun _ iv _ => 9 - (intOf iv).toNat)
  case atStart => exact ⟨0, 0, by omega, rfl, rfl, by omega, rfl, below_alloc _ _⟩
  case round =>
    obtain ⟨k, m, hk, rfl, rfl, hm, HX⟩ := hrel
    by_cases hlt : k < 9
    · obtain ⟨n, hn⟩ : ∃ n, ts[k]? = some n := ⟨_, List.getElem?_eq_getElem (by omega)⟩
      have hn9 : n ≤ 9 := HL.out n (List.mem_of_getElem? hn)
      have hid : ∀ W, (Instr.index 43 (.agg (tvA ts)) (.int .i64 (k : Int))).run Try.prog W = .ok (.int .i64 (n : Int)) W := fun W => HIX.out W k n hn
      have htk : (ts.take (k + 1)).sum = (ts.take k).sum + n := by
        obtain ⟨hkl, e⟩ := List.getElem?_eq_some_iff.1 hn
        rw [List.take_succ_eq_append_getElem hkl, List.sum_append, e]; simp
      have HTK := Lib.hid htk; clear htk hn
      go_wp2_with fail
      go_roundw
      case rel => exact ⟨k + 1, m + n, by omega, by go_num, by go_num, by omega, by rw [HTK.out, ← HX.out.1], HX.out.2⟩
      case measure => simp [intOf] <;> omega
    · obtain rfl : k = 9 := by omega
      go_wp2_with fail
      go_ret
      refine ⟨?_, HX.out.2⟩
      have := HX.out.1
      rw [List.take_of_length_le (by omega)] at this
      rw [this]; rfl

/-- All words of which a word is the inventory, if they are asked. -/
def hearLO (l : List UInt8) : Option (List (List UInt8)) := match toldL l with
  | some ts => if l.length ≤ 6 ∧ ts.sum ≤ 7 then some (heardL ts.sum ts []) else none
  | none => none
theorem toldL_facts {l : List UInt8} {ts : List Nat} (h : toldL l = some ts) : goodL l = true ∧ ts.length = 9 ∧ (∀ n ∈ ts, n ≤ 9) := by
  unfold toldL at h
  split at h
  · rename_i hg
    have hd : l.all digB = true := by unfold goodL at hg; simp only [Bool.and_eq_true] at hg; exact hg.2
    obtain ⟨h1, _, h3, _⟩ := pr_of_told l 0 zeros9 ts hd rfl (by omega) (fun i _ hi => zeros9_get i hi) h
    refine ⟨hg, h1, fun n hn => ?_⟩
    obtain ⟨i, hi⟩ := List.mem_iff_getElem?.1 hn
    exact h3 i n (Nat.zero_le _) hi
  · cases h
/-- Texts and true, or nil and false. -/
def HeardOk (o : Option (List (List UInt8))) (w w' : World) (e : Ending) : Prop :=
  ∃ v, e = .returned (.tuple #[v, .bool o.isSome]) ∧ StrsO w' w.heap.size v (o.getD []) ∧ Below w.heap.size w w'
theorem textsOk_O {ls : List (List UInt8)} {w w' : World} {B g c : Nat} (h : w'.ownsRow B 9 1 (.slice (some ⟨g, 0, none⟩) ls.length c) ls.length (strVs ls)) : StrsO w' B (.slice (some ⟨g, 0, none⟩) ls.length c) ls := strsO_of h

theorem nine {ts : List Nat} (h : ts.length = 9) : ∃ a0 a1 a2 a3 a4 a5 a6 a7 a8, ts = [a0, a1, a2, a3, a4, a5, a6, a7, a8] := by
  match ts, h with
  | [a0, a1, a2, a3, a4, a5, a6, a7, a8], _ => exact ⟨a0, a1, a2, a3, a4, a5, a6, a7, a8, rfl⟩
set_option maxHeartbeats 2000000 in
theorem implHearInventory_any (s : ByteArray) (w : World) (hs : s.size ≤ maxLen) :
    Calls Try.prog 35 #[.string s] w fun e w' => HeardOk (hearLO s.data.toList) w w' e := by
  have h1 := toldBy_any s w hs
  have hlen : s.data.toList.length = s.size := by simp
  unfold maxLen at hs
  cases ht : toldL s.data.toList with
  | none =>
    have hO : hearLO s.data.toList = none := by unfold hearLO; rw [ht]
    rw [ht] at h1
    simp only [Option.isSome_none, Option.getD_none] at h1
    rw [hO]
    have H1 := Lib.hid h1; clear h1 ht hO hlen
    go_enter Try.func35, Try.ntmps35
    go_wp2_with fail
    refine H1.out.mono ?_
    rintro e w1 ⟨rfl, hb⟩
    have HB := Lib.hid hb; clear hb
    go_wp2_with (refine wpList_putT rfl _ _ rfl w1.heap.size rfl zeros9 zeros9 rfl ⟨heap_alloc_new _ _, rfl⟩ rfl ?_; intro w2 hB2 _ hbb _; have HB2 := Lib.hid ((below_alloc w1 _).trans (hbb _ (Nat.le_refl _))); clear hbb)
    go_ret2
    exact ⟨_, rfl, .inl ⟨rfl, rfl⟩, below_trans HB.out HB2.out⟩
  | some ts =>
    obtain ⟨hg, h9, hle⟩ := toldL_facts ht
    rw [ht] at h1
    simp only [Option.isSome_some, Option.getD_some] at h1
    by_cases h6 : s.size ≤ 6
    · have hsm := fun W => sum_any ts W h9 hle
      have hs81 : ts.sum ≤ 81 := by
        match ts, h9 with
        | [a0, a1, a2, a3, a4, a5, a6, a7, a8], _ =>
          have := hle a0 (by simp); have := hle a1 (by simp); have := hle a2 (by simp); have := hle a3 (by simp); have := hle a4 (by simp); have := hle a5 (by simp); have := hle a6 (by simp); have := hle a7 (by simp); have := hle a8 (by simp)
          simp; omega
      obtain ⟨S, hS⟩ : ∃ S, S = ts.sum := ⟨_, rfl⟩
      rw [← hS] at hsm hs81
      by_cases h7 : S ≤ 7
      · have hO : hearLO s.data.toList = some (heardL S ts []) := by unfold hearLO; rw [ht]; dsimp only; rw [if_pos ⟨by omega, by omega⟩, hS]
        have hwb := fun W => wordsBehind_any S ts [] W h9 hS.symm h7 (by simpa using h7)
        obtain ⟨ls, hls⟩ : ∃ ls, ls = heardL S ts [] := ⟨_, rfl⟩
        rw [← hls] at hO hwb
        rw [hO]
        have hwb2 : ∀ W, Calls Try.prog 57 #[aggT ts, .string { data := #[] }] W fun e w' => TextsOk ls W w' e := hwb
        obtain ⟨a0, a1, a2, a3, a4, a5, a6, a7, a8, rfl⟩ := nine h9
        have H1 := Lib.hid h1; have HSM := Lib.hid hsm; have HWB := Lib.hid hwb2; clear h1 ht hO hlen hsm hwb hwb2 hls hS hle hg
        go_enter Try.func35, Try.ntmps35
        go_wp2_with fail
        refine H1.out.mono ?_
        rintro e w1 ⟨rfl, hb⟩
        have HB := Lib.hid hb; clear hb
        go_wp2_with (first
          | (refine wpList_putT rfl _ _ rfl w1.heap.size rfl zeros9 [a0, a1, a2, a3, a4, a5, a6, a7, a8] rfl ⟨heap_alloc_new _ _, rfl⟩ h9 ?_; intro w2 hB2 _ hbb _; have HB2 := Lib.hid ((below_alloc w1 _).trans (hbb _ (Nat.le_refl _))); clear hbb; have c0 := blkT_cell (i := 0) hB2 rfl; have c1 := blkT_cell (i := 1) hB2 rfl; have c2 := blkT_cell (i := 2) hB2 rfl; have c3 := blkT_cell (i := 3) hB2 rfl; have c4 := blkT_cell (i := 4) hB2 rfl; have c5 := blkT_cell (i := 5) hB2 rfl; have c6 := blkT_cell (i := 6) hB2 rfl; have c7 := blkT_cell (i := 7) hB2 rfl; have c8 := blkT_cell (i := 8) hB2 rfl)
          | fail)
        refine (HSM.out w2).mono ?_
        rintro e w3 ⟨rfl, hb⟩
        have HB3 := Lib.hid hb; have hB3 := blkT_below hB2 hb; clear hb
        go_wp2_with (refine wpList_getT rfl _ rfl w1.heap.size rfl [a0, a1, a2, a3, a4, a5, a6, a7, a8] hB3 ?_)
        refine (HWB.out w3).mono ?_
        rintro e w4 ⟨g, c, rfl, ho, hb⟩
        have HO := Lib.hid ho; have HB4 := Lib.hid hb; clear ho hb
        go_wp2_with fail
        go_ret2
        have hbb := below_trans HB.out (below_trans HB2.out HB3.out)
        exact ⟨_, rfl, textsOk_O (w := w) (own_mono HO.out hbb.size), below_trans hbb HB4.out⟩
      · have hO : hearLO s.data.toList = none := by unfold hearLO; rw [ht]; dsimp only; rw [if_neg (fun h => h7 (by omega))]
        rw [hO]
        obtain ⟨a0, a1, a2, a3, a4, a5, a6, a7, a8, rfl⟩ := nine h9
        have H1 := Lib.hid h1; have HSM := Lib.hid hsm; clear h1 ht hO hlen hsm hS hle hg
        go_enter Try.func35, Try.ntmps35
        go_wp2_with fail
        refine H1.out.mono ?_
        rintro e w1 ⟨rfl, hb⟩
        have HB := Lib.hid hb; clear hb
        go_wp2_with (first
          | (refine wpList_putT rfl _ _ rfl w1.heap.size rfl zeros9 [a0, a1, a2, a3, a4, a5, a6, a7, a8] rfl ⟨heap_alloc_new _ _, rfl⟩ h9 ?_; intro w2 hB2 _ hbb _; have HB2 := Lib.hid ((below_alloc w1 _).trans (hbb _ (Nat.le_refl _))); clear hbb; have c0 := blkT_cell (i := 0) hB2 rfl; have c1 := blkT_cell (i := 1) hB2 rfl; have c2 := blkT_cell (i := 2) hB2 rfl; have c3 := blkT_cell (i := 3) hB2 rfl; have c4 := blkT_cell (i := 4) hB2 rfl; have c5 := blkT_cell (i := 5) hB2 rfl; have c6 := blkT_cell (i := 6) hB2 rfl; have c7 := blkT_cell (i := 7) hB2 rfl; have c8 := blkT_cell (i := 8) hB2 rfl)
          | fail)
        refine (HSM.out w2).mono ?_
        rintro e w3 ⟨rfl, hb⟩
        have HB3 := Lib.hid hb; clear hb
        go_wp2_with fail
        go_ret2
        exact ⟨_, rfl, .inl ⟨rfl, rfl⟩, below_trans HB.out (below_trans HB2.out HB3.out)⟩
    · have hO : hearLO s.data.toList = none := by unfold hearLO; rw [ht]; dsimp only; rw [if_neg (fun h => h6 (by omega))]
      rw [hO]
      have H1 := Lib.hid h1; clear h1 ht hO hlen hle hg
      go_enter Try.func35, Try.ntmps35
      go_wp2_with fail
      refine H1.out.mono ?_
      rintro e w1 ⟨rfl, hb⟩
      have HB := Lib.hid hb; clear hb
      go_wp2_with (refine wpList_putT rfl _ _ rfl w1.heap.size rfl zeros9 ts rfl ⟨heap_alloc_new _ _, rfl⟩ h9 ?_; intro w2 hB2 _ hbb _; have HB2 := Lib.hid ((below_alloc w1 _).trans (hbb _ (Nat.le_refl _))); clear hbb)
      go_ret2
      exact ⟨_, rfl, .inl ⟨rfl, rfl⟩, below_trans HB.out HB2.out⟩
end Go.Proofs.Ytfkaghiopnaghaa
