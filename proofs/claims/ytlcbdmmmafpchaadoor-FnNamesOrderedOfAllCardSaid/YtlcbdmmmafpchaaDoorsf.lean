/- Chapter 8: the model's MostLetters and FirstInAlphabet: the least number of an order. -/
import Derived.Test.YtlcbdmmmafpchaaDoorse
import Derived.Test.YtlcbdmmmafpchaaDoormm
namespace Go.Proofs.YtlcbdmmmafpchaaDoor
open Go.RowKit Go.BigFrame
set_option linter.unusedSimpArgs false
set_option linter.unusedVariables false
set_option maxRecDepth 4000

/-- m comes ahead of all others of the first k numbers. -/
def Least (lt : Int → Int → Bool) (k m : Nat) : Prop := m < k ∧ ∀ x, x < k → x ≠ m → lt (m : Int) (x : Int) = true
theorem least_one (lt : Int → Int → Bool) : Least lt 1 0 := ⟨by omega, fun x h1 h2 => by omega⟩
theorem least_new {lt : Int → Int → Bool} (o : Ord1 lt) {k m : Nat} (h : Least lt k m) (hk : lt (k : Int) (m : Int) = true) : Least lt (k + 1) k := by
  refine ⟨by omega, fun x h1 h2 => ?_⟩
  by_cases e : x = m
  · rw [e]; exact hk
  · exact o.tr _ _ _ hk (h.2 x (by omega) e)
theorem least_old {lt : Int → Int → Bool} (o : Ord1 lt) {k m : Nat} (h : Least lt k m) (hk : lt (k : Int) (m : Int) = false) : Least lt (k + 1) m := by
  have hm := h.1
  refine ⟨by omega, fun x h1 h2 => ?_⟩
  by_cases e : x = k
  · rw [e]
    rcases o.tot (m : Int) (k : Int) (by omega) with f | f
    · exact f
    · rw [hk] at f; cases f
  · exact h.2 x (by omega) h2
theorem least_unique {lt : Int → Int → Bool} (o : Ord1 lt) {k m n : Nat} (h : Least lt k m) (g : Least lt k n) : m = n := by
  by_cases e : m = n
  · exact e
  · have a := h.2 n g.1 (fun f => e f.symm)
    have b := g.2 m h.1 e
    rw [o.asym a] at b; cases b
/-- The head of what is sorted. -/
theorem least_head {lt : Int → Int → Bool} (o : Ord1 lt) {N m : Nat} {S : List Int} {s : Int} {t : List Int} (hS : Srt lt S) (hp : S.Perm ((List.range N).map fun (i : Nat) => (i : Int))) (hs : S = s :: t) (hm : Least lt N m) : s = (m : Int) := by
  by_cases e : s = (m : Int)
  · exact e
  · have hin : (m : Int) ∈ S := hp.symm.subset (List.mem_map.2 ⟨m, List.mem_range.2 hm.1, rfl⟩)
    have hin2 : s ∈ (List.range N).map fun (i : Nat) => (i : Int) := hp.subset (by rw [hs]; simp)
    simp only [List.mem_map, List.mem_range] at hin2
    obtain ⟨i, hi, rfl⟩ := hin2
    rw [hs] at hin hS
    rcases List.mem_cons.1 hin with f | f
    · exact f.symm
    · have a := (List.pairwise_cons.1 hS).1 _ f
      have b := hm.2 i hi (by omega)
      rw [o.asym a] at b; cases b
/-- The order of MostLetters. -/
def ltMost : Int → Int → Bool := ltLex ltI (fun n => -((ltN n.toNat).length : Int))
/-- The order of the alphabet. -/
def ltAlph : Int → Int → Bool := ltLex blB (fun n => ltN n.toNat)
theorem ordMost : Ord1 ltMost := ordI _
theorem ordAlph : Ord1 ltAlph := ordS _
theorem ltMost_new {k m : Nat} (h : m < k) : ltMost (k : Int) (m : Int) = decide ((ltN m).length < (ltN k).length) := by
  unfold ltMost ltLex ltI
  simp only [Int.toNat_natCast]
  have e1 : decide ((k : Int) < (m : Int)) = false := by simp; omega
  rw [e1, Bool.and_false, Bool.or_false]
  by_cases hl : (ltN m).length < (ltN k).length
  · rw [decide_eq_true hl]; exact decide_eq_true (by omega)
  · rw [decide_eq_false hl]; exact decide_eq_false (by omega)
theorem ltAlph_new {k m : Nat} (h : m < k) : ltAlph (k : Int) (m : Int) = blB (ltN k) (ltN m) := by
  unfold ltAlph ltLex
  simp only [Int.toNat_natCast]
  have e1 : decide ((k : Int) < (m : Int)) = false := by simp; omega
  rw [e1, Bool.and_false, Bool.or_false]

def MostE (n : Int) (e : Ending) : Prop := ∃ m c : Nat, e = .returned (.tuple #[.int .i64 (m : Int), .int .i64 (c : Int), .bool (mlB n)]) ∧ (mlB n = true → Least ltMost (n.toNat + 1) m ∧ c = (ltN m).length) ∧ (mlB n = false → m = 0 ∧ c = 0)
set_option maxHeartbeats 2000000 in
theorem specMostLetters_any (n : Int) (w : World) :
    Calls Tryd.prog 46 #[.int .i64 n] w fun e w' => MostE n e ∧ Below w.heap.size w w' := by
  have HG := Lib.hid (fun W => naMost_is n W)
  cases hb : mlB n with
  | false =>
    rw [hb] at HG
    have HB0 := Lib.hid hb
    clear hb
    go_enter Tryd.func46, Tryd.ntmps46
    go_wp2_with fail
    refine (HG.out _).mono ?_
    rintro e w1 ⟨rfl, rfl⟩
    go_wp2_with fail
    go_ret3
    exact ⟨⟨0, 0, by rw [HB0.out]; rfl, (fun h => by rw [HB0.out] at h; cases h), fun _ => ⟨rfl, rfl⟩⟩, below_refl _⟩
  | true =>
    obtain ⟨N, rfl, hN⟩ := mlB_parts hb
    rw [hb] at HG
    have HNN : Hid ((N : Int).toNat = N) := Int.toNat_natCast N
    have HB0 := Lib.hid hb
    clear hb
    go_enter Tryd.func46, Tryd.ntmps46
    go_wp2_with fail
    refine (HG.out _).mono ?_
    rintro e w1 ⟨rfl, rfl⟩
    go_wp2_with fail
    go_loopw [5, 6, 7] (fun mv cv kv wr => ∃ (k m c : Nat), kv = .int .i64 (k : Int) ∧ mv = .int .i64 (m : Int) ∧ cv = .int .i64 (c : Int) ∧ k ≤ N + 1 ∧ Hid ((k = 0 ∧ m = 0 ∧ c = 0 ∨ 0 < k ∧ Least ltMost k m ∧ c = (ltN m).length) ∧ Below w.heap.size w wr)) (fun _ _ kv _ => N + 1 - (intOf kv).toNat)
    case atStart => exact ⟨0, 0, 0, rfl, rfl, rfl, by omega, .inl ⟨rfl, rfl, rfl⟩, below_refl _⟩
    case round =>
      obtain ⟨k, m, c, rfl, rfl, rfl, hk, HX⟩ := hrel
      by_cases hlt : k ≤ N
      · have hk2 : k ≤ 2000 := by omega
        have HL := Lib.hid (fun (W : World) => naLetters_any k W (by omega))
        obtain ⟨M, hM⟩ : ∃ M, M = (ltN k).length := ⟨_, rfl⟩
        have hlen := ltN_len k (by omega)
        rw [← hM] at hlen
        have HYES : Hid (c < M → Least ltMost (k + 1) k ∧ M = (ltN k).length) := fun h => by
          refine ⟨?_, hM⟩
          rcases HX.out.1 with ⟨rfl, rfl, rfl⟩ | ⟨h1, h2, h3⟩
          · exact least_one _
          · refine least_new ordMost h2 ?_
            rw [ltMost_new h2.1]; exact decide_eq_true (by omega)
        have HNO : Hid (¬ c < M → Least ltMost (k + 1) m ∧ c = (ltN m).length) := fun h => by
          rcases HX.out.1 with ⟨rfl, rfl, rfl⟩ | ⟨h1, h2, h3⟩
          · exfalso
            apply h
            rw [hM]; decide +kernel
          · refine ⟨least_old ordMost h2 ?_, h3⟩
            rw [ltMost_new h2.1]; exact decide_eq_false (by omega)
        obtain ⟨t, ht⟩ : ∃ t, t = bs (ltN k) := ⟨_, rfl⟩
        have hsz : t.size = M := by rw [ht, bs_size, hM]
        rw [← ht] at HL
        have HBW := Lib.hid HX.out.2
        clear ht hM HX
        by_cases hgt : c < M
        · have hgz : (M : Int) > (c : Int) := by omega
          have HR := Lib.hid (HYES.out hgt)
          clear HYES HNO
          go_wp2_with fail
          refine (HL.out _).mono ?_
          rintro e w2 ⟨rfl, hb⟩
          have HB := Lib.hid (below_trans HBW.out hb); clear hb
          go_wp2_with fail
          go_roundw
          case rel => exact ⟨k + 1, k, M, by go_num, by go_num, by go_num, by omega, .inr ⟨by omega, HR.out.1, HR.out.2⟩, HB.out⟩
          case measure => simp [intOf] <;> omega
        · have hgz : ¬ (M : Int) > (c : Int) := by omega
          have HR := Lib.hid (HNO.out hgt)
          clear HYES HNO
          go_wp2_with fail
          refine (HL.out _).mono ?_
          rintro e w2 ⟨rfl, hb⟩
          have HB := Lib.hid (below_trans HBW.out hb); clear hb
          go_wp2_with fail
          go_roundw
          case rel => exact ⟨k + 1, m, c, by go_num, rfl, rfl, by omega, .inr ⟨by omega, HR.out.1, HR.out.2⟩, HB.out⟩
          case measure => simp [intOf] <;> omega
      · obtain rfl : k = N + 1 := by omega
        have HE : Hid (Least ltMost (N + 1) m ∧ c = (ltN m).length) := by
          rcases HX.out.1 with ⟨h, _⟩ | ⟨_, h2, h3⟩
          · omega
          · exact ⟨h2, h3⟩
        have HBW := Lib.hid HX.out.2
        have hle : ¬ (N : Int) + 1 ≤ (N : Int) := by omega
        clear HX
        go_wp2_with fail
        go_ret3
        exact ⟨⟨m, c, by rw [HB0.out]; rfl, fun _ => by rw [HNN.out]; exact HE.out, fun h => by rw [HB0.out] at h; cases h⟩, HBW.out⟩

def AlphE (n : Int) (e : Ending) : Prop := ∃ m : Nat, e = .returned (.tuple #[.int .i64 (m : Int), .bool (mlB n)]) ∧ (mlB n = true → Least ltAlph (n.toNat + 1) m) ∧ (mlB n = false → m = 0)
set_option maxHeartbeats 2000000 in
theorem specFirstInAlphabet_any (n : Int) (w : World) :
    Calls Tryd.prog 47 #[.int .i64 n] w fun e w' => AlphE n e ∧ Below w.heap.size w w' := by
  have HG := Lib.hid (fun W => naMost_is n W)
  cases hb : mlB n with
  | false =>
    rw [hb] at HG
    have HB0 := Lib.hid hb
    clear hb
    go_enter Tryd.func47, Tryd.ntmps47
    go_wp2_with fail
    refine (HG.out _).mono ?_
    rintro e w1 ⟨rfl, rfl⟩
    go_wp2_with fail
    go_ret2
    exact ⟨⟨0, by rw [HB0.out]; rfl, (fun h => by rw [HB0.out] at h; cases h), fun _ => rfl⟩, below_refl _⟩
  | true =>
    obtain ⟨N, rfl, hN⟩ := mlB_parts hb
    rw [hb] at HG
    have HNN : Hid ((N : Int).toNat = N) := Int.toNat_natCast N
    have HB0 := Lib.hid hb
    have HL0 := Lib.hid (fun (W : World) => naLetters_any 0 W (by omega))
    obtain ⟨t0, ht0⟩ : ∃ t0, t0 = bs (ltN 0) := ⟨_, rfl⟩
    rw [← ht0] at HL0
    have HT0 := Lib.hid ht0
    clear hb ht0
    go_enter Tryd.func47, Tryd.ntmps47
    go_wp2_with fail
    refine (HG.out _).mono ?_
    rintro e w1 ⟨rfl, rfl⟩
    go_wp2_with fail
    refine (HL0.out _).mono ?_
    rintro e w1 ⟨rfl, hb⟩
    have HB1 := Lib.hid hb; clear hb
    go_wp2_with fail
    go_loopw [4, 5, 6] (fun mv bv kv wr => ∃ (k m : Nat) (t : ByteArray), kv = .int .i64 (k : Int) ∧ mv = .int .i64 (m : Int) ∧ bv = .string t ∧ 1 ≤ k ∧ k ≤ N + 1 ∧ Hid (t = bs (ltN m) ∧ Least ltAlph k m ∧ Below w.heap.size w wr)) (fun _ _ kv _ => N + 1 - (intOf kv).toNat)
    case atStart => exact ⟨1, 0, t0, rfl, rfl, rfl, by omega, by omega, HT0.out, least_one _, HB1.out⟩
    case round =>
      obtain ⟨k, m, t, rfl, rfl, rfl, hk1, hk, HX⟩ := hrel
      by_cases hlt : k ≤ N
      · have hk2 : k ≤ 2000 := by omega
        have HL := Lib.hid (fun (W : World) => naLetters_any k W (by omega))
        obtain ⟨u, hu⟩ : ∃ u, u = bs (ltN k) := ⟨_, rfl⟩
        rw [← hu] at HL
        have hq : Op.bytesLess u.toList t.toList = ltAlph (k : Int) (m : Int) := by rw [ltAlph_new HX.out.2.1.1, hu, HX.out.1]; rfl
        have HYES : Hid (ltAlph (k : Int) (m : Int) = true → Least ltAlph (k + 1) k) := fun h => least_new ordAlph HX.out.2.1 h
        have HNO : Hid (ltAlph (k : Int) (m : Int) = false → Least ltAlph (k + 1) m) := fun h => least_old ordAlph HX.out.2.1 h
        have HU := Lib.hid hu; have HT := Lib.hid HX.out.1
        have HBW := Lib.hid HX.out.2.2
        clear hu HX
        generalize ltAlph (k : Int) (m : Int) = v at *
        cases v with
        | true =>
          have HR := Lib.hid (HYES.out rfl)
          clear HYES HNO
          go_wp2_with fail
          refine (HL.out _).mono ?_
          rintro e w2 ⟨rfl, hb⟩
          have HB := Lib.hid (below_trans HBW.out hb); clear hb
          go_wp2_with fail
          go_roundw
          case rel => exact ⟨k + 1, k, u, by go_num, by go_num, by go_num, by omega, by omega, HU.out, HR.out, HB.out⟩
          case measure => simp [intOf] <;> omega
        | false =>
          have HR := Lib.hid (HNO.out rfl)
          clear HYES HNO
          go_wp2_with fail
          refine (HL.out _).mono ?_
          rintro e w2 ⟨rfl, hb⟩
          have HB := Lib.hid (below_trans HBW.out hb); clear hb
          go_wp2_with fail
          go_roundw
          case rel => exact ⟨k + 1, m, t, by go_num, rfl, rfl, by omega, by omega, HT.out, HR.out, HB.out⟩
          case measure => simp [intOf] <;> omega
      · obtain rfl : k = N + 1 := by omega
        have HE := Lib.hid HX.out.2.1
        have HBW := Lib.hid HX.out.2.2
        have hle : ¬ (N : Int) + 1 ≤ (N : Int) := by omega
        clear HX
        go_wp2_with fail
        go_ret2
        exact ⟨⟨m, by rw [HB0.out]; rfl, (fun _ => by rw [HNN.out]; exact HE.out), fun h => by rw [HB0.out] at h; cases h⟩, HBW.out⟩
end Go.Proofs.YtlcbdmmmafpchaaDoor
