/- Words that are drawn: sureWord, spoilt, wordOf. -/
import Derived.Test.Ythbjaclobllkhaau2
import Derived.Test.Ythbjaclobllkhaau6
namespace Go.Proofs.Ythbjaclobllkhaa
open Go.RowKit Go.BigFrame Go.Deep
set_option linter.unusedSimpArgs false
set_option linter.unusedVariables false
set_option maxRecDepth 4000

/-- Digits from 1 to d. -/
def digsL (d : Nat) (l : List UInt8) : Prop := ∀ c ∈ l, 49 ≤ c.toNat ∧ c.toNat ≤ 48 + d
theorem digsL_snoc {d : Nat} {l : List UInt8} {c : UInt8} (h : digsL d l) (hc : 49 ≤ c.toNat ∧ c.toNat ≤ 48 + d) : digsL d (l ++ [c]) := by
  intro x hx
  rcases List.mem_append.1 hx with hx | hx
  · exact h x hx
  · simp at hx; subst hx; exact hc
theorem digsL_all {d : Nat} {l : List UInt8} (h : digsL d l) (hd : d ≤ 9) : l.all digB = true := by
  rw [List.all_eq_true]
  intro c hc
  have := h c hc
  exact decide_eq_true (by omega)

set_option maxHeartbeats 1000000 in
theorem sureWord_c (w0 w : World) (g K most digits : Nat) (cv : Value) (ns : List Int) (ha : ArgY w0 cv ns) (hc : Cur w0 w g cv K) (hK : K ≤ 1000000) (hm1 : 1 ≤ most) (hm : most ≤ 100) (hd1 : 1 ≤ digits) (hd : digits ≤ 9) :
    Calls Try.prog 60 #[.pointer (some ⟨g, 0, none⟩), .int .i64 (most : Int), .int .i64 (digits : Int)] w fun e w' => ∃ l : List UInt8, e = .returned (.string (bs l)) ∧ 1 ≤ l.length ∧ l.length ≤ most ∧ digsL digits l ∧ Cur w0 w' g cv (K + 2 + 4 * most) := by
  have HP := Lib.hid (pick_c w0 w g K most cv ns ha hc (by omega) hm1 (by omega))
  have HA := Lib.hid ha
  clear hc ha
  go_enter Try.func60, Try.ntmps60
  go_wp2_with fail
  refine HP.out.mono ?_
  rintro e w1 ⟨x, rfl, hx, hcu, hg⟩
  have HC := Lib.hid hcu
  clear hcu hg HP
  obtain ⟨T, hT⟩ : ∃ T, T = x + 1 := ⟨_, rfl⟩
  have hT2 : (1 : Int) + (x : Int) = (T : Int) := by omega
  have hT3 : T ≤ most := by omega
  have hT1 : 1 ≤ T := by omega
  have HTX := Lib.hid hT
  clear hT
  go_wp2_with fail
  go_loopw [7, 8] (fun o k wr => ∃ (j r : Nat) (l : List UInt8), j + r = T ∧ k = .int .i64 (r : Int) ∧ o = .string (bs l) ∧ l.length = j ∧ Hid (digsL digits l) ∧ Hid (Cur w0 wr g cv (K + 2 + 4 * j))) (fun _ k _ => (intOf k).toNat)
  case atStart => exact ⟨0, T, [], by omega, by go_num, rfl, rfl, Lib.hid (fun c hc => by simp at hc), Lib.hid HC.out⟩
  case round =>
    obtain ⟨j, r, l, hjr, rfl, rfl, hl, HD, HW⟩ := hrel
    have hsz : (bs l).size = j := by rw [bs_size, hl]
    by_cases hr : 0 < r
    · obtain ⟨r, rfl⟩ : ∃ r', r = r' + 1 := ⟨r - 1, by omega⟩
      obtain ⟨s, hs⟩ : ∃ s, s = bs l := ⟨_, rfl⟩
      rw [← hs] at hsz ⊢
      have HS := Lib.hid hs
      clear hs
      by_cases hj : 0 < j
      · have HO := Lib.hid (one_c w0 wr g (K + 2 + 4 * j) 3 cv ns HA.out HW.out (by omega) (by omega) (by omega))
        go_wp2_with fail
        refine HO.out.mono ?_
        rintro e w2 ⟨b, rfl, hcu, hg⟩
        have HC2 := Lib.hid hcu; clear hcu hg HO
        cases b with
        | true =>
          go_wp2_with fail
          go_roundw
          case rel =>
            refine ⟨j + 1, r, l ++ (l.drop (j - 1)), by omega, by go_num, ?_, by simp [hl]; omega, Lib.hid ?_, Lib.hid (HC2.out.mono (by omega))⟩
            · exact congrArg Value.string (bs_eq (by rw [list_append, list_extract, HS.out, bs_list, List.take_of_length_le (by simp [hl])]))
            · intro c hc
              rcases List.mem_append.1 hc with h | h
              · exact HD.out c h
              · exact HD.out c (List.mem_of_mem_drop h)
          case measure => simp [intOf] <;> omega
        | false =>
          have HP := Lib.hid (pick_c w0 w2 g (K + 2 + 4 * j + 2) digits cv ns HA.out HC2.out (by omega) hd1 (by omega))
          go_wp2_with fail
          refine HP.out.mono ?_
          rintro e w3 ⟨x, rfl, hx, hcu, hg⟩
          have HC3 := Lib.hid hcu; clear hcu hg HP
          obtain ⟨X, hX⟩ : ∃ X : Nat, X = x + 1 := ⟨_, rfl⟩
          have hX1 : (1 : Int) + (x : Int) = (X : Int) := by omega
          have hn := l1Num_any 9 (X : Int) w3 (by omega) (by omega) (by omega)
          rw [Int.toNat_natCast, numL_one X (by omega)] at hn
          have hc : 49 ≤ (UInt8.ofNat (48 + X)).toNat ∧ (UInt8.ofNat (48 + X)).toNat ≤ 48 + digits := by rw [UInt8.toNat_ofNat']; omega
          generalize UInt8.ofNat (48 + X) = c at *
          rw [← hX1] at hn
          clear hX1 hX
          have HN := Lib.hid hn; have HCC := Lib.hid hc
          have hc1 : (bs [c]).size = 1 := bs_size _
          clear hn hc
          go_wp2_with fail
          refine HN.out.mono ?_
          rintro e w4 ⟨rfl, hb⟩
          have HC4 := Lib.hid ((HC3.out.later hb).mono (show K + 2 + 4 * j + 2 + 2 ≤ K + 2 + 4 * (j + 1) by omega)); clear hb HC3
          go_wp2_with fail
          go_roundw
          case rel =>
            refine ⟨j + 1, r, l ++ [c], by omega, by go_num, ?_, by simp [hl], Lib.hid ?_, Lib.hid ?_⟩
            · exact congrArg Value.string (by rw [HS.out, bs_append])
            · exact digsL_snoc HD.out HCC.out
            · exact HC4.out
          case measure => simp [intOf] <;> omega
      · obtain rfl : j = 0 := by omega
        have HP := Lib.hid (pick_c w0 wr g (K + 2 + 4 * 0) digits cv ns HA.out HW.out (by omega) hd1 (by omega))
        go_wp2_with fail
        refine HP.out.mono ?_
        rintro e w3 ⟨x, rfl, hx, hcu, hg⟩
        have HC3 := Lib.hid hcu; clear hcu hg HP
        obtain ⟨X, hX⟩ : ∃ X : Nat, X = x + 1 := ⟨_, rfl⟩
        have hX1 : (1 : Int) + (x : Int) = (X : Int) := by omega
        have hn := l1Num_any 9 (X : Int) w3 (by omega) (by omega) (by omega)
        rw [Int.toNat_natCast, numL_one X (by omega)] at hn
        have hc : 49 ≤ (UInt8.ofNat (48 + X)).toNat ∧ (UInt8.ofNat (48 + X)).toNat ≤ 48 + digits := by rw [UInt8.toNat_ofNat']; omega
        generalize UInt8.ofNat (48 + X) = c at *
        rw [← hX1] at hn
        clear hX1 hX
        have HN := Lib.hid hn; have HCC := Lib.hid hc
        have hc1 : (bs [c]).size = 1 := bs_size _
        clear hn hc
        go_wp2_with fail
        refine HN.out.mono ?_
        rintro e w4 ⟨rfl, hb⟩
        have HC4 := Lib.hid ((HC3.out.later hb).mono (show K + 2 + 4 * 0 + 2 ≤ K + 2 + 4 * (0 + 1) by omega)); clear hb HC3
        go_wp2_with fail
        go_roundw
        case rel =>
          refine ⟨0 + 1, r, l ++ [c], by omega, by go_num, ?_, by simp [hl], Lib.hid ?_, Lib.hid ?_⟩
          · exact congrArg Value.string (by rw [HS.out, bs_append])
          · exact digsL_snoc HD.out HCC.out
          · exact HC4.out
        case measure => simp [intOf] <;> omega
    · obtain rfl : r = 0 := by omega
      go_wp2_with fail
      go_ret
      exact ⟨l, rfl, by omega, by omega, HD.out, HW.out.mono (by omega)⟩

set_option maxHeartbeats 2000000 in
theorem spoilt_c (w0 w : World) (g K L M : Nat) (cv : Value) (ns : List Int) (t u : ByteArray) (ha : ArgY w0 cv ns) (hc : Cur w0 w g cv K) (hK : K ≤ 1000000) (ht : t.size ≤ L) (hL : L ≤ 100000) (hu : u.size = M) (hM1 : 1 ≤ M) (hM : M ≤ 100) :
    Calls Try.prog 43 #[.pointer (some ⟨g, 0, none⟩), .string t, .string u] w fun e w' => ∃ s : ByteArray, e = .returned (.string s) ∧ s.size ≤ L + 2 ∧ Cur w0 w' g cv (K + 14) := by
  have HP := Lib.hid (pick_c w0 w g K 2 cv ns ha hc (by omega) (by omega) (by omega))
  have HA := Lib.hid ha
  have hcv := conv1
  clear hc ha
  go_enter Try.func43, Try.ntmps43
  go_wp2_with fail
  refine HP.out.mono ?_
  rintro e w1 ⟨x, rfl, hx, hcu, hg⟩
  have HC := Lib.hid hcu
  clear hcu hg HP
  obtain ⟨T, hT⟩ : ∃ T, T = x + 1 := ⟨_, rfl⟩
  have hT2 : (1 : Int) + (x : Int) = (T : Int) := by omega
  have hT3 : T ≤ 2 := by omega
  have HTX := Lib.hid hT
  clear hT
  go_wp2_with fail
  go_loopw [1, 7] (fun o k wr => ∃ (j r : Nat) (s : ByteArray), j + r = T ∧ k = .int .i64 (r : Int) ∧ o = .string s ∧ s.size ≤ L + j ∧ Hid (Cur w0 wr g cv (K + 2 + 6 * j))) (fun _ k _ => (intOf k).toNat)
  case atStart => exact ⟨0, T, t, by omega, by go_num, rfl, by omega, Lib.hid HC.out⟩
  case round =>
    obtain ⟨j, r, s, hjr, rfl, rfl, hl, HW⟩ := hrel
    by_cases hr : 0 < r
    · obtain ⟨r, rfl⟩ : ∃ r', r = r' + 1 := ⟨r - 1, by omega⟩
      obtain ⟨z, hz⟩ : ∃ z, z = s.size := ⟨_, rfl⟩
      have hsz := hz.symm
      rw [hsz] at hl
      by_cases h0 : 0 < z
      · have HP := Lib.hid (pick_c w0 wr g (K + 2 + 6 * j) z cv ns HA.out HW.out (by omega) h0 (by omega))
        clear hz
        go_wp2_with fail
        refine HP.out.mono ?_
        rintro e w2 ⟨i, rfl, hi, hcu, hg⟩
        have HC2 := Lib.hid hcu; clear hcu hg HP
        have HP := Lib.hid (pick_c w0 w2 g (K + 2 + 6 * j + 2) M cv ns HA.out HC2.out (by omega) hM1 (by omega))
        go_wp2_with fail
        refine HP.out.mono ?_
        rintro e w3 ⟨q, rfl, hq, hcu, hg⟩
        have HC3 := Lib.hid hcu; clear hcu hg HP
        go_wp2_with fail
        have HP := Lib.hid (pick_c w0 (w3.alloc (.cells #[.int .u8 (u[q].toNat : Int)] 5)) g (K + 2 + 6 * j + 2 + 2) 3 cv ns HA.out (HC3.out.later (below_alloc _ _)) (by omega) (by omega) (by omega))
        refine HP.out.mono ?_
        rintro e w4 ⟨y, rfl, hy, hcu, hg⟩
        have HC4 := Lib.hid hcu; clear hcu hg HP
        have he1 : (s.extract 0 i).size = i := by simp only [ByteArray.size_extract]; omega
        have he2 : (s.extract i z).size = z - i := by simp only [ByteArray.size_extract]; omega
        have he3 : (s.extract (i + 1) z).size = z - (i + 1) := by simp only [ByteArray.size_extract]; omega
        have hc1 : (bs [u[q]]).size = 1 := bs_size _
        match y, hy with
        | 0, _ =>
          go_wp2_with fail
          go_quiet (fail)
          go_wp2_with fail
          go_roundw
          case rel =>
            refine ⟨j + 1, r, _, by omega, by go_num, rfl, ?_, Lib.hid ((HC4.out.mono (by omega)).draw _)⟩
            simp only [ByteArray.size_append, ByteArray.size_extract, hc1]; omega
          case measure => simp [intOf] <;> omega
        | 1, _ =>
          go_wp2_with fail
          go_quiet (fail)
          go_wp2_with fail
          go_roundw
          case rel =>
            refine ⟨j + 1, r, _, by omega, by go_num, rfl, ?_, Lib.hid ((HC4.out.mono (by omega)).draw _)⟩
            simp only [ByteArray.size_append, ByteArray.size_extract, hc1]; omega
          case measure => simp [intOf] <;> omega
        | 2, _ =>
          go_wp2_with fail
          go_quiet (fail)
          go_wp2_with fail
          go_roundw
          case rel =>
            refine ⟨j + 1, r, _, by omega, by go_num, rfl, ?_, Lib.hid ((HC4.out.mono (by omega)).draw _)⟩
            simp only [ByteArray.size_append, ByteArray.size_extract, hc1]; omega
          case measure => simp [intOf] <;> omega
      · obtain rfl : z = 0 := by omega
        clear hz
        go_wp2_with fail
        go_ret
        exact ⟨s, rfl, by omega, HW.out.mono (by omega)⟩
    · obtain rfl : r = 0 := by omega
      go_wp2_with fail
      go_ret
      exact ⟨s, rfl, by omega, HW.out.mono (by omega)⟩

theorem digB_Z {l : List UInt8} (h : l.all digB = true) : l.all digZ = true := by
  rw [List.all_eq_true] at h ⊢
  intro c hc
  have := h c hc
  unfold digB at this
  have := of_decide_eq_true this
  exact decide_eq_true (by omega)
theorem lit_cellsW (w : World) (xs : List Int) (T : TypeId) : ∀ i (h : i < xs.length), (w.alloc (.cells (xs.map (Value.int .i64)).toArray T)).cell? ⟨w.heap.size, i, none⟩ = some (.int .i64 xs[i]) := by
  intro i h
  have hcl := heap_alloc_new w (.cells (xs.map (Value.int .i64)).toArray T)
  simp only [World.cell?, hcl]
  simp [h]
/-- A text is drawn by a cursor. -/
def TextC (w0 : World) (g : Nat) (cv : Value) (K : Nat) (e : Ending) (w' : World) : Prop := ∃ t : ByteArray, e = .returned (.string t) ∧ t.size ≤ 402 ∧ Cur w0 w' g cv K

set_option maxHeartbeats 2000000 in
theorem wordOf_c (w0 w : World) (g K most : Nat) (cv : Value) (ns : List Int) (ha : ArgY w0 cv ns) (hc : Cur w0 w g cv K) (hK : K ≤ 100000) (hm1 : 1 ≤ most) (hm : most ≤ 25) :
    Calls Try.prog 44 #[.pointer (some ⟨g, 0, none⟩), .int .i64 (most : Int)] w fun e w' => TextC w0 g cv (K + 20 + 4 * most) e w' := by
  have HP := Lib.hid (pick_c w0 w g K 14 cv ns ha hc (by omega) (by omega) (by omega))
  have HA := Lib.hid ha
  clear hc ha
  go_enter Try.func44, Try.ntmps44
  go_wp2_with fail
  refine HP.out.mono ?_
  rintro e w1 ⟨x, rfl, hx, hcu, hg⟩
  have HC := Lib.hid hcu
  clear hcu hg HP
  match x, hx with
  | 0, _ =>
    have HS := Lib.hid (sureWord_c w0 w1 g (K + 2) most 4 cv ns HA.out HC.out (by omega) hm1 (by omega) (by omega) (by omega))
    go_wp2_with fail
    refine HS.out.mono ?_
    rintro e w2 ⟨l, rfl, h1, h2, h3, hcu⟩
    have HC2 := Lib.hid hcu; clear hcu
    go_wp2_with fail
    refine (spoilt_c w0 w2 g _ most 6 cv ns (bs l) _ HA.out HC2.out (by omega) (by rw [bs_size]; exact h2) (by omega) (by rfl) (by omega) (by omega)).mono ?_
    rintro e w3 ⟨s, rfl, hs, hcu⟩
    have HC3 := Lib.hid hcu; clear hcu
    go_wp2_with fail
    go_ret
    exact ⟨s, rfl, by omega, HC3.out.mono (by omega)⟩
  | 1, _ =>
    have HQ := Lib.hid (pick_c w0 w1 g (K + 2) 9 cv ns HA.out HC.out (by omega) (by omega) (by omega))
    go_wp2_with fail
    refine HQ.out.mono ?_
    rintro e w2 ⟨d, rfl, hd, hcu, hg⟩
    have HC2 := Lib.hid hcu; clear hcu hg HQ
    go_wp2_with fail
    have hlt := HC2.out.lt
    refine (among_c w0 _ g (K + 2 + 2) w2.heap.size 5 5 cv ns [8, 9, 10, 400, 401] HA.out (HC2.out.later (below_alloc _ _)) (by omega) rfl (by omega) (by omega) (by omega) (by omega) (by omega) (by simp) (lit_cellsW w2 _ _)).mono ?_
    rintro e w3 ⟨n, hn, rfl, hcu, hg⟩
    have HC3 := Lib.hid hcu
    obtain ⟨m, rfl, hm9⟩ : ∃ m : Nat, n = (m : Int) ∧ m ≤ 401 := by
      simp only [List.mem_cons, List.not_mem_nil, or_false] at hn
      exact ⟨n.toNat, by omega, by omega⟩
    clear hn hcu hg
    go_wp2_with fail
    refine (woTimes_z _ m w3 (by omega) (by omega) hm9).mono ?_
    rintro e w4 ⟨rfl, hb⟩
    have HC4 := Lib.hid (HC3.out.later hb)
    clear hb
    go_wp2_with fail
    go_ret
    exact ⟨_, rfl, by rw [bs_size, List.length_replicate]; omega, HC4.out.mono (by omega)⟩
  | 2, _ =>
    go_wp2_with fail
    go_ret
    exact ⟨_, rfl, by decide, HC.out.mono (by omega)⟩
  | 3, _ | 4, _ =>
    have HS := Lib.hid (sureWord_c w0 w1 g (K + 2) most 3 cv ns HA.out HC.out (by omega) hm1 (by omega) (by omega) (by omega))
    go_wp2_with fail
    refine HS.out.mono ?_
    rintro e w2 ⟨l, rfl, h1, h2, h3, hcu⟩
    have HC2 := Lib.hid hcu; clear hcu
    have hz := digB_Z (digsL_all h3 (by omega))
    have HW := Lib.hid (woSay_l l w2 h1 (by omega) hz)
    have hf := sayL_facts h1 (by omega) hz
    go_wp2_with fail
    refine HW.out.mono ?_
    rintro e w3 ⟨rfl, hb⟩
    have HC3 := Lib.hid (HC2.out.later hb); clear hb
    go_wp2_with fail
    go_ret
    exact ⟨_, rfl, by rw [bs_size]; omega, HC3.out.mono (by omega)⟩
  | 5, _ =>
    have HS := Lib.hid (sureWord_c w0 w1 g (K + 2) most 3 cv ns HA.out HC.out (by omega) hm1 (by omega) (by omega) (by omega))
    go_wp2_with fail
    refine HS.out.mono ?_
    rintro e w2 ⟨l, rfl, h1, h2, h3, hcu⟩
    have HC2 := Lib.hid hcu; clear hcu
    have hz := digB_Z (digsL_all h3 (by omega))
    have HW := Lib.hid (woSay_l l w2 h1 (by omega) hz)
    have hf := sayL_facts h1 (by omega) hz
    have HW2 := Lib.hid (fun W => woSay_l (sayL l) W hf.2.1 (by omega) hf.1)
    have hf2 := sayL_facts hf.2.1 (by omega) hf.1
    go_wp2_with fail
    refine HW.out.mono ?_
    rintro e w3 ⟨rfl, hb⟩
    have HC3 := Lib.hid (HC2.out.later hb); clear hb
    go_wp2_with fail
    refine (HW2.out _).mono ?_
    rintro e w4 ⟨rfl, hb⟩
    have HC4 := Lib.hid (HC3.out.later hb); clear hb
    go_wp2_with fail
    go_ret
    exact ⟨_, rfl, by rw [bs_size]; omega, HC4.out.mono (by omega)⟩
  | 6, _ =>
    go_wp2_with fail
    have hlt := HC.out.lt
    refine (among_c w0 _ g (K + 2) w1.heap.size 3 3 cv ns [100, 200, 201] HA.out (HC.out.later (below_alloc _ _)) (by omega) rfl (by omega) (by omega) (by omega) (by omega) (by omega) (by simp) (lit_cellsW w1 _ _)).mono ?_
    rintro e w3 ⟨n, hn, rfl, hcu, hg⟩
    have HC3 := Lib.hid hcu
    obtain ⟨m, rfl, hm9⟩ : ∃ m : Nat, n = (m : Int) ∧ m ≤ 201 := by
      simp only [List.mem_cons, List.not_mem_nil, or_false] at hn
      exact ⟨n.toNat, by omega, by omega⟩
    clear hn hcu hg
    go_wp2_with fail
    go_loopw [5, 6] (fun o k wr => ∃ (j r : Nat) (s : ByteArray), j + r = m ∧ k = .int .i64 (r : Int) ∧ o = .string s ∧ s.size = 2 * j ∧ Hid (Cur w0 wr g cv (K + 2 + 2))) (fun _ k _ => (intOf k).toNat)
    case atStart => exact ⟨0, m, _, by omega, rfl, rfl, rfl, Lib.hid HC3.out⟩
    case round =>
      obtain ⟨j, r, s, hjr, rfl, rfl, hs, HW⟩ := hrel
      by_cases hr : 0 < r
      · obtain ⟨r, rfl⟩ : ∃ r', r = r' + 1 := ⟨r - 1, by omega⟩
        go_wp2_with fail
        go_roundw
        case rel => exact ⟨j + 1, r, _, by omega, by go_num, rfl, by rw [ByteArray.size_append, hs]; rfl, Lib.hid HW.out⟩
        case measure => simp [intOf] <;> omega
      · obtain rfl : r = 0 := by omega
        go_wp2_with fail
        go_ret
        exact ⟨s, rfl, by omega, HW.out.mono (by omega)⟩
  | 7, _ =>
    go_wp2_with fail
    go_ret
    exact ⟨_, rfl, by decide, HC.out.mono (by omega)⟩
  | 8, _ | 9, _ | 10, _ | 11, _ | 12, _ | 13, _ =>
    have HS := Lib.hid (sureWord_c w0 w1 g (K + 2) most 4 cv ns HA.out HC.out (by omega) hm1 (by omega) (by omega) (by omega))
    go_wp2_with fail
    refine HS.out.mono ?_
    rintro e w2 ⟨l, rfl, h1, h2, h3, hcu⟩
    have HC2 := Lib.hid hcu; clear hcu
    go_wp2_with fail
    go_ret
    exact ⟨_, rfl, by rw [bs_size]; omega, HC2.out.mono (by omega)⟩
end Go.Proofs.Ythbjaclobllkhaa
