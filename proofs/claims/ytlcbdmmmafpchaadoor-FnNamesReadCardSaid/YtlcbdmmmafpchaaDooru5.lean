/- Words that are drawn: sureWord, spoilt, wordOf. -/
import Derived.Test.YtlcbdmmmafpchaaDooru2
import Derived.Test.YtlcbdmmmafpchaaDooru6
namespace Go.Proofs.YtlcbdmmmafpchaaDoor
open Go.RowKit Go.BigFrame Go.Deep
set_option linter.unusedSimpArgs false
set_option linter.unusedVariables false
set_option maxRecDepth 4000

/-- Digits from 1 to d. -/
def digsL (d : Nat) (l : List UInt8) : Prop := ∀ c ∈ l, 49 ≤ c.toNat ∧ c.toNat ≤ 48 + d
theorem digsL_snoc {d : Nat} {l : List UInt8} {c : UInt8} (h : digsL d l) (hc : 49 ≤ c.toNat ∧ c.toNat ≤ 48 + d) : digsL d (l ++ [c]) := by
  intro x hx
  rcases List.mem_append.1 hx with hx | hx
  · exact h x hx
  · simp at hx; subst hx; exact hc
theorem digsL_all {d : Nat} {l : List UInt8} (h : digsL d l) (hd : d ≤ 9) : l.all digB = true := by
  rw [List.all_eq_true]
  intro c hc
  have := h c hc
  exact decide_eq_true (by omega)

set_option maxHeartbeats 2000000 in
theorem spoilt_c (w0 w : World) (g K L M : Nat) (cv : Value) (ns : List Int) (t u : ByteArray) (ha : ArgY w0 cv ns) (hc : Cur w0 w g cv K) (hK : K ≤ 1000000) (ht : t.size ≤ L) (hL : L ≤ 100000) (hu : u.size = M) (hM1 : 1 ≤ M) (hM : M ≤ 100) :
    Calls Tryd.prog 68 #[.pointer (some ⟨g, 0, none⟩), .string t, .string u] w fun e w' => ∃ s : ByteArray, e = .returned (.string s) ∧ s.size ≤ L + 2 ∧ Cur w0 w' g cv (K + 14) := by
  have HP := Lib.hid (pick_c w0 w g K 2 cv ns ha hc (by omega) (by omega) (by omega))
  have HA := Lib.hid ha
  have hcv := conv1
  clear hc ha
  go_enter Tryd.func68, Tryd.ntmps68
  go_wp2_with fail
  refine HP.out.mono ?_
  rintro e w1 ⟨x, rfl, hx, hcu, hg⟩
  have HC := Lib.hid hcu
  clear hcu hg HP
  obtain ⟨T, hT⟩ : ∃ T, T = x + 1 := ⟨_, rfl⟩
  have hT2 : (1 : Int) + (x : Int) = (T : Int) := by omega
  have hT3 : T ≤ 2 := by omega
  have HTX := Lib.hid hT
  clear hT
  go_wp2_with fail
  go_loopw [1, 7] (fun o k wr => ∃ (j r : Nat) (s : ByteArray), j + r = T ∧ k = .int .i64 (r : Int) ∧ o = .string s ∧ s.size ≤ L + j ∧ Hid (Cur w0 wr g cv (K + 2 + 6 * j))) (fun _ k _ => (intOf k).toNat)
  case atStart => exact ⟨0, T, t, by omega, by go_num, rfl, by omega, Lib.hid HC.out⟩
  case round =>
    obtain ⟨j, r, s, hjr, rfl, rfl, hl, HW⟩ := hrel
    by_cases hr : 0 < r
    · obtain ⟨r, rfl⟩ : ∃ r', r = r' + 1 := ⟨r - 1, by omega⟩
      obtain ⟨z, hz⟩ : ∃ z, z = s.size := ⟨_, rfl⟩
      have hsz := hz.symm
      rw [hsz] at hl
      by_cases h0 : 0 < z
      · have HP := Lib.hid (pick_c w0 wr g (K + 2 + 6 * j) z cv ns HA.out HW.out (by omega) h0 (by omega))
        clear hz
        go_wp2_with fail
        refine HP.out.mono ?_
        rintro e w2 ⟨i, rfl, hi, hcu, hg⟩
        have HC2 := Lib.hid hcu; clear hcu hg HP
        have HP := Lib.hid (pick_c w0 w2 g (K + 2 + 6 * j + 2) M cv ns HA.out HC2.out (by omega) hM1 (by omega))
        go_wp2_with fail
        refine HP.out.mono ?_
        rintro e w3 ⟨q, rfl, hq, hcu, hg⟩
        have HC3 := Lib.hid hcu; clear hcu hg HP
        go_wp2_with fail
        have HP := Lib.hid (pick_c w0 (w3.alloc (.cells #[.int .u8 (u[q].toNat : Int)] 5)) g (K + 2 + 6 * j + 2 + 2) 3 cv ns HA.out (HC3.out.later (below_alloc _ _)) (by omega) (by omega) (by omega))
        refine HP.out.mono ?_
        rintro e w4 ⟨y, rfl, hy, hcu, hg⟩
        have HC4 := Lib.hid hcu; clear hcu hg HP
        have he1 : (s.extract 0 i).size = i := by simp only [ByteArray.size_extract]; omega
        have he2 : (s.extract i z).size = z - i := by simp only [ByteArray.size_extract]; omega
        have he3 : (s.extract (i + 1) z).size = z - (i + 1) := by simp only [ByteArray.size_extract]; omega
        have hc1 : (bs [u[q]]).size = 1 := bs_size _
        match y, hy with
        | 0, _ =>
          go_wp2_with fail
          go_quiet (fail)
          go_wp2_with fail
          go_roundw
          case rel =>
            refine ⟨j + 1, r, _, by omega, by go_num, rfl, ?_, Lib.hid ((HC4.out.mono (by omega)).draw _)⟩
            simp only [ByteArray.size_append, ByteArray.size_extract, hc1]; omega
          case measure => simp [intOf] <;> omega
        | 1, _ =>
          go_wp2_with fail
          go_quiet (fail)
          go_wp2_with fail
          go_roundw
          case rel =>
            refine ⟨j + 1, r, _, by omega, by go_num, rfl, ?_, Lib.hid ((HC4.out.mono (by omega)).draw _)⟩
            simp only [ByteArray.size_append, ByteArray.size_extract, hc1]; omega
          case measure => simp [intOf] <;> omega
        | 2, _ =>
          go_wp2_with fail
          go_quiet (fail)
          go_wp2_with fail
          go_roundw
          case rel =>
            refine ⟨j + 1, r, _, by omega, by go_num, rfl, ?_, Lib.hid ((HC4.out.mono (by omega)).draw _)⟩
            simp only [ByteArray.size_append, ByteArray.size_extract, hc1]; omega
          case measure => simp [intOf] <;> omega
      · obtain rfl : z = 0 := by omega
        clear hz
        go_wp2_with fail
        go_ret
        exact ⟨s, rfl, by omega, HW.out.mono (by omega)⟩
    · obtain rfl : r = 0 := by omega
      go_wp2_with fail
      go_ret
      exact ⟨s, rfl, by omega, HW.out.mono (by omega)⟩

theorem digB_Z {l : List UInt8} (h : l.all digB = true) : l.all digZ = true := by
  rw [List.all_eq_true] at h ⊢
  intro c hc
  have := h c hc
  unfold digB at this
  have := of_decide_eq_true this
  exact decide_eq_true (by omega)
theorem lit_cellsW (w : World) (xs : List Int) (T : TypeId) : ∀ i (h : i < xs.length), (w.alloc (.cells (xs.map (Value.int .i64)).toArray T)).cell? ⟨w.heap.size, i, none⟩ = some (.int .i64 xs[i]) := by
  intro i h
  have hcl := heap_alloc_new w (.cells (xs.map (Value.int .i64)).toArray T)
  simp only [World.cell?, hcl]
  simp [h]
/-- A text is drawn by a cursor. -/
def TextC (w0 : World) (g : Nat) (cv : Value) (K : Nat) (e : Ending) (w' : World) : Prop := ∃ t : ByteArray, e = .returned (.string t) ∧ t.size ≤ 402 ∧ Cur w0 w' g cv K

end Go.Proofs.YtlcbdmmmafpchaaDoor
