/- Chapter 8: names read by the model. -/
import Derived.Test.YtlcbdmmmafpchaaDoorml
namespace Go.Proofs.YtlcbdmmmafpchaaDoor
open Go.RowKit Go.BigFrame
set_option linter.unusedSimpArgs false
set_option linter.unusedVariables false
set_option maxRecDepth 4000

/-- A slice of texts that may be read. -/
def TxtAt (w : World) (v : Value) (ls : List (List UInt8)) : Prop := ∃ A c, v = .slice A ls.length c ∧ ls.length ≤ c ∧ c ≤ 9223372036854775807 ∧ ∀ i (hi : i < ls.length), ∃ b o, A = some ⟨b, o, none⟩ ∧ b < w.heap.size ∧ w.cell? ⟨b, o + i, none⟩ = some (.string (bs ls[i]))
theorem txtAt_below {w w' : World} {v : Value} {ls : List (List UInt8)} (h : TxtAt w v ls) (hb : Below w.heap.size w w') : TxtAt w' v ls := by
  obtain ⟨A, c, h1, h2, h3, h4⟩ := h
  refine ⟨A, c, h1, h2, h3, fun i hi => ?_⟩
  obtain ⟨b, o, e1, e2, e3⟩ := h4 i hi
  exact ⟨b, o, e1, Nat.lt_of_lt_of_le e2 hb.size, (hb.cell (p := ⟨b, o + i, none⟩) e2).trans e3⟩
theorem joinS_succ (ls : List (List UInt8)) (k : Nat) (h : k < ls.length) : joinS (ls.take (k + 1)) = (if k = 0 then [] else joinS (ls.take k) ++ [32]) ++ ls[k] := by
  rw [List.take_succ_eq_append_getElem h]
  by_cases h0 : k = 0
  · subst h0; rw [if_pos rfl]; simp [joinS]
  · rw [if_neg h0, joinS_append _ _ (fun e => h0 (by have := congrArg List.length e; rw [List.length_take, List.length_nil] at this; omega)) (by simp)]; rfl
theorem joinS_take_le (ls : List (List UInt8)) : ∀ k, k ≤ ls.length → (joinS (ls.take k)).length ≤ (joinS ls).length := by
  intro k hk
  have key : ∀ d k, k + d = ls.length → (joinS (ls.take k)).length ≤ (joinS ls).length := by
    intro d
    induction d with
    | zero => intro k hk; rw [List.take_of_length_le (by omega)]; exact Nat.le_refl _
    | succ d ih =>
      intro k hk
      refine Nat.le_trans ?_ (ih (k + 1) (by omega))
      rw [joinS_succ ls k (by omega)]
      by_cases h0 : k = 0
      · subst h0; simp [joinS]
      · rw [if_neg h0]; simp only [List.length_append]; omega
  exact key (ls.length - k) k (by omega)
theorem hundF_hit {S : List UInt8} {k : Nat} (hk : k < 1000) (h : nm1000 k = S) : hundF S = (k : Int) := by subst h; exact hundF_name k hk
theorem hundF_miss {S : List UInt8} (h : ∀ j, j < 1000 → nm1000 j ≠ S) : hundF S = -1 := by
  unfold hundF
  cases hf : (List.range 1000).find? (fun m => nm1000 m = S) with
  | none => rfl
  | some m => exact absurd (by simpa using List.find?_some hf) (h m (List.mem_range.1 (List.mem_of_find?_eq_some hf)))

set_option maxHeartbeats 2000000 in
set_option maxRecDepth 100000 in
theorem naHundreds_any (w : World) (v : Value) (ls : List (List UInt8)) (h : TxtAt w v ls) (h9 : (joinS ls).length ≤ 200) (hn : ls.length ≤ 200) :
    Calls Tryd.prog 98 #[v] w fun e w' => e = .returned (.int .i64 (hundF (joinS ls))) ∧ Below w.heap.size w w' := by
  obtain ⟨A, c, rfl, hc1, hc2, hcell⟩ := h
  obtain ⟨N, hN⟩ : ∃ N, N = ls.length := ⟨_, rfl⟩
  obtain ⟨J, hJ⟩ : ∃ J, J = joinS ls := ⟨_, rfl⟩
  obtain ⟨R, hR⟩ : ∃ R, R = hundF J := ⟨_, rfl⟩
  have htl := fun k hk => joinS_take_le ls k hk
  have HC := Lib.hid hcell; have HN := Lib.hid hN; have HJ := Lib.hid hJ; have HR := Lib.hid hR
  have HTL := Lib.hid htl
  rw [← hJ] at h9 ⊢
  rw [← hR]
  rw [← hN] at hc1 hn ⊢
  have H9 := Lib.hid h9
  clear hcell hN hJ hR htl
  go_enter Tryd.func98, Tryd.ntmps98
  go_wp2_with fail
  go_loop [3, 4, 5, 9] (fun sv iv wv kv => ∃ (k : Nat) (S : List UInt8), k ≤ N ∧ kv = .int .i64 (k : Int) ∧ sv = .string (bs S) ∧ S.length ≤ 200 ∧ Hid (S = joinS (ls.take k))) (fun _ _ _ kv => N - (intOf kv).toNat)
  case atStart => exact ⟨0, [], Nat.zero_le _, rfl, rfl, by simp, rfl⟩
  case round =>
    obtain ⟨k, S, hk, rfl, rfl, hS, HX⟩ := hrel
    have hbS : (bs S).size = S.length := bs_size _
    by_cases hlt : k < N
    · have hk' : k < ls.length := by rw [← HN.out]; exact hlt
      obtain ⟨b, o, rfl, hb, hcw⟩ := HC.out k hk'
      have hsu := joinS_succ ls k hk'
      have hle := HTL.out (k + 1) hk'
      rw [← HJ.out] at hle
      obtain ⟨x, hx⟩ : ∃ x, x = ls[k] := ⟨_, rfl⟩
      rw [← hx] at hcw hsu
      have hbx : (bs x).size = x.length := bs_size _
      by_cases h0 : k = 0
      · rw [if_pos h0, List.nil_append] at hsu
        have hSe : S = [] := by rw [HX.out, h0]; rfl
        have hxl : x.length ≤ 200 := by rw [hsu] at hle; omega
        subst hSe
        have HSU := Lib.hid hsu
        have hz : ¬ (k : Int) > 0 := by omega
        have hz2 : ¬ 0 < (k : Int) := by omega
        clear hsu hle hx h0
        go_wp2_with fail
        go_round
        case rel => exact ⟨k + 1, x, by omega, by go_num, by rw [bs_append]; rfl, hxl, HSU.out.symm⟩
        case measure => simp [intOf] <;> omega
      · rw [if_neg h0, ← HX.out] at hsu
        have hxl : S.length + 1 + x.length ≤ 200 := by rw [hsu] at hle; simp at hle; omega
        have hz : (k : Int) > 0 := by omega
        have hz2 : 0 < (k : Int) := by omega
        have b3 : (⟨#[32]⟩ : ByteArray).size = 1 := rfl
        have b4 : (bs S ++ (⟨#[32]⟩ : ByteArray)).size = S.length + 1 := by rw [ByteArray.size_append, hbS]; rfl
        have HSU := Lib.hid hsu
        clear hsu hle hx h0
        go_wp2_with fail
        go_round
        case rel => exact ⟨k + 1, S ++ [32] ++ x, by omega, by go_num, by rw [← bs_append, ← bs_append]; rfl, by simp; omega, HSU.out.symm⟩
        case measure => simp [intOf] <;> omega
    · obtain rfl : k = N := by omega
      have hSJ : S = J := by rw [HX.out, HJ.out, List.take_of_length_le (by rw [← HN.out]; exact Nat.le_refl _)]
      subst hSJ
      clear hlt hk
      go_wp2_with fail
      go_loopw [6] (fun nv wr => ∃ (m : Nat), m ≤ 1000 ∧ nv = .int .i64 (m : Int) ∧ Hid ((∀ j, j < m → nm1000 j ≠ S) ∧ Below w.heap.size w wr)) (fun nv _ => 1000 - (intOf nv).toNat)
      case atStart => exact ⟨0, Nat.zero_le _, rfl, fun j hj => by omega, below_refl _⟩
      case round =>
        obtain ⟨m, hm, rfl, HY⟩ := hrel
        by_cases hml : m < 1000
        · have HL := Lib.hid (fun (W : World) => naName1000_any m W hml)
          have hq := bs_eqB (a := nm1000 m) (b := S)
          by_cases hqe : nm1000 m = S
          · have hr : R = (m : Int) := by rw [HR.out, hundF_hit hml hqe]
            rw [decide_eq_true hqe] at hq
            have HRM := Lib.hid hr
            generalize nm1000 m = T at *
            clear hqe hr
            have hz : (m : Int) < 1000 := by omega
            go_wp2_with fail
            refine (HL.out _).mono ?_
            rintro e w1 ⟨rfl, hb⟩
            have HB := Lib.hid (below_trans HY.out.2 hb); clear hb
            go_wp2_with fail
            go_ret
            exact ⟨ret_int HRM.out.symm, HB.out⟩
          · rw [decide_eq_false hqe] at hq
            have HQE := Lib.hid (show ∀ j, j < m + 1 → nm1000 j ≠ S from fun j hj => by
              by_cases e : j = m
              · subst e; exact hqe
              · exact HY.out.1 j (by omega))
            obtain ⟨T, hT⟩ : ∃ T, T = nm1000 m := ⟨_, rfl⟩
            rw [← hT] at HL hq
            clear hqe hT
            have hz : (m : Int) < 1000 := by omega
            go_wp2_with fail
            refine (HL.out _).mono ?_
            rintro e w1 ⟨rfl, hb⟩
            have HB := Lib.hid (below_trans HY.out.2 hb); clear hb
            go_wp2_with fail
            go_roundw
            case rel => exact ⟨m + 1, by omega, by go_num, HQE.out, HB.out⟩
            case measure => simp [intOf] <;> omega
        · obtain rfl : m = 1000 := by omega
          have hr : R = -1 := by rw [HR.out, hundF_miss HY.out.1]
          have HRM := Lib.hid hr
          clear hr hml
          go_wp2_with fail
          go_ret
          exact ⟨ret_int HRM.out.symm, HY.out.2⟩
end Go.Proofs.YtlcbdmmmafpchaaDoor
