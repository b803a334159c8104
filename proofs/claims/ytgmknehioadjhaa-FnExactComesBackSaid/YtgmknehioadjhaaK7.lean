/- Two words stay apart: the model's l1Has, elApart. -/
import Derived.Test.YtgmknehioadjhaaK6
import Derived.IntWalk
namespace Go.Proofs.Ytgmknehioadjhaa
open Go.RowKit Go.BigFrame Go.Shelf
set_option linter.unusedSimpArgs false
set_option linter.unusedVariables false
set_option maxRecDepth 4000

set_option maxHeartbeats 1000000 in
theorem l1Has_any (w : World) (B : Nat) (v : Value) (ns : List Int) (x : Int) (ha : Ints w B v ns) (b : Bool) (hb : ns.contains x = b) :
    Calls Try.prog 97 #[v, .int .i64 x] w fun e w' => e = .returned (.bool b) ∧ w = w' := by
  have HBB := Lib.hid hb; clear hb
  rcases ints_open ha with ⟨rfl, rfl⟩ | ⟨g, cap, rfl, _, hg, hn, hcp, hca, _⟩
  · clear ha
    go_enter Try.func97, Try.ntmps97
    go_wp2_with fail
    refine wp_loop_rounds 1 ?_
    rw [rounds_succ]
    go_wp2
    go_ret
    exact ⟨ret_bool (by rw [← HBB.out]; rfl), rfl⟩
  · have HA := Lib.hid hca
    obtain ⟨N, hN⟩ : ∃ N, N = ns.length := ⟨_, rfl⟩
    have HN := Lib.hid hN
    rw [← hN] at hn ⊢
    clear ha hca hN
    go_enter Try.func97, Try.ntmps97
    go_wp2_with fail
    go_loop [9] (fun i => ∃ k : Nat, k ≤ N ∧ i = .int .i64 k ∧ Hid ((ns.take k).contains x = false)) (fun i => N - (intOf i).toNat)
    case atStart => exact ⟨0, Nat.zero_le _, rfl, rfl⟩
    case round =>
      obtain ⟨k, hk, rfl, HX⟩ := hrel
      by_cases hlt : k < N
      · have hlt' : k < ns.length := by rw [← HN.out]; exact hlt
        have hc := HA.out k hlt'
        have hst : (ns.take (k + 1)).contains x = (x == ns[k]) := by
          rw [List.take_succ_eq_append_getElem hlt']
          have := HX.out
          simp only [List.contains_eq_mem, List.mem_append, List.mem_singleton, decide_eq_false_iff_not] at this ⊢
          simp only [this, false_or]
          rw [Bool.eq_iff_iff]; simp
        have hall : ns.contains x = true ∨ ¬ (x == ns[k]) = true := by
          by_cases e : (x == ns[k]) = true
          · left
            rw [beq_iff_eq] at e
            simp [e]
          · exact .inr e
        have HST := Lib.hid hst; have HALL := Lib.hid hall
        clear hst hall
        generalize ns[k] = y at *
        by_cases hxy : y = x
        · have hb : (y == x) = true := by simp [hxy]
          have HF : Hid (ns.contains x = true) := by
            rcases HALL.out with h | h
            · exact h
            · exact absurd (by simp [hxy]) h
          clear hxy HST HALL
          go_wp2
          go_ret
          exact ⟨ret_bool (by rw [← HBB.out, HF.out]), rfl⟩
        · have hb : (y == x) = false := by simp [hxy]
          have HT : Hid ((ns.take (k + 1)).contains x = false) := by rw [HST.out]; simp; exact fun e => hxy e.symm
          clear hxy HST HALL
          go_wp2
          go_round
          case rel => exact ⟨k + 1, by omega, by go_num, HT.out⟩
          case measure => simp [intOf] <;> omega
      · obtain rfl : k = N := by omega
        go_wp2
        go_ret
        refine ⟨ret_bool ?_, rfl⟩
        have := HX.out
        rw [List.take_of_length_le (by rw [← HN.out]; exact Nat.le_refl _)] at this
        rw [← HBB.out, this]

/-- Do two words stay apart? -/
def apartB (u v : List UInt8) : Bool := !(firstsL v).contains (u.getLastD 0)
theorem digs_has (l : List UInt8) (c : UInt8) : (digsN l).contains ((c.toNat : Int) - 48) = l.contains c := by
  unfold digsN
  rw [Bool.eq_iff_iff]
  simp only [List.contains_eq_mem, decide_eq_true_eq, List.mem_map]
  constructor
  · rintro ⟨d, hd, e⟩
    have : d = c := UInt8.toNat_inj.1 (by omega)
    subst this; exact hd
  · intro h; exact ⟨c, h, rfl⟩
theorem last_at8 (u : ByteArray) (m : Nat) (hlt : m < u.size) (h : u.size = m + 1) : u.data.toList.getLastD 0 = u[m] := by
  have hl : u.data.toList.length - 1 = m := by rw [size_list]; omega
  have hm : m < u.data.toList.length := by rw [size_list]; omega
  rw [List.getLastD_eq_getLast?, List.getLast?_eq_getElem?, hl, List.getElem?_eq_getElem hm]
  simp; rfl

set_option maxHeartbeats 1000000 in
theorem elApart_any (u v : ByteArray) (w : World) (hv : sayB v.data.toList = true) (hs : v.size ≤ 120) (hu : 1 ≤ u.size) (hus : u.size ≤ 1000) (hud : u.data.toList.all digB = true) :
    Calls Try.prog 94 #[.string u, .string v] w fun e w' => e = .returned (.bool (apartB u.data.toList v.data.toList)) ∧ Below w.heap.size w w' := by
  obtain ⟨m, hm⟩ : ∃ m, u.size = m + 1 := ⟨u.size - 1, by omega⟩
  have hlt : m < u.size := by omega
  obtain ⟨hd1, hd2⟩ := dig_at u hud m hlt
  have HL := Lib.hid (last_at8 u m hlt hm)
  have HV := Lib.hid (fun (W : World) => elFirsts_any v W hv hs)
  have hm2 : m ≤ 1000 := by omega
  have hw1 : IntKind.i64.wrap ((u.size : Int) - 1) = (m : Int) := by
    rw [IntWalk.i64_in _ (by omega)]; omega
  have hw2 : IntKind.u8.wrap ((u[m].toNat : Int) - 48) = (u[m].toNat : Int) - 48 := IntWalk.u8_in _ (by omega)
  have hw3 : IntKind.i64.wrap ((u[m].toNat : Int) - 48) = (u[m].toNat : Int) - 48 := IntWalk.i64_in _ (by omega)
  obtain ⟨b, hb⟩ : ∃ b, (firstsL v.data.toList).contains (u.data.toList.getLastD 0) = b := ⟨_, rfl⟩
  have HAP : Hid (apartB u.data.toList v.data.toList = !b) := by unfold apartB; rw [hb]; exact rfl
  have HB : Hid ((digsN (firstsL v.data.toList)).contains ((u[m].toNat : Int) - 48) = b) := by rw [digs_has, ← HL.out, hb]; exact rfl
  clear hb
  clear hv hs hud hu hus hm
  go_enter Try.func94, Try.ntmps94
  go_wp2_with fail
  go_region_with (first
    | (go_at_call 98; ((with_reducible refine (HV.out _).mono ?_); rintro e w1 ⟨vv, rfl, hvv, hb1⟩; have HVV := Lib.hid hvv; have HB1 := Lib.hid hb1; clear hvv hb1))
    | (go_at_call 97; ((with_reducible refine (l1Has_any _ _ _ _ _ HVV.out b HB.out).mono ?_); rintro e w2 ⟨rfl, rfl⟩)))
  all_goals
    go_wp2_with fail
    go_ret
    exact ⟨ret_bool (by rw [HAP.out]), (Below.refl _ _).drew.trans (HB1.out.mono (Nat.le_refl _))⟩
end Go.Proofs.Ytgmknehioadjhaa
