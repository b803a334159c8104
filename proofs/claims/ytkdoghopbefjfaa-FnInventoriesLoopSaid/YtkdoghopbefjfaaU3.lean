/- TellList and IsSelfTold on both sides. -/
import Derived.Test.YtkdoghopbefjfaaU2
import Derived.Test.YtkdoghopbefjfaaT10
namespace Go.Proofs.Ytkdoghopbefjfaa
open Go.RowKit Go.BigFrame
set_option linter.unusedSimpArgs false
set_option linter.unusedVariables false
set_option maxRecDepth 4000

/-- What is told of a list, if it is a told one. -/
def tellO (xs : List Int) : Option (List Int) := if tolL xs = true then some (ti (tel xs.length (xs.map Int.toNat))) else none
theorem tellO_ti {ns : List Nat} (h : tolL (ti ns) = true) : tellO (ti ns) = some (ti (tel ns.length ns)) := by
  unfold tellO
  rw [if_pos h, ti_len]
  congr 3
  simp only [ti, List.map_map]
  exact List.map_id ns

theorem specTellList_any (w : World) (B : Nat) (v : Value) (xs : List Int) (ha : IntsA w B v xs) :
    Calls Try.prog 37 #[v] w fun e w' => IntsAOk (tellO xs) w w' e := by
  have hL := fun (W : World) (hb : Below w.heap.size w W) => taList_any W B v xs (intsA_below ha hb)
  cases ht : tolL xs with
  | false =>
    rw [ht] at hL
    have hO : tellO xs = none := by unfold tellO; rw [if_neg (by rw [ht]; simp)]
    rw [hO]
    obtain ⟨a, cap, rfl, _, _⟩ := intsA_slice ha
    have HL := Lib.hid (hL w (Below.refl _ _)); clear hL ha ht hO
    go_enter Try.func37, Try.ntmps37
    go_wp2_with fail
    refine HL.out.mono ?_
    rintro e w1 ⟨rfl, rfl⟩
    go_wp2_with fail
    go_ret2
    exact ⟨_, rfl, intsA_nil _ _, Below.refl _ _, fun _ => rfl⟩
  | true =>
    rw [ht] at hL
    obtain ⟨ns, rfl, h1, h9, hle⟩ := tolL_nat ht
    rw [tellO_ti ht]
    have hT := taTell_any w B v ns ha h1 h9
    obtain ⟨a, cap, rfl, _, _⟩ := intsA_slice ha
    have HL := Lib.hid (hL w (Below.refl _ _)); have HT := Lib.hid hT; clear hL ha ht hT
    go_enter Try.func37, Try.ntmps37
    go_wp2_with fail
    refine HL.out.mono ?_
    rintro e w1 ⟨rfl, rfl⟩
    go_wp2_with fail
    refine HT.out.mono ?_
    rintro e w1 ⟨g, rfl, ho, hb⟩
    have HO := Lib.hid ho; have HB := Lib.hid hb; clear ho hb
    go_wp2_with fail
    go_ret2
    refine ⟨_, rfl, intsA_of ?_, HB.out, fun h => by cases h⟩
    have := HO.out
    rw [tvl_ti] at this
    unfold Ints
    simpa [ti_len, tel_len] using this

set_option maxHeartbeats 1000000 in
theorem implTellList_any (w : World) (B : Nat) (v : Value) (xs : List Int) (ha : IntsA w B v xs) :
    Calls Try.prog 36 #[v] w fun e w' => IntsAOk (tellO xs) w w' e := by
  have hL := tallyList_any w B v xs ha
  cases ht : tolL xs with
  | false =>
    rw [ht] at hL
    have hP : padO xs = zeros9 := by unfold padO; rw [if_neg (by rw [ht]; simp)]
    have hO : tellO xs = none := by unfold tellO; rw [if_neg (by rw [ht]; simp)]
    rw [hP] at hL
    rw [hO]
    obtain ⟨a, cap, rfl, _, _⟩ := intsA_slice ha
    have HL := Lib.hid hL; clear hL ha ht hO hP
    go_enter Try.func36, Try.ntmps36
    go_wp2_with fail
    refine HL.out.mono ?_
    rintro e w1 ⟨rfl, hb⟩
    have HB := Lib.hid hb; clear hb
    go_wp2_with (refine wpList_putT rfl _ _ rfl w1.heap.size rfl zeros9 zeros9 rfl ⟨heap_alloc_new _ _, rfl⟩ rfl ?_; intro w2 hB2 _ hbb _; have HB2 := Lib.hid ((below_alloc w1 _).trans (hbb _ (Nat.le_refl _))); clear hbb)
    go_ret2
    exact ⟨_, rfl, intsA_nil _ _, below_trans HB.out HB2.out, fun _ => rfl⟩
  | true =>
    rw [ht] at hL
    obtain ⟨ns, rfl, h1, h9, hle⟩ := tolL_nat ht
    rw [padO_ti ht] at hL
    rw [tellO_ti ht]
    have hp9 := pad_len ns h9
    have hT := fun W => tellFirst_any (pad ns) ns.length W hp9 h9
    rw [pad_take] at hT
    have hLi := fun W => list_any (telP ns.length ns) ns.length W (telP_len _ _) h9
    have htk : (ti (telP ns.length ns)).take ns.length = ti (tel ns.length ns) := by
      rw [← telP_take _ _ h9]; simp [ti]
    rw [htk] at hLi
    obtain ⟨a, cap, hv, _, _⟩ := intsA_slice ha
    rw [ti_len] at hv
    subst hv
    have HL := Lib.hid hL; have HT := Lib.hid hT; have HLI := Lib.hid hLi; clear hL ha ht hT hLi htk
    go_enter Try.func36, Try.ntmps36
    go_wp2_with fail
    refine HL.out.mono ?_
    rintro e w1 ⟨rfl, hb⟩
    have HB := Lib.hid hb; clear hb
    go_wp2_with (first
      | (refine wpList_putT rfl _ _ rfl w1.heap.size rfl zeros9 (pad ns) rfl ⟨heap_alloc_new _ _, rfl⟩ hp9 ?_; intro w2 hB2 _ hbb _; have HB2 := Lib.hid ((below_alloc w1 _).trans (hbb _ (Nat.le_refl _))); clear hbb)
      | refine wpList_getT rfl _ rfl w1.heap.size rfl _ hB2 ?_)
    refine (HT.out w2).mono ?_
    rintro e w3 ⟨rfl, hb⟩
    have HB3 := Lib.hid hb; clear hb
    go_wp2_with fail
    refine (HLI.out w3).mono ?_
    rintro e w4 ⟨v, rfl, ho, hb, _⟩
    have HO := Lib.hid ho; have HB4 := Lib.hid hb; clear ho hb
    go_wp2_with fail
    go_ret2
    have hbb := below_trans HB.out (below_trans HB2.out HB3.out)
    exact ⟨_, rfl, intsA_mono HO.out hbb.size, below_trans hbb HB4.out, fun h => by cases h⟩
end Go.Proofs.Ytkdoghopbefjfaa
