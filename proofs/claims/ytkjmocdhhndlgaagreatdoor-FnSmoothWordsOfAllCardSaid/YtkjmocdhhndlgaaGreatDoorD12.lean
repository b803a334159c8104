/- The program's low word of a number. -/
import Derived.Test.YtkjmocdhhndlgaaGreatDoorD11
namespace Go.Proofs.YtkjmocdhhndlgaaGreatDoor
open Go.RowKit Go.BigFrame Go.Shelf
set_option linter.unusedSimpArgs false
set_option linter.unusedVariables false
set_option maxRecDepth 4000

theorem lowT_len : ∀ (n k : Nat), (lowT n k).length = n
  | 0, _ => rfl
  | n + 1, k => by rw [lowT, List.length_append, lowT_len n]; rfl
theorem lowT_at : ∀ (n k a : Nat), a < n → (lowT n k)[n - 1 - a]? = some (UInt8.ofNat (49 + k / 2 ^ a % 2))
  | 0, k, a, h => by omega
  | n + 1, k, 0, h => by
    rw [lowT, List.getElem?_append_right (by rw [lowT_len]; omega), lowT_len]
    have : n + 1 - 1 - 0 - n = 0 := by omega
    rw [this]; simp
  | n + 1, k, a + 1, h => by
    rw [lowT, List.getElem?_append_left (by rw [lowT_len]; omega)]
    have e : n + 1 - 1 - (a + 1) = n - 1 - a := by omega
    rw [e, lowT_at n (k / 2) a (by omega), Nat.div_div_eq_div_mul, Nat.pow_succ, Nat.mul_comm (2 ^ a) 2]
/-- The row after so many rounds. -/
def fillT (n k a : Nat) : List Value := List.replicate (n - a) (Value.int .u8 0) ++ u8s ((lowT n k).drop (n - a))
theorem fillT_len (n k a : Nat) (h : a ≤ n) : (fillT n k a).length = n := by
  unfold fillT
  rw [List.length_append, List.length_replicate, u8s_len, List.length_drop, lowT_len]; omega
theorem fillT_zero (n k : Nat) : fillT n k 0 = List.replicate n (Value.int .u8 0) := by
  unfold fillT
  rw [Nat.sub_zero, List.drop_eq_nil_of_le (by rw [lowT_len]; exact Nat.le_refl _)]
  simp [u8s]
theorem fillT_all (n k : Nat) : fillT n k n = u8s (lowT n k) := by
  unfold fillT; rw [Nat.sub_self]; simp
theorem fillT_set (n k a : Nat) (h : a < n) : (fillT n k a).set (n - 1 - a) (.int .u8 (49 + ((k / 2 ^ a % 2 : Nat) : Int))) = fillT n k (a + 1) := by
  unfold fillT
  obtain ⟨m, hm⟩ : ∃ m, n - a = m + 1 := ⟨n - a - 1, by omega⟩
  have e1 : n - (a + 1) = m := by omega
  have e2 : n - 1 - a = m := by omega
  rw [hm, e1, e2, List.set_append_left _ _ (by simp), List.replicate_succ', List.set_append_right _ _ (by simp)]
  have hlt : m < (lowT n k).length := by rw [lowT_len]; omega
  have hx : (lowT n k)[m]? = some (UInt8.ofNat (49 + k / 2 ^ a % 2)) := by have := lowT_at n k a h; rw [e2] at this; exact this
  rw [List.getElem?_eq_getElem hlt] at hx
  have hd : (lowT n k).drop m = UInt8.ofNat (49 + k / 2 ^ a % 2) :: (lowT n k).drop (m + 1) := by
    rw [List.drop_eq_getElem_cons hlt, Option.some.inj hx]
  rw [hd]
  have h2 : k / 2 ^ a % 2 < 2 := Nat.mod_lt _ (by decide)
  simp only [List.length_replicate, Nat.sub_self, List.set_cons_zero, u8s, List.map_cons, List.append_assoc, List.singleton_append]
  obtain ⟨x, hx2⟩ : ∃ x, x = k / 2 ^ a % 2 := ⟨_, rfl⟩
  rw [← hx2] at h2 ⊢
  have e3 : (UInt8.ofNat (49 + x)).toNat = 49 + x := by rw [UInt8.toNat_ofNat']; exact Nat.mod_eq_of_lt (by omega)
  rw [e3]
  simp

theorem and_one (x : Nat) (h : x ≤ 100000) : bits BinOp.and IntKind.i64 (x : Int) 1 = ((x % 2 : Nat) : Int) := by
  unfold bits
  have e : (BitVec.ofInt IntKind.i64.bits (x : Int) &&& BitVec.ofInt IntKind.i64.bits 1).toNat = x % 2 := by
    rw [BitVec.toNat_and]
    have h1 : (BitVec.ofInt IntKind.i64.bits (x : Int)).toNat = x := by
      rw [BitVec.ofInt_natCast, BitVec.toNat_ofNat]
      exact Nat.mod_eq_of_lt (Nat.lt_of_le_of_lt h (by decide))
    have h2 : (BitVec.ofInt IntKind.i64.bits 1).toNat = 1 := by decide
    rw [h1, h2, Nat.and_one_is_mod]
  simp only [e]
  exact IntWalk.i64_in _ (by have : x % 2 < 2 := Nat.mod_lt _ (by decide); omega)
theorem div_pow_cast (k a : Nat) : ((k : Int) / 2 ^ a) = ((k / 2 ^ a : Nat) : Int) := by
  rw [Int.natCast_ediv]; congr 1
set_option maxHeartbeats 1000000 in
theorem lowText_any (k n : Nat) (w : World) (hn : n ≤ 14) (hk : k ≤ 100000) :
    Calls Tryz.prog 49 #[.int .i64 (k : Int), .int .i64 (n : Int)] w fun e w' => e = .returned (.string (bs (lowT n k))) ∧ Below w.heap.size w w' := by
  obtain ⟨i0, hi, hz0, hz1, hz2⟩ := info_parts info_byte
  go_enter Tryz.func49, Tryz.ntmps49
  go_wp2_with (refine wpList_make_full _ rfl _ _ 22 rfl w.heap.size 5 i0 (.int .u8 0) 1 Tryz.underlying22 hi hz0 hz1 .i64 .i64 (n : Int) (n : Int) n rfl rfl rfl rfl (by rw [hz2]; omega) (by unfold maxLen; omega) (Nat.le_refl _) ?_; intro w1 hown hgr; have HO := Lib.hid hown; have HB := Lib.hid ((Below.refl w.heap.size w).grown hgr (Nat.le_refl _) (fun k h => by cases h)); clear hown hgr)
  go_loopw [10] (fun iv wr => ∃ a : Nat, iv = .int .i64 a ∧ a ≤ n ∧ Hid (wr.ownsRow w.heap.size 5 1 (.slice (some ⟨w.heap.size, 0, none⟩) n n) n (fillT n k a) ∧ Below w.heap.size w wr)) (fun iv _ => n - (intOf iv).toNat)
  case atStart =>
    refine ⟨0, rfl, Nat.zero_le _, ?_, HB.out⟩
    have e : (madeCells (Value.int .u8 0).cells (n * 1)).toList = fillT n k 0 := by
      rw [Nat.mul_one, fillT_zero]; exact toList_madeCells_one _ _
    exact e ▸ HO.out
  case round =>
    obtain ⟨a, rfl, ha, HX⟩ := hrel
    by_cases hlt : a < n
    · have hst := fillT_set n k a hlt
      obtain ⟨b, hb⟩ : ∃ b, b = k / 2 ^ a % 2 := ⟨_, rfl⟩
      rw [← hb] at hst
      have hb2 : b < 2 := by rw [hb]; exact Nat.mod_lt _ (by decide)
      obtain ⟨m, hm⟩ : ∃ m, m = n - 1 - a := ⟨_, rfl⟩
      have hmi : (n : Int) - 1 - (a : Int) = (m : Int) := by omega
      have hmn : m < n := by omega
      rw [← hm] at hst
      have hd1 := HX.out.1.cellAt m (by simp [fillT_len n k a ha]; exact hmn)
      have hd2 := HX.out.1.frozenAt m
      obtain ⟨y, hy⟩ : ∃ y, y = (fillT n k a)[m]'(by rw [fillT_len n k a ha]; exact hmn) := ⟨_, rfl⟩
      rw [List.getElem?_eq_getElem (by rw [fillT_len n k a ha]; exact hmn), ← hy] at hd1
      have hq : k / 2 ^ a ≤ 100000 := Nat.le_trans (Nat.div_le_self _ _) hk
      have hbit : bits BinOp.and IntKind.i64 ((k : Int) / 2 ^ a) 1 = (b : Int) := by rw [div_pow_cast, and_one _ hq, hb]
      have HST := Lib.hid hst; have HBB := Lib.hid hb
      clear hst hb hm hy
      go_wp2_with (go_at_call 63; refine (signOf_is _ _ (by omega) (by omega)).mono ?_; rintro e w' ⟨rfl, rfl⟩)
      go_roundw
      case rel =>
        refine ⟨a + 1, by go_num, by omega, ?_, HX.out.2.setCell (p := ⟨w.heap.size, m, none⟩) (Nat.le_refl _) _⟩
        have := (HX.out.1.stored m (.int .u8 (48 + (1 + (b : Int))))).1
        have e : (48 + (1 + (b : Int))) = 49 + (b : Int) := by omega
        rw [e, HST.out] at this
        rw [e]; exact this
      case measure => simp [intOf] <;> omega
    · obtain rfl : a = n := by omega
      have hrow := HX.out.1
      rw [fillT_all] at hrow
      have hconv := conv_own (l := lowT a k) (v := .slice (some ⟨w.heap.size, 0, none⟩) a a) (by rw [lowT_len]; exact hrow)
      clear hrow
      go_wp2_with fail
      go_ret
      exact ⟨rfl, HX.out.2⟩
end Go.Proofs.YtkjmocdhhndlgaaGreatDoor
