/- Words backwards: the program's BackWord over slices.Reverse; the model's. -/
import Derived.Test.YtkjmocdhhndlgaaGreatDoorMA
import Derived.RegionTactic
namespace Go.Proofs.YtkjmocdhhndlgaaGreatDoor
open Go.RowKit Go.BigFrame
set_option linter.unusedSimpArgs false
set_option linter.unusedVariables false
set_option maxRecDepth 4000

theorem addr_ne {g i j : Nat} (h : i ≠ j) : (⟨g, i, none⟩ : Addr) ≠ ⟨g, j, none⟩ := fun e => h (by cases e; rfl)
/-- A block whose first cells are bytes that may be written. -/
structure BytesAt (w : World) (g : Nat) (l : List UInt8) : Prop where
  cell : ∀ i (h : i < l.length), w.cell? ⟨g, i, none⟩ = some (.int .u8 (l[i].toNat : Int))
  free : ∀ i, i < l.length → w.frozen? ⟨g, i, none⟩ = false
/-- The bytes behind k exchanges of the first with the last ones. -/
def turned (l : List UInt8) (k p : Nat) : UInt8 := if p < k ∨ l.length - k ≤ p then l.getD (l.length - 1 - p) 0 else l.getD p 0

set_option maxHeartbeats 2000000 in
theorem reverse_any (w : World) (g cap : Nat) (l : List UInt8) (hl : l.length ≤ 400) (hcap : l.length ≤ cap) (hcm : cap ≤ maxLen) (hb : BytesAt w g l) :
    Calls Tryz.prog 47 #[.slice (some ⟨g, 0, none⟩) l.length cap] w fun e w' => e = .returned (.tuple #[]) ∧ BytesAt w' g l.reverse ∧ w.grownBy w' (some g) := by
  unfold maxLen at hcm
  obtain ⟨n, hn⟩ : ∃ n, n = l.length := ⟨_, rfl⟩
  have HN := Lib.hid hn; have HB := Lib.hid hb
  rw [← hn] at hl hcap ⊢
  clear hn hb
  go_enter Tryz.func47, Tryz.ntmps47
  go_wp2_with fail
  go_loopw [2, 3] (fun i j wr => ∃ k : Nat, i = .int .i64 k ∧ j = .int .i64 ((n : Int) - 1 - (k : Int)) ∧ 2 * k ≤ n ∧ Hid ((∀ p, p < n → wr.cell? ⟨g, p, none⟩ = some (.int .u8 ((turned l k p).toNat : Int)) ∧ wr.frozen? ⟨g, p, none⟩ = false) ∧ w.grownBy wr (some g))) (fun i _ _ => n - (intOf i).toNat)
  case atStart =>
    refine ⟨0, rfl, by simp, by omega, fun p hp => ⟨?_, HB.out.free p (by rw [← HN.out]; exact hp)⟩, World.grownBy.refl _ _⟩
    have hp' : p < l.length := by rw [← HN.out]; exact hp
    rw [HB.out.cell p hp']
    have : turned l 0 p = l[p] := by
      unfold turned
      rw [if_neg (by omega)]
      simp [List.getD, hp']
    rw [this]
  case round =>
    obtain ⟨k, rfl, rfl, hk2, HX⟩ := hrel
    by_cases hlt : 2 * k + 1 < n
    · obtain ⟨m, hm⟩ : ∃ m, m + k + 1 = n := ⟨n - 1 - k, by omega⟩
      have hmi : (n : Int) - 1 - (k : Int) = (m : Int) := by omega
      rw [hmi]
      have hkm : k < m := by omega
      have hne : k ≠ m := by omega
      have hne' : m ≠ k := by omega
      have hmn : m < n := by omega
      obtain ⟨c1, f1⟩ := HX.out.1 k (by omega)
      obtain ⟨c2, f2⟩ := HX.out.1 m hmn
      obtain ⟨x, hx⟩ : ∃ x, x = turned l k k := ⟨_, rfl⟩
      obtain ⟨y, hy⟩ : ∃ y, y = turned l k m := ⟨_, rfl⟩
      rw [← hx] at c1; rw [← hy] at c2
      have HX1 := Lib.hid hx; have HY1 := Lib.hid hy; clear hx hy
      have HM := Lib.hid hm
      clear hmi
      go_wp2_with fail
      go_region
      go_wp2_with fail
      go_roundw
      case rel =>
        refine ⟨k + 1, by go_num, by go_num, by omega, fun p hp => ⟨?_, ?_⟩, ?_⟩
        · show ((wr.setCell ⟨g, k, none⟩ (.int .u8 (y.toNat : Int))).setCell ⟨g, m, none⟩ (.int .u8 (x.toNat : Int))).cell? ⟨g, p, none⟩ = _
          have hnl := HN.out
          by_cases e1 : p = m
          · subst e1
            rw [World.cell?_setCell_same _ _ _ ((World.cell?_setCell_other _ _ _ _ (addr_ne (by omega))).trans (HX.out.1 p hp).1)]
            have : turned l (k + 1) p = x := by
              rw [HX1.out]; unfold turned
              rw [if_pos (by omega), if_neg (by omega), show l.length - 1 - p = k by omega]
            rw [this]
          · rw [World.cell?_setCell_other _ _ _ _ (addr_ne (by omega))]
            by_cases e2 : p = k
            · subst e2
              rw [World.cell?_setCell_same _ _ _ (HX.out.1 p hp).1]
              have : turned l (p + 1) p = y := by
                rw [HY1.out]; unfold turned
                rw [if_pos (by omega), if_neg (by omega), show l.length - 1 - p = m by omega]
              rw [this]
            · rw [World.cell?_setCell_other _ _ _ _ (addr_ne (by omega)), (HX.out.1 p hp).1]
              have : turned l (k + 1) p = turned l k p := by
                unfold turned
                by_cases h : p < k ∨ l.length - k ≤ p
                · rw [if_pos h, if_pos (by omega)]
                · rw [if_neg h, if_neg (by omega)]
              rw [this]
        · show ((wr.setCell ⟨g, k, none⟩ (.int .u8 (y.toNat : Int))).setCell ⟨g, m, none⟩ (.int .u8 (x.toNat : Int))).frozen? ⟨g, p, none⟩ = _
          rw [World.frozen?_setCell, World.frozen?_setCell]
          exact (HX.out.1 p hp).2
        · exact HX.out.2.trans ⟨rfl, rfl, rfl, by simp [World.setCell, World.drew], fun q hq hq2 => by
            show ((wr.setCell ⟨g, k, none⟩ (.int .u8 (y.toNat : Int))).setCell ⟨g, m, none⟩ (.int .u8 (x.toNat : Int))).heap[q]? = _
            rw [Below.heap_setCell _ _ _ _ (fun e => hq2 (congrArg some e)), Below.heap_setCell _ _ _ _ (fun e => hq2 (congrArg some e))]⟩
      case measure => simp [intOf] <;> omega
    · have hge : ¬ ((k : Int) < (n : Int) - 1 - (k : Int)) := by omega
      go_wp2_with fail
      go_end0
      refine ⟨rfl, ⟨fun i hi => ?_, fun i hi => ?_⟩, HX.out.2⟩
      · rw [List.length_reverse, ← HN.out] at hi
        rw [(HX.out.1 i hi).1]
        have : turned l k i = l.reverse[i]'(by rw [List.length_reverse, ← HN.out]; exact hi) := by
          have hi2 : i < l.length := by rw [← HN.out]; exact hi
          have hnl := HN.out
          rw [List.getElem_reverse]
          unfold turned
          by_cases h : i < k ∨ l.length - k ≤ i
          · rw [if_pos h]; simp [List.getD, show l.length - 1 - i < l.length by omega]
          · rw [if_neg h]
            have : l.length - 1 - i = i := by omega
            simp only [this]
            simp [List.getD, hi2]
        rw [this]
      · rw [List.length_reverse, ← HN.out] at hi
        exact (HX.out.1 i hi).2

def backO (l : List UInt8) : Option (List UInt8) := if goodL l = true then some l.reverse else none
theorem conv_bytes {w : World} {g cap : Nat} {l : List UInt8} (h : BytesAt w g l) : (convert 22 9 (.slice (some ⟨g, 0, none⟩) l.length cap)).run Tryz.prog w = .ok (.string (bs l)) w := by
  have := run_convert_bytes_arg (P := Tryz.prog) w 22 5 Tryz.underlying22 Tryz.underlying5 g 0 l.length cap (l.map (fun c => (c.toNat : Int))) (by simp) (fun i hi => by
      rw [Nat.zero_add, h.cell i hi]
      simp [List.getD, hi]) 9 Tryz.underlying9
  rw [this]
  congr 2
  apply bs_eq
  rw [strOfNums_data, List.map_map]
  conv => rhs; rw [← List.map_id l]
  apply List.map_congr_left
  intro c _
  simp
theorem implBackWord_any (s : ByteArray) (w : World) (hs : s.size ≤ maxLen) :
    Calls Tryz.prog 18 #[.string s] w fun e w' => e = .returned (strOk (backO s.data.toList)) ∧ Below w.heap.size w w' := by
  cases hg : goodL s.data.toList with
  | false =>
    have HG := Lib.hid hg; clear hg
    go_enter Tryz.func18, Tryz.ntmps18
    go_wp2_with fail
    refine (implIsWord_any s w hs).mono ?_
    rintro e w1 ⟨rfl, rfl⟩
    rw [HG.out]
    go_wp2_with fail
    go_ret2
    exact ⟨by unfold backO; rw [if_neg (by rw [HG.out]; simp)]; rfl, Below.refl _ _⟩
  | true =>
    obtain ⟨h1, h2, h3⟩ := goodL_parts hg
    have HG := Lib.hid hg; clear hg
    go_enter Tryz.func18, Tryz.ntmps18
    go_wp2_with fail
    refine (implIsWord_any s w hs).mono ?_
    rintro e w1 ⟨rfl, rfl⟩
    rw [HG.out]
    go_wp2_with (refine wpList_bytes _ rfl 9 22 _ rfl 5 Tryz.underlying9 Tryz.underlying22 Tryz.underlying5 s rfl hs ?_; intro w2 cap hb hsz hcap hcm hcell hfr)
    have hz : s.size = s.data.toList.length := by simp
    have hba : BytesAt w2 w.heap.size s.data.toList := ⟨fun i h => hcell i (by rw [hz]; exact h), fun i h => hfr i (by rw [← hz] at h; omega)⟩
    have hrev := reverse_any w2 w.heap.size cap s.data.toList (by rw [← hz]; exact h2) (by rw [← hz]; exact hcap) hcm hba
    rw [← hz] at hrev
    have HR := Lib.hid hrev; have HB := Lib.hid hb
    have HZ := Lib.hid hz
    clear hrev hb hba hcell hfr hz
    go_wp2_with fail
    refine HR.out.mono ?_
    rintro e w3 ⟨rfl, hb3, hg3⟩
    have hconv := conv_bytes (cap := cap) hb3
    rw [List.length_reverse, ← HZ.out] at hconv
    have HG3 := Lib.hid hg3
    clear hb3 hg3
    go_wp2_with fail
    go_ret2
    exact ⟨by unfold backO; rw [if_pos HG.out]; rfl, HB.out.trans ((Below.refl _ _).grown HG3.out (Nat.le_of_lt hsz) (fun k h => by cases h; exact Nat.le_refl _))⟩
end Go.Proofs.YtkjmocdhhndlgaaGreatDoor
