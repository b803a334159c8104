/- Chapter 9: a sign laid into a text; gaps filled and opened (the program). -/
import Derived.Test.YtplcdofpikdigaaDoorq2
import Derived.Deep.RegionWith
import Derived.Deep.RegionHeld3
namespace Go.Proofs.YtplcdofpikdigaaDoor
open Go.RowKit Go.BigFrame Go.Deep
set_option linter.unusedSimpArgs false
set_option linter.unusedVariables false
set_option maxRecDepth 4000

theorem addrQ_ne {g i j : Nat} (h : i ≠ j) : (⟨g, i, none⟩ : Addr) ≠ ⟨g, j, none⟩ := fun e => h (by cases e; rfl)
/-- A block whose first cells are bytes that may be written. -/
structure BytQ (w : World) (g : Nat) (l : List UInt8) : Prop where
  cell : ∀ i (h : i < l.length), w.cell? ⟨g, i, none⟩ = some (.int .u8 (l[i].toNat : Int))
  free : ∀ i, i < l.length → w.frozen? ⟨g, i, none⟩ = false
theorem bytQ_set {w : World} {g : Nat} {l : List UInt8} (h : BytQ w g l) (k : Nat) (c : UInt8) : BytQ (w.setCell ⟨g, k, none⟩ (.int .u8 (c.toNat : Int))) g (l.set k c) := by
  refine ⟨fun i hi => ?_, fun i hi => ?_⟩
  · have hi' : i < l.length := by simpa using hi
    by_cases e : i = k
    · subst e
      rw [World.cell?_setCell_same _ _ _ (h.cell i hi'), List.getElem_set_self]
    · rw [World.cell?_setCell_other _ _ _ _ (addrQ_ne (fun e' => e e'.symm)), h.cell i hi', List.getElem_set_ne (fun e' => e e'.symm)]
  · rw [List.length_set] at hi
    rw [World.frozen?_setCell]; exact h.free i hi
theorem BytQ.below {w w' : World} {g : Nat} {l : List UInt8} (h : BytQ w g l) (hg : g < w.heap.size) (hb : Below w.heap.size w w') : BytQ w' g l :=
  ⟨fun i hi => (hb.cell (p := ⟨g, i, none⟩) hg).trans (h.cell i hi), fun i hi => (hb.frozen (p := ⟨g, i, none⟩) hg).trans (h.free i hi)⟩
theorem conv_bytQ {w : World} {g cap : Nat} {l : List UInt8} (h : BytQ w g l) : (convert 52 9 (.slice (some ⟨g, 0, none⟩) l.length cap)).run Tryd.prog w = .ok (.string (bs l)) w := by
  have := run_convert_bytes_arg (P := Tryd.prog) w 52 5 Tryd.underlying52 Tryd.underlying5 g 0 l.length cap (l.map (fun c => (c.toNat : Int))) (by simp) (fun i hi => by
      rw [Nat.zero_add, h.cell i hi]
      simp [List.getD, hi]) 9 Tryd.underlying9
  rw [this]
  congr 2
  apply bs_eq
  rw [strOfNums_data, List.map_map]
  conv => rhs; rw [← List.map_id l]
  apply List.map_congr_left
  intro c _
  simp

theorem getQ (l : List UInt8) (k : Nat) (h : k < (bs l).size) (h' : k < l.length) : (bs l)[k]'h = l[k]'h' := by simp [bs, ByteArray.getElem_eq_getElem_data]
/-- May a sign be laid so? -/
def layB (l : List UInt8) (at' : Int) (c : UInt8) : Bool := decide ((0 : Int) ≤ at' ∧ at' ≤ (l.length : Int) - 1) && (decide ((l.getD at'.toNat 0).toNat = 46) != decide (c.toNat = 46))
set_option maxHeartbeats 1000000 in
theorem laySign_any (l : List UInt8) (at' : Int) (c : UInt8) (w : World) (hs : l.length ≤ maxLen) :
    Calls Tryd.prog 66 #[.string (bs l), .int .i64 at', .int .u8 (c.toNat : Int)] w fun e w' => e = .returned (.tuple #[.string (if layB l at' c = true then bs (l.set at'.toNat c) else ⟨#[]⟩), .bool (layB l at' c)]) ∧ Below w.heap.size w w' := by
  obtain ⟨G, hG⟩ : ∃ G, G = layB l at' c := ⟨_, rfl⟩
  rw [← hG]
  unfold layB at hG
  obtain ⟨n, hn⟩ : ∃ n, n = l.length := ⟨_, rfl⟩
  have hsz : (bs l).size = n := by rw [bs_size, hn]
  by_cases h1 : (0 : Int) ≤ at' ∧ at' ≤ (l.length : Int) - 1
  · obtain ⟨k, rfl⟩ := Int.eq_ofNat_of_zero_le h1.1
    have hk : k < l.length := by omega
    rw [decide_eq_true h1, Bool.true_and, Int.toNat_natCast] at hG
    obtain ⟨t, ht⟩ : ∃ t, t = bs l := ⟨_, rfl⟩
    have hk' : k < t.size := by rw [ht, bs_size]; exact hk
    have hgt : ∀ i (h : i < t.size) (h' : i < l.length), t[i] = l[i] := by
      subst ht; intro i h h'; exact getQ l i h h'
    have hgd : l.getD k 0 = t[k] := by rw [hgt k hk' hk]; simp [List.getD, hk]
    rw [hgd] at hG
    rw [Int.toNat_natCast]
    rw [← ht] at hsz ⊢
    obtain ⟨gx, hgx⟩ : ∃ gx, gx = decide (t[k].toNat = 46) := ⟨_, rfl⟩
    obtain ⟨gc, hgc⟩ : ∃ gc, gc = decide (c.toNat = 46) := ⟨_, rfl⟩
    have hx2 : ((t[k].toNat : Int) == 46) = gx := by
      rw [hgx, Bool.eq_iff_iff]; simp; omega
    have hc2 : ((c.toNat : Int) == 46) = gc := by
      rw [hgc, Bool.eq_iff_iff]; simp; omega
    rw [← hgx, ← hgc] at hG
    have hcn : (c.toNat : Int) ≤ 255 := by have := c.toNat_lt; omega
    have hkn : k < n := by omega
    have hnn : (n : Int) ≤ 9223372036854775807 := by unfold maxLen at hs; omega
    have HIW := Lib.hid (fun (W : World) => isWithin_is true (k : Int) 0 ((n : Int) - 1) W (by simp; omega))
    have HBQ := Lib.hid (fun (w1 : World) (hcell : ∀ i (h : i < t.size), w1.cell? ⟨w.heap.size, i, none⟩ = some (.int .u8 (t[i].toNat : Int))) (cap : Nat) (hcp : n ≤ cap) (hfr : ∀ i, i < cap → w1.frozen? ⟨w.heap.size, i, none⟩ = false) =>
      (⟨fun i hi => by rw [hcell i (by rw [hsz, hn]; exact hi), hgt i _ hi], fun i hi => hfr i (by omega)⟩ : BytQ w1 w.heap.size l))
    have HCV := Lib.hid (fun (w1 : World) (cap : Nat) (h : BytQ w1 w.heap.size l) => (by
      have h2 := conv_bytQ (cap := cap) (bytQ_set h k c)
      rw [List.length_set, ← hn] at h2
      exact h2 : (convert 52 9 (.slice (some ⟨w.heap.size, 0, none⟩) n cap)).run Tryd.prog (w1.setCell ⟨w.heap.size, k, none⟩ (.int .u8 (c.toNat : Int))) = .ok (.string (bs (l.set k c))) (w1.setCell ⟨w.heap.size, k, none⟩ (.int .u8 (c.toNat : Int)))))
    have hnm : t.size ≤ maxLen := by rw [hsz, hn]; exact hs
    have HFR := Lib.hid (fun (w1 : World) (h : BytQ w1 w.heap.size l) => And.intro (h.cell k hk) (h.free k hk))
    generalize bs (l.set k c) = R at *
    clear hgx hgc hgd hgt h1 hn hs ht
    revert hG hx2 hc2
    cases gx <;> cases gc <;> intro hG hx2 hc2
    case false.false =>
      obtain rfl : G = false := hG
      go_enter Tryd.func66, Tryd.ntmps66
      go_wp2_with fail
      refine (HIW.out _).mono ?_
      rintro e w1 ⟨rfl, rfl⟩
      go_wp2_with fail
      go_ret2
      exact ⟨rfl, below_refl _⟩
    case true.true =>
      obtain rfl : G = false := hG
      go_enter Tryd.func66, Tryd.ntmps66
      go_wp2_with fail
      refine (HIW.out _).mono ?_
      rintro e w1 ⟨rfl, rfl⟩
      go_wp2_with fail
      go_ret2
      exact ⟨rfl, below_refl _⟩
    all_goals
      obtain rfl : G = true := hG
      go_enter Tryd.func66, Tryd.ntmps66
      go_wp2_with fail
      refine (HIW.out _).mono ?_
      rintro e w1 ⟨rfl, rfl⟩
      go_wp2_with (refine wpList_bytes _ rfl 9 52 _ rfl 5 Tryd.underlying9 Tryd.underlying52 Tryd.underlying5 t rfl hnm ?_; intro w2 cap hb2 hsz2 hcap hcm hcell hfr; rw [hsz] at hcap; have hq := HBQ.out w2 hcell cap hcap hfr; obtain ⟨hc1, hf1⟩ := HFR.out w2 hq; have hcv := HCV.out w2 cap hq; have HB2 := Lib.hid hb2; have hkc : k < cap := (by omega); clear hq hcell hfr hb2)
      go_wp2_with fail
      go_ret2
      exact ⟨rfl, HB2.out.setCell (Nat.le_refl _) _⟩
  · obtain rfl : G = false := by rw [hG, decide_eq_false h1]; rfl
    have HIW := Lib.hid (fun (W : World) => isWithin_is false at' 0 ((n : Int) - 1) W (by simp; omega))
    generalize bs (l.set at'.toNat c) = R at *
    generalize hb : bs l = t at *
    have hnn : (n : Int) ≤ 9223372036854775807 := by unfold maxLen at hs; omega
    clear hG h1 hn hs hb
    go_enter Tryd.func66, Tryd.ntmps66
    go_wp2_with fail
    refine (HIW.out _).mono ?_
    rintro e w1 ⟨rfl, rfl⟩
    go_wp2_with fail
    go_ret2
    exact ⟨rfl, below_refl _⟩
end Go.Proofs.YtplcdofpikdigaaDoor
