/- Chapter 9: gaps at places that a seed leads to (pure; the program's withGaps). -/
import Derived.Test.Ytplcdofpikdigaaq8
import Derived.Laws.RangeAny
import Derived.RangeFuncRecord
namespace Go.Proofs.Ytplcdofpikdigaa
open Go.RowKit Go.BigFrame Go.Deep
set_option linter.unusedSimpArgs false
set_option linter.unusedVariables false
set_option maxRecDepth 4000

/-- The next number behind a seed. -/
def nxZ (z : Nat) : Nat := (171 * z + 3203) % 10009
def itZ (z : Nat) : Nat → Nat
  | 0 => z
  | k + 1 => itZ (nxZ z) k
theorem itZ_succ (z : Nat) : ∀ k, itZ z (k + 1) = nxZ (itZ z k) := by
  intro k
  induction k generalizing z with
  | zero => simp only [itZ]
  | succ k ih => simp only [itZ] at ih ⊢; exact ih (nxZ z)
theorem nxZ_le (z : Nat) : nxZ z ≤ 10008 := by unfold nxZ; omega
theorem itZ_le (z : Nat) (h : z ≤ 10008) (k : Nat) : itZ z k ≤ 10008 := by
  cases k with
  | zero => exact h
  | succ k => rw [itZ_succ]; exact nxZ_le _
/-- Is a gap made with this number? -/
def gpZ (z : Nat) : Bool := z % 3 != 0
/-- The first k places gone through. -/
def gapT (z : Nat) : List UInt8 → Nat → List UInt8
  | [], _ => []
  | c :: r, 0 => c :: r
  | c :: r, k + 1 => (if gpZ (nxZ z) = true then 46 else c) :: gapT (nxZ z) r k
theorem gapT_zero (z : Nat) (l : List UInt8) : gapT z l 0 = l := by cases l <;> rfl
theorem gapT_len (z : Nat) (l : List UInt8) (k : Nat) : (gapT z l k).length = l.length := by
  induction l generalizing z k with
  | nil => simp only [gapT]
  | cons c r ih => cases k with
    | zero => simp only [gapT]
    | succ k => simp only [gapT, List.length_cons, ih]
theorem gapT_succ (l : List UInt8) (z k : Nat) (h : k < l.length) : gapT z l (k + 1) = if gpZ (itZ z (k + 1)) = true then (gapT z l k).set k 46 else gapT z l k := by
  induction l generalizing z k with
  | nil => simp at h
  | cons c r ih =>
    cases k with
    | zero =>
      have e1 : itZ z (0 + 1) = nxZ z := by simp only [itZ]
      rw [e1]
      simp only [gapT, gapT_zero]
      by_cases v : gpZ (nxZ z) = true
      · rw [if_pos v, if_pos v]; rfl
      · rw [if_neg v, if_neg v]
    | succ k =>
      have h2 := ih (nxZ z) k (by simpa using h)
      have e1 : itZ z (k + 1 + 1) = itZ (nxZ z) (k + 1) := by simp only [itZ]
      simp only [gapT]
      rw [h2, e1]
      generalize gpZ (itZ (nxZ z) (k + 1)) = v
      generalize gapT (nxZ z) r k = q
      cases v <;> simp

/-- Nothing that lay is changed but one block. -/
structure ButP (p : Nat) (w w' : World) : Prop where
  os : w'.os = w.os
  tape : w'.tape = w.tape
  output : w'.output = w.output
  size : w.heap.size ≤ w'.heap.size
  block : ∀ k, k < w.heap.size → k ≠ p → w'.heap[k]? = w.heap[k]?
theorem butP_refl (p : Nat) (w : World) : ButP p w w := ⟨rfl, rfl, rfl, Nat.le_refl _, fun _ _ _ => rfl⟩
theorem butP_t {p : Nat} {a b c : World} (h : ButP p a b) (k : ButP p b c) : ButP p a c := ⟨k.os.trans h.os, k.tape.trans h.tape, k.output.trans h.output, Nat.le_trans h.size k.size, fun q hq hp => (k.block q (Nat.lt_of_lt_of_le hq h.size) hp).trans (h.block q hq hp)⟩
theorem butP_below {p : Nat} {w w' : World} (h : Below w.heap.size w w') : ButP p w w' := ⟨h.os, h.tape, h.output, h.size, fun k hk _ => h.block k hk⟩
theorem butP_to {p B : Nat} {w w' : World} (h : ButP p w w') (hB : B ≤ p) (hw : B ≤ w.heap.size) : Below B w w' := ⟨h.os, h.tape, h.output, h.size, fun k hk => h.block k (by omega) (by omega)⟩
theorem butP_set (w : World) (p : Nat) (v : Value) : ButP p w (w.setCell ⟨p, 0, none⟩ v) := ⟨rfl, rfl, rfl, by simp [World.setCell], fun k _ hk => Below.heap_setCell _ _ _ _ hk⟩
/-- A variable that holds a number. -/
def NumAt (w : World) (p : Nat) (z : Nat) : Prop := w.heap[p]? = some (.cells #[.int .i64 (z : Int)] 3 (0, 0))
theorem NumAt.cell {w : World} {p z : Nat} (h : NumAt w p z) : w.cell? ⟨p, 0, none⟩ = some (.int .i64 (z : Int)) := by rw [cell_of_row w p 0 _ _ _ h]; rfl
theorem NumAt.frozen {w : World} {p z : Nat} (h : NumAt w p z) : w.frozen? ⟨p, 0, none⟩ = false := frozen_of_row w p 0 _ _ h
theorem NumAt.lt {w : World} {p z : Nat} (h : NumAt w p z) : p < w.heap.size := (Array.getElem?_eq_some_iff.1 h).1
theorem NumAt.below {w w' : World} {p z : Nat} (h : NumAt w p z) (hb : Below w.heap.size w w') : NumAt w' p z := (hb.block p h.lt).trans h
theorem NumAt.set {w : World} {p z : Nat} (h : NumAt w p z) (y : Nat) : NumAt (w.setCell ⟨p, 0, none⟩ (.int .i64 (y : Int))) p y := by
  unfold NumAt at *
  rw [heap_setCell_same w p 0 _ _ _ h]; rfl
theorem NumAt.other {w : World} {p z : Nat} (h : NumAt w p z) {a : Addr} (v : Value) (ha : p ≠ a.block) : NumAt (w.setCell a v) p z := (Below.heap_setCell _ _ _ _ ha).trans h

theorem openNext_any (z p : Nat) (w : World) (hz : z ≤ 10008) (hN : NumAt w p z) :
    Calls Try.prog 48 #[.pointer (some ⟨p, 0, none⟩)] w fun e w' => e = .returned (.bool (gpZ (nxZ z))) ∧ w' = w.setCell ⟨p, 0, none⟩ (.int .i64 (nxZ z : Int)) := by
  obtain ⟨y, hy⟩ : ∃ y, y = nxZ z := ⟨_, rfl⟩
  rw [← hy]
  unfold nxZ at hy
  have h1 : ((z : Int) * 171 + 3203).tmod 10009 = (y : Int) := by rw [Int.tmod_eq_emod_of_nonneg (by omega)]; omega
  have hy2 : y ≤ 10008 := by omega
  obtain ⟨r, hr⟩ : ∃ r, r = y % 3 := ⟨_, rfl⟩
  have h2 : (y : Int).tmod 3 = (r : Int) := by rw [Int.tmod_eq_emod_of_nonneg (by omega)]; omega
  obtain ⟨G, hG⟩ : ∃ G, G = gpZ y := ⟨_, rfl⟩
  have h3 : ((r : Int) != 0) = G := by
    rw [hG, Bool.eq_iff_iff]; unfold gpZ; rw [← hr]; simp
  rw [← hG]
  have hc := hN.cell; have hf := hN.frozen
  clear hy hr hG hN
  go_enter Try.func48, Try.ntmps48
  go_wp2_with fail
  go_ret
  exact ⟨rfl, rfl⟩
set_option maxHeartbeats 2000000 in
theorem withGaps_any (l : List UInt8) (z p : Nat) (w : World) (hl : l.length ≤ 1048576) (hz : z ≤ 10008) (hN : NumAt w p z) :
    Calls Try.prog 49 #[.string (bs l), .func (.func 48) #[] #[.pointer (some ⟨p, 0, none⟩)]] w fun e w' =>
      e = .returned (.string (bs (gapT z l l.length))) ∧ NumAt w' p (itZ z l.length) ∧ ButP p w w' := by
  obtain ⟨n, hn⟩ : ∃ n, n = l.length := ⟨_, rfl⟩
  obtain ⟨t, ht⟩ : ∃ t, t = bs l := ⟨_, rfl⟩
  have hsz : t.size = n := by rw [ht, bs_size, hn]
  have hnm : t.size ≤ maxLen := by rw [hsz]; unfold maxLen; omega
  have hgt : ∀ i (h : i < t.size) (h' : i < l.length), t[i] = l[i] := by
    subst ht; intro i h h'; exact getQ l i h h'
  have HBQ := Lib.hid (fun (w1 : World) (hcell : ∀ i (h : i < t.size), w1.cell? ⟨w.heap.size, i, none⟩ = some (.int .u8 (t[i].toNat : Int))) (cap : Nat) (hcp : n ≤ cap) (hfr : ∀ i, i < cap → w1.frozen? ⟨w.heap.size, i, none⟩ = false) =>
      (⟨fun i hi => by rw [hcell i (by rw [hsz, hn]; exact hi), hgt i _ hi], fun i hi => hfr i (by omega)⟩ : BytQ w1 w.heap.size l))
  rw [← ht, ← hn]
  rw [← hn] at hl
  have HN := Lib.hid hN; have HNN := Lib.hid hn
  have hpl := hN.lt
  have HS := Lib.hid (fun (k : Nat) (h : k < n) => gapT_succ l z k (by rw [← hn]; exact h))
  have HL := Lib.hid (fun (k : Nat) => (gapT_len z l k).trans hn.symm)
  have HZ := Lib.hid (gapT_zero z l)
  have HI := Lib.hid (fun k => itZ_succ z k)
  have HIL := Lib.hid (fun k => itZ_le z hz k)
  clear hN hn ht hgt
  go_enter Try.func49, Try.ntmps49
  go_wp2_with (refine wpList_bytes _ rfl 9 63 _ rfl 5 Try.underlying9 Try.underlying63 Try.underlying5 t rfl hnm ?_; intro w2 cap hb2 hsz2 hcap hcm hcell hfr; rw [hsz] at hcap; have HQ := Lib.hid (HBQ.out w2 hcell cap hcap hfr); have HB2 := Lib.hid hb2; have HSZ2 := Lib.hid hsz2; clear hcell hfr hb2 hsz2)
  unfold maxLen at hcm
  go_wp2_with fail
  go_loopw [11] (fun iv wr => ∃ k : Nat, k ≤ n ∧ iv = .int .i64 (k : Int) ∧ Hid (BytQ wr w.heap.size (gapT z l k) ∧ NumAt wr p (itZ z k) ∧ ButP p w wr ∧ w.heap.size < wr.heap.size)) (fun iv _ => n - (intOf iv).toNat)
  case atStart => exact ⟨0, Nat.zero_le _, rfl, by rw [HZ.out]; exact HQ.out, HN.out.below HB2.out, butP_below HB2.out, HSZ2.out⟩
  case round =>
    obtain ⟨k, hk, rfl, HX⟩ := hrel
    by_cases hlt : k < n
    · have hO := openNext_any (itZ z k) p wr (HIL.out k) HX.out.2.1
      rw [← HI.out k] at hO
      have hst := HS.out k hlt
      obtain ⟨G, hG⟩ : ∃ G, G = gpZ (itZ z (k + 1)) := ⟨_, rfl⟩
      rw [← hG] at hO hst
      have hlen := HL.out k
      obtain ⟨w3, hw3⟩ : ∃ w3, w3 = wr.setCell ⟨p, 0, none⟩ (.int .i64 (itZ z (k + 1) : Int)) := ⟨_, rfl⟩
      rw [← hw3] at hO
      have hne : w.heap.size ≠ p := by omega
      have hq3 : BytQ w3 w.heap.size (gapT z l k) := by
        rw [hw3]
        exact ⟨fun i hi => (World.cell?_setCell_other _ _ _ _ (fun e => hne (by cases e; rfl))).trans (HX.out.1.cell i hi), fun i hi => by rw [World.frozen?_setCell]; exact HX.out.1.free i hi⟩
      have hn3 : NumAt w3 p (itZ z (k + 1)) := by rw [hw3]; exact HX.out.2.1.set _
      have hb3 : ButP p w w3 := by rw [hw3]; exact butP_t HX.out.2.2.1 (butP_set _ _ _)
      have hs3 : w.heap.size < w3.heap.size := by rw [hw3]; simpa [World.setCell] using HX.out.2.2.2
      have HO := Lib.hid hO; have HQ3 := Lib.hid hq3; have HN3 := Lib.hid hn3; have HB3 := Lib.hid hb3; have HS3 := Lib.hid hs3; have HST := Lib.hid hst
      have hkl : k < (gapT z l k).length := by rw [hlen]; exact hlt
      have hkc : k < cap := by omega
      have cc := hq3.cell k hkl
      have ff := hq3.free k hkl
      obtain ⟨x, hx⟩ : ∃ x, x = ((gapT z l k)[k].toNat : Int) := ⟨_, rfl⟩
      rw [← hx] at cc
      clear hO hst hG hlen hw3 hq3 hn3 hb3 hs3 hx hkl
      cases G with
      | true =>
        go_wp2_with fail
        refine HO.out.mono ?_
        rintro e w4 ⟨rfl, rfl⟩
        go_wp2_with fail
        go_roundw
        case rel =>
          refine ⟨k + 1, by omega, by go_num, ?_, ?_, ?_, ?_⟩
          · have := bytQ_set HQ3.out k 46
            rw [HST.out]; exact this
          · exact HN3.out.other _ (fun e => hne e.symm)
          · exact ⟨HB3.out.os, HB3.out.tape, HB3.out.output, by simpa [World.setCell] using HB3.out.size, fun j hj hjp => (Below.heap_setCell _ _ _ _ (by show j ≠ w.heap.size; omega)).trans (HB3.out.block j hj hjp)⟩
          · simpa [World.setCell] using HS3.out
        case measure => simp [intOf] <;> omega
      | false =>
        go_wp2_with fail
        refine HO.out.mono ?_
        rintro e w4 ⟨rfl, rfl⟩
        go_wp2_with fail
        go_roundw
        case rel =>
          refine ⟨k + 1, by omega, by go_num, ?_, HN3.out, HB3.out, HS3.out⟩
          rw [HST.out]; exact HQ3.out
        case measure => simp [intOf] <;> omega
    · obtain rfl : k = n := by omega
      have hcv := conv_bytQ (cap := cap) HX.out.1
      rw [HL.out k] at hcv
      go_wp2_with fail
      go_ret
      exact ⟨rfl, HX.out.2.1, HX.out.2.2.1⟩
end Go.Proofs.Ytplcdofpikdigaa
