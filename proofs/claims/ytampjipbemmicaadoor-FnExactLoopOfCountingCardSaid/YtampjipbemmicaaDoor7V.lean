/- Chapter 7: marks laid into the names of a language, with all that they leave; rows of numbers kept. -/
import Derived.Test.YtampjipbemmicaaDoor7H
import Derived.Test.YtampjipbemmicaaDoor7Q
namespace Go.Proofs.YtampjipbemmicaaDoor
open Go.RowKit Go.BigFrame
set_option linter.unusedSimpArgs false
set_option linter.unusedVariables false
set_option maxRecDepth 4000

theorem intsA_farN {w w' : World} {B : Nat} {u : Value} {xs : List Int} (h : IntsA w B u xs) (hk : ∀ k, u.ownBlock = some k → w'.heap[k]? = w.heap[k]?) : IntsA w' B u xs := by
  rcases h with h | ⟨g, cap, E, rest, rfl, h2, h3, h4⟩
  · exact .inl h
  · exact .inr ⟨g, cap, E, rest, rfl, h2, (hk g rfl).trans h3, h4⟩
theorem intsA_ltN {w : World} {B : Nat} {u : Value} {xs : List Int} (h : IntsA w B u xs) : ∀ k, u.ownBlock = some k → B ≤ k ∧ k < w.heap.size := by
  rcases h with ⟨rfl, _⟩ | ⟨g, cap, E, rest, rfl, h2, h3, h4⟩
  · intro k e; cases e
  · intro k e
    have e' : g = k := by simpa [Value.ownBlock] using e
    subst e'
    exact ⟨h2, (Array.getElem?_eq_some_iff.1 h3).1⟩
theorem TwoAt.belowB {w w' : World} {B g : Nat} {a b : Value} {T : TypeId} (h : TwoAt w g a b T) (hb : Below B w w') (hg : g < B) : TwoAt w' g a b T := (hb.block g hg).trans h
/-- All blocks but those of a value lie as they lay. -/
def FarK (v : Value) (w w' : World) : Prop := ∀ j, v.ownBlock ≠ some j → j < w.heap.size → w'.heap[j]? = w.heap[j]?
/-- A row whose block lies in a stretch of memory. -/
def Within (v : Value) (lo hi : Nat) : Prop := ∀ k, v.ownBlock = some k → lo ≤ k ∧ k < hi
theorem Within.far {v u : Value} {lo hi lo2 hi2 : Nat} {w w' : World} (hv : Within v lo hi) (hu : Within u lo2 hi2) (hd : hi ≤ lo2 ∨ hi2 ≤ lo) (hl : hi2 ≤ w.heap.size) (hk : FarK v w w') : ∀ k, u.ownBlock = some k → w'.heap[k]? = w.heap[k]? := by
  intro k e
  obtain ⟨a, b⟩ := hu k e
  refine hk k (fun e2 => ?_) (by omega)
  obtain ⟨c, d⟩ := hv k e2
  omega
theorem within_slice (g n c lo hi : Nat) (h1 : lo ≤ g) (h2 : g < hi) : Within (.slice (some ⟨g, 0, none⟩) n c) lo hi := by
  intro k e
  have e' : g = k := by simpa [Value.ownBlock] using e
  omega

set_option maxHeartbeats 1000000 in
theorem markStringK_any (w : World) (B k0 : Nat) (v : Value) (xs : List (List UInt8)) (ha : Strs w B v xs) (hB : B ≤ w.heap.size) (hk0 : k0 + xs.length ≤ 3000000000) :
    Calls Tryd.prog 61 #[v, .int .i64 k0] w fun e w' => e = .returned (.int .i64 ((k0 + xs.length : Nat) : Int)) ∧ Strs w' B v (markTS k0 xs.length) ∧ Below B w w' ∧ ∀ j, v.ownBlock ≠ some j → j < w.heap.size → w'.heap[j]? = w.heap[j]? := by
  rcases strs_open ha with ⟨rfl, rfl⟩ | ⟨g, cap, rfl, hBg, hg, hn, hcp, hca, hfr⟩
  · clear ha
    go_enter Tryd.func61, Tryd.ntmps61
    go_wp2_with fail
    refine wp_loop_rounds 1 ?_
    rw [rounds_succ]
    go_wp2
    go_ret
    exact ⟨rfl, World.ownsRow_nil _ _ _ _, Below.refl _ _, fun _ _ _ => rfl⟩
  · have HA := Lib.hid ha
    obtain ⟨N, hN⟩ : ∃ N, N = xs.length := ⟨_, rfl⟩
    have HN := Lib.hid hN
    rw [← hN] at hn hk0 ⊢
    clear ha hca hfr hN
    go_enter Tryd.func61, Tryd.ntmps61
    go_wp2_with fail
    go_loopw [1, 5] (fun q i wr => ∃ (k : Nat), k ≤ N ∧ i = .int .i64 k ∧ q = .int .i64 ((k0 + k : Nat) : Int) ∧ Hid (wr.ownsRow B 9 1 (.slice (some ⟨g, 0, none⟩) N cap) N ((markTS k0 k ++ xs.drop k).map (fun l => .string (bs l))) ∧ Below B w wr ∧ ∀ j, j ≠ g → j < w.heap.size → wr.heap[j]? = w.heap[j]?)) (fun _ i _ => N - (intOf i).toNat)
    case atStart => exact ⟨0, Nat.zero_le _, rfl, rfl, by
      have := HA.out
      unfold Strs at this
      rw [← HN.out] at this
      exact ⟨by simpa [markTS] using this, Below.refl _ _, fun _ _ _ => rfl⟩⟩
    case round =>
      obtain ⟨k, hk, rfl, rfl, HW⟩ := hrel
      by_cases hlt : k < N
      · have hgr : g < wr.heap.size := Nat.lt_of_lt_of_le hg HW.out.2.1.size
        have hcon := fun (W : World) => markTextB_any (k0 + k) W (by omega)
        rw [show ((k0 + k : Nat) : Int) = (k0 : Int) + (k : Int) by omega] at hcon
        have HC := Lib.hid hcon; clear hcon
        go_wp2_with fail
        refine (HC.out _).mono ?_
        rintro e w2 ⟨rfl, hb2⟩
        have HB2 := Lib.hid hb2
        obtain ⟨x1, h1⟩ := own_cell_some (own_below HW.out.1 hb2) k hlt
        have h2 := (own_below HW.out.1 HB2.out).frozenAt k
        clear hb2
        go_wp2_with fail
        go_roundw
        case rel =>
          refine ⟨k + 1, by omega, by go_num, by go_num, ?_⟩
          have hs := (own_below HW.out.1 HB2.out).stored k (.string (bs (markT (k0 + k))))
          refine ⟨?_, (HW.out.2.1.trans (HB2.out.mono (by have := HW.out.2.1.size; omega))).setCell (p := ⟨g, k, none⟩) hBg _, fun j h1 h2 => (Below.heap_setCell _ _ _ _ (by simpa using h1)).trans ((HB2.out.block j (Nat.lt_of_lt_of_le h2 HW.out.2.1.size)).trans (HW.out.2.2 j h1 h2))⟩
          have e : ((markTS k0 k ++ xs.drop k).map (fun l => Value.string (bs l))).set k (.string (bs (markT (k0 + k)))) = (markTS k0 (k + 1) ++ xs.drop (k + 1)).map (fun l => .string (bs l)) := by
            have hd : xs.drop k = xs[k]'(by rw [← HN.out]; exact hlt) :: xs.drop (k + 1) := List.drop_eq_getElem_cons _
            rw [markTS_succ, hd, List.map_append, List.map_cons, List.set_append_right _ _ (by simp [markTS_len])]
            simp only [List.length_map, markTS_len, Nat.sub_self, List.set_cons_zero, List.map_append, List.map_cons, List.map_nil, List.append_assoc, List.cons_append, List.nil_append]
          rw [← e]
          exact hs.1
        case measure => simp [intOf] <;> omega
      · obtain rfl : k = N := by omega
        go_wp2_with fail
        go_ret
        refine ⟨rfl, ?_, HW.out.2.1, fun j h1 h2 => HW.out.2.2 j (fun e => h1 (by rw [e]; rfl)) h2⟩
        have := HW.out.1
        rw [List.drop_of_length_le (by rw [← HN.out]; exact Nat.le_refl _), List.append_nil] at this
        unfold Strs
        rw [markTS_len]
        exact this


set_option maxHeartbeats 1000000 in
theorem markLanguageK_any (w : World) (B k0 : Nat) (v : Value) (ns : List (List UInt8)) (fr : List UInt8) (ha : Strs w B v ns) (hB : B ≤ w.heap.size) (hk0 : k0 + ns.length ≤ 3000000000) :
    Calls Tryd.prog 25 #[.agg #[v, .string (bs fr)], .int .i64 k0] w fun e w' => e = .returned (.int .i64 ((k0 + ns.length : Nat) : Int)) ∧ Strs w' B v (markTS k0 ns.length) ∧ Below B w w' ∧ FarK v w w' := by
  obtain ⟨K, hK⟩ : ∃ K, K = k0 + ns.length := ⟨_, rfl⟩
  have H1 := Lib.hid (fun (W : World) (hw : Below w.heap.size w W) => markStringK_any W B k0 v ns (strs_below ha hw) (Nat.le_trans hB hw.size) hk0)
  rw [← hK] at H1 ⊢
  clear ha hK
  go_enter Tryd.func25, Tryd.ntmps25
  go_wp2_with fail
  refine (H1.out _ (below_alloc w _)).mono ?_
  rintro e w1 ⟨rfl, h1, h2, h3⟩
  have H := Lib.hid h1; have HB := Lib.hid h2; have HF := Lib.hid h3
  clear h1 h2 h3
  go_wp2_with fail
  go_ret
  exact ⟨rfl, H.out, ((Below.refl B w).alloc hB _).trans HB.out, fun j e1 e2 => (HF.out j e1 (by simp; omega)).trans (heap_alloc_old _ _ e2)⟩
end Go.Proofs.YtampjipbemmicaaDoor
