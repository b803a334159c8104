/- The program's counts: one decay of all. -/
import Derived.Test.YtgmknehioadjhaaM2
import Derived.Test.YtgmknehioadjhaaN6
namespace Go.Proofs.Ytgmknehioadjhaa
open Go.RowKit Go.BigFrame
set_option linter.unusedSimpArgs false
set_option linter.unusedVariables false
set_option maxRecDepth 4000

theorem encD_len (k : Nat) (l : List Nat) : (encD k l).length = 2 * l.length := by
  induction l with
  | nil => rfl
  | cons a r ih => unfold encD at ih ⊢; rw [List.flatMap_cons]; simp only [List.length_append, List.length_cons, List.length_nil]; omega
theorem encD_at (k : Nat) : ∀ (l : List Nat) (i : Nat) (hi : i < l.length), (encD k l)[i * 2]? = some (.int .i64 (k : Nat)) ∧ (encD k l)[i * 2 + 1]? = some (.int .i64 (l[i] : Nat))
  | [], i, hi => by simp at hi
  | a :: r, 0, _ => ⟨rfl, rfl⟩
  | a :: r, i + 1, hi => by
    have := encD_at k r i (by simpa using hi)
    rw [show (i + 1) * 2 = i * 2 + 1 + 1 by omega]
    exact this
/-- The row of a name, in the program's table. -/
theorem RowsX.rowD {W : World} {n₀ top K : Nat} {v : Value} {ns : List (List UInt8)} (h : RowsD W n₀ top v K ns) {k : Nat} (hk : k < K) : ∃ gD cD gr cr, v = .slice (some ⟨gD, 0, none⟩) K cD ∧ gD < W.heap.size ∧ W.cell? ⟨gD, k, none⟩ = some (.slice (some ⟨gr, 0, none⟩) (rowN ns k).length cr) ∧ gr < W.heap.size ∧
    (∀ i (hi : i < (rowN ns k).length), W.cell? ⟨gr, i * 2, none⟩ = some (.int .i64 (k : Nat)) ∧ W.cell? ⟨gr, i * 2 + 1, none⟩ = some (.int .i64 ((rowN ns k)[i] : Nat)) ∧ (rowN ns k)[i] < ns.length) ∧ n₀ ≤ gD ∧ n₀ ≤ gr := by
  obtain ⟨xd, h1, h2⟩ := h
  obtain ⟨p, u, e1, e2, e3, e4⟩ := h2 k hk
  obtain ⟨gr, cr, rfl, hr1, hr2, hr3⟩ := e3.cell
  rw [rowN_get e1]
  rcases own_open h1 with ⟨_, h0, _⟩ | ⟨gD, cD, rfl, hB, hlt, _, _, hl, hc, _⟩
  · omega
  · refine ⟨gD, cD, gr, cr, rfl, hlt, ?_, hr2, fun i hi => ?_, hB, hr1⟩
    · rw [hc k (by omega), linkL_len]
      rw [List.getElem?_eq_getElem (by omega)] at e2
      exact congrArg some (Option.some.inj e2)
    · obtain ⟨q1, q2⟩ := encD_at k (linkL ns p) i hi
      have hl2 := encD_len k (linkL ns p)
      refine ⟨?_, ?_, ?_⟩
      · rw [hr3 (i * 2) (by omega), ← List.getElem?_eq_getElem]; exact q1
      · rw [hr3 (i * 2 + 1) (by omega), ← List.getElem?_eq_getElem]; exact q2
      · have : (linkL ns p)[i] ∈ linkL ns p := List.getElem_mem hi
        unfold linkL at this
        obtain ⟨q, hq, e⟩ := List.mem_map.1 this
        have hh : posN q ns < ns.length := posN_mem.2 (e4 q hq)
        rw [e] at hh
        exact hh

theorem Ints.drewalloc {W : World} {B : Nat} {v : Value} {xs : List Int} {o : Obj} (h : Ints W B v xs) : Ints (W.alloc o).drew B v xs := by
  have := World.ownsRow.alloc h o
  exact this.drew
set_option maxHeartbeats 4000000 in
theorem countsDecayed_any (W : World) (n₀ fb top n gc cc gD0 cD0 : Nat) (ns : List (List UInt8)) (c : List Int) (hn : n = ns.length) (hn9 : n ≤ 200) (hn0 : 0 < n) (hok : NmOk ns) (hv : W.cell? ⟨fb, 4, none⟩ = some (.slice (some ⟨gD0, 0, none⟩) n cD0)) (hfb : fb < W.heap.size)
    (hrows : RowsD W n₀ top (.slice (some ⟨gD0, 0, none⟩) n cD0) n ns) {B : Nat} (hc : Ints W B (.slice (some ⟨gc, 0, none⟩) n cc) c) :
    Calls Try.prog 61 #[.pointer (some ⟨fb, 0, none⟩), .slice (some ⟨gc, 0, none⟩) n cc] W fun e w' => e = .returned (.slice (some ⟨W.heap.size, 0, none⟩) n n) ∧ Ints w' W.heap.size (.slice (some ⟨W.heap.size, 0, none⟩) n n) (stepC (rowN ns) c) ∧ Below W.heap.size W w' := by
  obtain ⟨i0, hi, hz0, hz1, hz2⟩ := info_parts info_int5
  have hrw : ∀ k, k < n → ∃ cD gr cr, gD0 < W.heap.size ∧ W.cell? ⟨gD0, k, none⟩ = some (.slice (some ⟨gr, 0, none⟩) (rowN ns k).length cr) ∧ gr < W.heap.size ∧
      (∀ i (hi : i < (rowN ns k).length), W.cell? ⟨gr, i * 2, none⟩ = some (.int .i64 (k : Nat)) ∧ W.cell? ⟨gr, i * 2 + 1, none⟩ = some (.int .i64 ((rowN ns k)[i] : Nat)) ∧ (rowN ns k)[i] < n) ∧ (rowN ns k).length ≤ 121 := fun k hk => by
    obtain ⟨gD, cD, gr, cr, e1, e2, e3, e4, e5, _⟩ := RowsX.rowD hrows hk
    cases e1
    refine ⟨cD0, gr, cr, e2, e3, e4, fun i hi => ?_, ?_⟩
    · rw [hn]; exact e5 i hi
    · have hk2 : k < ns.length := by omega
      rw [rowN_get (List.getElem?_eq_getElem hk2), linkL_len]
      obtain ⟨h1, h2⟩ := hok _ (List.getElem_mem hk2)
      exact (sd_ok h1 h2).2.1
  have hcl := (ints_len hc).1
  have hgc := (ints_len hc).2.1
  have HRW := Lib.hid hrw; have HC := Lib.hid hc; have HCL := Lib.hid hcl
  clear hrw hrows hc hcl hok hn
  go_enter Try.func61, Try.ntmps61
  go_wp2_with (refine wpList_make_full _ rfl _ _ 30 rfl W.heap.size 3 i0 (.int .i64 0) 1 Try.underlying30 hi hz0 hz1 .i64 .i64 (n : Int) (n : Int) n rfl rfl rfl rfl (by rw [hz2]; omega) (by unfold maxLen; omega) (Nat.le_refl _) ?_; intro w1 hrow hgr; have hb1 := below_grown (Nat.le_refl _) hgr (fun g e => by cases e); have y4 := (hb1.cell (p := ⟨fb, 4, none⟩) hfb).trans hv; have HB1 := Lib.hid hb1; have HR1 := Lib.hid (ints_made hrow); clear hrow hgr hb1)
  go_loopw [18] (fun kv wr => ∃ k : Nat, k ≤ n ∧ kv = .int .i64 k ∧ Hid (Ints wr W.heap.size (.slice (some ⟨W.heap.size, 0, none⟩) n n) (accK (rowN ns) c k) ∧ Below W.heap.size W wr)) (fun kv _ => n - (intOf kv).toNat)
  case atStart => exact ⟨0, by omega, rfl, Lib.hid ⟨by unfold accK; rw [← HCL.out]; exact HR1.out, HB1.out⟩⟩
  case round =>
    obtain ⟨k, hk, rfl, HX⟩ := hrel
    obtain ⟨ha, hb⟩ := HX.out
    by_cases hkn : k < n
    · obtain ⟨cD, gr, cr, hgD, hcD, hgr, hrc, hL9⟩ := HRW.out k hkn
      have yD := (hb.cell (p := ⟨gD0, k, none⟩) hgD).trans hcD
      obtain ⟨yc, _⟩ := ints_at HC.out hkn
      have HAK : Hid (accK (rowN ns) c (k + 1) = addRow (accK (rowN ns) c k) (rowN ns k) (c.getD k 0)) := Lib.hid rfl
      obtain ⟨x, hx⟩ : ∃ x, x = c.getD k 0 := ⟨_, rfl⟩
      rw [← hx] at yc HAK
      obtain ⟨row, hrowe⟩ : ∃ row, row = rowN ns k := ⟨_, rfl⟩
      rw [← hrowe] at yD hrc HAK hL9
      obtain ⟨L, hL⟩ : ∃ L, L = row.length := ⟨_, rfl⟩
      rw [← hL] at yD hL9
      have HRC := Lib.hid hrc; have HL := Lib.hid hL; have HA := Lib.hid ha; have HB := Lib.hid hb
      clear HX ha hb hcD hrc hx hrowe hL
      go_wp2_with fail
      go_loopw [24] (fun jv wz => ∃ j : Nat, j ≤ L ∧ jv = .int .i64 j ∧ Hid (Ints wz W.heap.size (.slice (some ⟨W.heap.size, 0, none⟩) n n) (addRow (accK (rowN ns) c k) (row.take j) x) ∧ Below W.heap.size W wz)) (fun jv _ => L - (intOf jv).toNat)
      case atStart => exact ⟨0, by omega, rfl, Lib.hid ⟨HA.out, HB.out⟩⟩
      case round =>
        obtain ⟨j, hj, rfl, HX⟩ := hrel
        obtain ⟨ha, hbz⟩ := HX.out
        by_cases hjl : j < L
        · have hjr : j < row.length := by rw [← HL.out]; exact hjl
          obtain ⟨hc0, hc1, hqn⟩ := HRC.out j hjr
          have z0 := (hbz.cell (p := ⟨gr, j * 2, none⟩) hgr).trans hc0
          have z1 := (hbz.cell (p := ⟨gr, j * 2 + 1, none⟩) hgr).trans hc1
          have zc := (hbz.cell (p := ⟨gc, k, none⟩) hgc).trans yc
          have HAT : Hid (addRow (accK (rowN ns) c k) (row.take (j + 1)) x = bumpL (addRow (accK (rowN ns) c k) (row.take j) x) row[j] x) := Lib.hid (addRow_take _ _ _ hjr)
          obtain ⟨q, hqe⟩ : ∃ q, q = row[j] := ⟨_, rfl⟩
          rw [← hqe] at hqn z1 HAT
          obtain ⟨d, hde⟩ : ∃ d, d = addRow (accK (rowN ns) c k) (row.take j) x := ⟨_, rfl⟩
          rw [← hde] at ha HAT
          obtain ⟨yq, fq⟩ := ints_at ha hqn
          obtain ⟨dv, hdv⟩ : ∃ dv, dv = d.getD q 0 := ⟨_, rfl⟩
          rw [← hdv] at yq
          have hszz := (ints_len ha).2.1
          have hgrz : gr < wr.heap.size := by omega
          have hgcz : gc < wr.heap.size := by omega
          have hgc2 : gc ≠ W.heap.size := by omega
          have HA2 := Lib.hid ha; have HBZ := Lib.hid hbz; have HDV := Lib.hid hdv
          clear HX ha hbz hc0 hc1 hqe hde hdv hjr
          go_wp2_with fail
          go_region
          all_goals
            go_wp2_with fail
            go_roundw
            case rel =>
              refine ⟨j + 1, by omega, by go_num, Lib.hid ⟨?_, ?_⟩⟩
              · rw [HAT.out]
                unfold bumpL
                rw [← HDV.out]
                exact Ints.drewalloc (ints_put HA2.out _ _)
              · exact ((HBZ.out.setCell (Nat.le_refl _) _).alloc (by simp; omega) _).drew
            case measure => simp [intOf] <;> omega
        · obtain rfl : j = L := by omega
          rw [show row.take j = row from List.take_of_length_le (by rw [← HL.out]; exact Nat.le_refl _), ← HAK.out] at ha
          have HA2 := Lib.hid ha; have HBZ := Lib.hid hbz
          clear HX ha hbz
          go_wp2_with fail
          go_roundw
          case rel => exact ⟨k + 1, by omega, by go_num, Lib.hid ⟨HA2.out, HBZ.out⟩⟩
          case measure => simp [intOf] <;> omega
    · obtain rfl : k = n := by omega
      have hst : accK (rowN ns) c k = stepC (rowN ns) c := by unfold stepC; rw [← HCL.out]
      rw [hst] at ha
      have HA := Lib.hid ha; have HB := Lib.hid hb
      clear HX ha hb hst
      go_wp2_with fail
      go_ret
      exact ⟨rfl, HA.out, HB.out⟩

/-- What countElements tells. -/
def CePost (P : List (List UInt8)) (R : Option (List (List UInt8))) (t : Nat) (w w' : World) (e : Ending) : Prop :=
  (R = none → e = .returned (.tuple #[.agg zeroF, .slice none 0 0, .bool false])) ∧
  (∀ ns, R = some ns → ∃ vE mb vT vP vD ts v, e = .returned (.tuple #[.agg #[vE, .map (some mb), vT, vP, vD], v, .bool true]) ∧ FeTab w' w.heap.size P ns vE mb vT vP vD ts ∧ Ints w' w.heap.size v (cntsL P ns t)) ∧ Below w.heap.size w w'
end Go.Proofs.Ytgmknehioadjhaa
