/- Chapter 9: the model's MakePuzzle. -/
import Derived.Test.Ytplcdofpikdigaaqh
import Derived.Test.YtplcdofpikdigaaA5
namespace Go.Proofs.Ytplcdofpikdigaa
open Go.RowKit Go.BigFrame Go.Deep
set_option linter.unusedSimpArgs false
set_option linter.unusedVariables false
set_option maxRecDepth 4000

theorem run_next_at {P : Program} (W : World) (b : Nat) (s : ByteArray) (pos : Nat) (ty : TypeId) (hb : W.heap[b]? = some (.stringIter s pos)) (h : pos < s.size) (ha : (s[pos]'h).toNat < 128) :
    (Instr.next (.pointer (some ⟨b, 0, none⟩)) true ty).run P W = .ok (.tuple #[.bool true, .int .i64 pos, .int .i32 (s[pos]'h).toNat]) (W.putObj b (.stringIter s (pos + 1))) := by
  simp only [Instr.next, getObj, setObj, Sem.run_bind, Sem.run, hb, Result.andThen, h, if_true, decode_ascii s pos h ha]
  simp [goInt, Sem.run, World.putObj]
theorem run_next_over {P : Program} (W : World) (b : Nat) (s : ByteArray) (pos : Nat) (ty : TypeId) (hb : W.heap[b]? = some (.stringIter s pos)) (h : ¬ pos < s.size) :
    (Instr.next (.pointer (some ⟨b, 0, none⟩)) true ty).run P W = .ok (.tuple #[.bool false]) W := by
  simp [Instr.next, getObj, Sem.run, hb, h]
theorem measure_iter {n b k : Nat} {t : ByteArray} {wa wb : World} (ha : wa.heap[b]? = some (.stringIter t k)) (hb : wb.heap[b]? = some (.stringIter t (k + 1))) (h : k < n) : n - wb.iterPos b < n - wa.iterPos b := by
  simp only [World.iterPos, ha, hb]; omega

/-- The blocks of the model's call: the result, the puzzle that is made. -/
structure MkS (w : World) (a u : ByteArray) (D : Int) (wr : World) : Prop where
  res : ThreeAt wr w.heap.size (.string ⟨#[]⟩) (.string ⟨#[]⟩) (.int .i64 0) 26
  p : ThreeAt wr (w.heap.size + 1) (.string a) (.string u) (.int .i64 D) 26
  below : Below w.heap.size w wr
theorem mkS_new (w : World) (a : ByteArray) (D : Int) : MkS w a ⟨#[]⟩ D ((w.alloc (.cells #[.string ⟨#[]⟩, .string ⟨#[]⟩, .int .i64 0] 26)).alloc (.cells #[.string a, .string ⟨#[]⟩, .int .i64 D] 26)) := by
  refine ⟨(threeAt_new w _ _ _ _).below (below_alloc _ _), ?_, below_trans (below_alloc _ _) (below_alloc _ _)⟩
  have := threeAt_new (w.alloc (.cells #[.string ⟨#[]⟩, .string ⟨#[]⟩, .int .i64 0] 26)) (.string a) (.string ⟨#[]⟩) (.int .i64 D) 26
  rwa [World.size_alloc] at this
theorem MkS.later {w wr w2 : World} {a u : ByteArray} {D : Int} (h : MkS w a u D wr) (hb : Below wr.heap.size wr w2) : MkS w a u D w2 := ⟨h.res.below hb, h.p.below hb, below_trans h.below hb⟩
theorem MkS.set0 {w wr : World} {a u : ByteArray} {D : Int} (h : MkS w a u D wr) (x : ByteArray) : MkS w x u D (wr.setCell ⟨w.heap.size + 1, 0, none⟩ (.string x)) :=
  ⟨h.res.other _ (show w.heap.size ≠ w.heap.size + 1 by omega), threeAt_set0 h.p _, h.below.setCell (show w.heap.size ≤ w.heap.size + 1 by omega) _⟩
theorem MkS.set1 {w wr : World} {a u : ByteArray} {D : Int} (h : MkS w a u D wr) (x : ByteArray) : MkS w a x D (wr.setCell ⟨w.heap.size + 1, 1, none⟩ (.string x)) :=
  ⟨h.res.other _ (show w.heap.size ≠ w.heap.size + 1 by omega), threeAt_set1 h.p _, h.below.setCell (show w.heap.size ≤ w.heap.size + 1 by omega) _⟩
theorem below_put (w : World) (B b : Nat) (o : Obj) (hb : B ≤ b) : Below B w (w.putObj b o) :=
  ⟨rfl, rfl, rfl, by simp [World.putObj], fun k hk => World.putObj_heap_other (by omega)⟩
theorem MkS.put {w wr : World} {a u : ByteArray} {D : Int} (h : MkS w a u D wr) (b : Nat) (o : Obj) (hb : w.heap.size + 1 < b) : MkS w a u D (wr.putObj b o) :=
  ⟨(World.putObj_heap_other (show w.heap.size ≠ b by omega)).trans h.res, (World.putObj_heap_other (show w.heap.size + 1 ≠ b by omega)).trans h.p, h.below.trans (below_put _ _ _ _ (by omega))⟩

set_option maxHeartbeats 4000000 in
theorem specMakePuzzle_any (s : ByteArray) (l : List UInt8) (hsl : l = s.data.toList) (D sd : Int) (w : World) (hs : s.size ≤ maxLen) :
    Calls Try.prog 26 #[.string s, .int .i64 D, .int .i64 sd] w fun e w' => e = .returned (.tuple #[pzV (rWMakePuzzle l D sd) (rSMakePuzzle l D sd) (rDMakePuzzle l D sd), .bool (rBMakePuzzle l D sd)]) ∧ Below w.heap.size w w' := by
  have hW := fun (W0 : World) => woGood_any s W0 hs
  rw [← hsl] at hW
  have hbs : s = bs l := by rw [hsl]; exact bs_eq rfl
  show Calls Try.prog 26 #[.string s, .int .i64 D, .int .i64 sd] w fun e w' => e = .returned (.tuple #[pzIf (rBMakePuzzle l D sd) (gapT sd.toNat l l.length) (gapT (itZ sd.toNat l.length) (sayL l) (sayL l).length) D, .bool (rBMakePuzzle l D sd)]) ∧ Below w.heap.size w w'
  obtain ⟨G, hG⟩ : ∃ G, G = rBMakePuzzle l D sd := ⟨_, rfl⟩
  rw [← hG]
  unfold rBMakePuzzle at hG
  have hsz : s.size = l.length := by rw [hsl]; simp
  have hM := mkS_new w s D
  have hs9 : s.size ≤ 9223372036854775807 := by unfold maxLen at hs; exact hs
  by_cases h8 : l.length ≤ 8
  · rw [decide_eq_true h8] at hG
    have h88 : s.size ≤ 8 := by omega
    cases hg : goodL l with
    | false =>
      obtain rfl : G = false := by rw [hG, hg]; rfl
      rw [hg] at hW
      have HW := Lib.hid hW
      rw [pzIf_false]
      obtain ⟨c0, c1, c2, f0, f1, f2⟩ := hM.res.cells
      have HB := Lib.hid hM.below
      clear hW hG hg hbs hsl hsz hM
      go_enter Try.func26, Try.ntmps26
      go_wp2_with fail
      refine (HW.out _).mono ?_
      rintro e w1 ⟨rfl, rfl⟩
      go_wp2_with fail
      first
      | (refine bodyPost_ret (v := .tuple #[.agg #[.string ⟨#[]⟩, .string ⟨#[]⟩, .int .i64 0], .bool false]) ?_ rfl ⟨rfl, HB.out⟩
         simp [results, Try.results26, go_sem, c0, c1, c2])
      | (refine bodyPost_ret (v := .tuple #[.agg #[.string ⟨#[]⟩, .string ⟨#[]⟩, .int .i64 0], .bool false]) ?_ rfl ⟨rfl, three_below HB.out (by omega) _ _ _⟩
         simp [results, Try.results26, go_sem, c0, c1, c2])
    | true =>
      rw [hg] at hW hG
      obtain ⟨v, hv⟩ : ∃ v, v = decide ((0 : Int) ≤ sd ∧ sd ≤ 9999) := ⟨_, rfl⟩
      rw [← hv] at hG
      have HI := Lib.hid (fun (W0 : World) => l1In_is v sd 0 9999 W0 hv.symm)
      cases v with
      | false =>
        obtain rfl : G = false := by rw [hG]; rfl
        have HW := Lib.hid hW
        rw [pzIf_false]
        obtain ⟨c0, c1, c2, f0, f1, f2⟩ := hM.res.cells
        have HB := Lib.hid hM.below
        clear hW hG hg hbs hsl hsz hv hM
        go_enter Try.func26, Try.ntmps26
        go_wp2_with fail
        refine (HW.out _).mono ?_
        rintro e w1 ⟨rfl, rfl⟩
        go_wp2_with fail
        refine (HI.out _).mono ?_
        rintro e w1 ⟨rfl, rfl⟩
        go_wp2_with fail
        first
        | (refine bodyPost_ret (v := .tuple #[.agg #[.string ⟨#[]⟩, .string ⟨#[]⟩, .int .i64 0], .bool false]) ?_ rfl ⟨rfl, HB.out⟩
           simp [results, Try.results26, go_sem, c0, c1, c2])
        | (refine bodyPost_ret (v := .tuple #[.agg #[.string ⟨#[]⟩, .string ⟨#[]⟩, .int .i64 0], .bool false]) ?_ rfl ⟨rfl, three_below HB.out (by omega) _ _ _⟩
           simp [results, Try.results26, go_sem, c0, c1, c2])
      | true =>
        have hin : (0 : Int) ≤ sd ∧ sd ≤ 9999 := of_decide_eq_true hv.symm
        obtain ⟨z, rfl⟩ := Int.eq_ofNat_of_zero_le hin.1
        rw [Int.toNat_natCast]
        have hz : z ≤ 10008 := by omega
        have hsay := sayB_short hg h8
        have hsl2 := say_len_le hsay
        have hgp := goodL_parts (s := s) (by rw [← hsl]; exact hg)
        have hSY := fun (W0 : World) => woSay_any s W0 hgp.1 hgp.2.1 hgp.2.2
        rw [← hsl] at hSY
        have hdig : l.all digB = true := by rw [hsl]; exact hgp.2.2
        obtain ⟨S, hS⟩ : ∃ S, S = sayL l := ⟨_, rfl⟩
        rw [← hS] at hSY hG hsl2 ⊢
        have hIP := fun (W0 : World) => pzGood_any l S D W0 (by unfold maxLen; omega) (by unfold maxLen; omega)
        obtain ⟨g, hgp2⟩ : ∃ g, g = pzB l S D := ⟨_, rfl⟩
        simp only [← hgp2] at hIP
        rw [← hgp2] at hG
        unfold pzV at hIP
        cases g with
        | false =>
          obtain rfl : G = false := by rw [hG]; rfl
          rw [pzIf_false]
          rw [← hbs] at hIP
          generalize bs S = u at *
          have HW := Lib.hid hW; have HSY := Lib.hid hSY; have HIP := Lib.hid hIP; have HM := Lib.hid hM
          clear hW hG hg hv hSY hIP hin hsay hsl2 hgp hgp2 hS hbs hsl hsz hM hdig
          go_enter Try.func26, Try.ntmps26
          go_wp2_with fail
          refine (HW.out _).mono ?_
          rintro e w1 ⟨rfl, rfl⟩
          go_wp2_with fail
          refine (HI.out _).mono ?_
          rintro e w1 ⟨rfl, rfl⟩
          go_wp2_with fail
          refine (HSY.out _).mono ?_
          rintro e w2 ⟨rfl, hb⟩
          have hm2 := HM.out.later hb
          obtain ⟨d0, d1, d2, g0, g1, g2⟩ := hm2.p.cells
          have HM2 := Lib.hid (hm2.set1 u)
          clear hb hm2
          go_wp2_with fail
          refine (HIP.out _).mono ?_
          rintro e w3 ⟨rfl, hb⟩
          have hm3 := HM2.out.later hb
          obtain ⟨c0, c1, c2, f0, f1, f2⟩ := hm3.res.cells
          have HB3 := Lib.hid hm3.below
          clear hb hm3
          go_wp2_with fail
          refine bodyPost_ret (v := .tuple #[.agg #[.string ⟨#[]⟩, .string ⟨#[]⟩, .int .i64 0], .bool false]) ?_ rfl ⟨rfl, three_below HB3.out (by omega) _ _ _⟩
          simp [results, Try.results26, go_sem, c0, c1, c2]
        | true =>
          obtain rfl : G = true := by rw [hG]; rfl
          rw [← hbs] at hIP
          rw [show pzIf true (gapT z l l.length) (gapT (itZ z l.length) S S.length) D = .agg #[.string (bs (gapT z l l.length)), .string (bs (gapT (itZ z l.length) S S.length)), .int .i64 D] from rfl]
          have hz2 : itZ z l.length ≤ 10008 := itZ_le z hz _
          have hasc : ∀ k (h : k < s.size), s[k].toNat < 128 := by
            intro k h
            have h2 := List.all_eq_true.1 hgp.2.2 s[k] (by rw [show s[k] = s.data.toList[k]'(by simpa using h) from rfl]; exact List.getElem_mem _)
            unfold digB at h2; simp at h2; omega
          obtain ⟨n, hn⟩ : ∃ n, n = l.length := ⟨_, rfl⟩
          obtain ⟨m, hm⟩ : ∃ m, m = S.length := ⟨_, rfl⟩
          have HP1 := Lib.hid (fun (k : Nat) (h : k < n) (W0 : World) => pzPut_any (gapT z l k) k 46 W0 (by rw [gapT_len, ← hn]; exact h) (by rw [gapT_len]; omega))
          have HP2 := Lib.hid (fun (k : Nat) (h : k < m) (W0 : World) => pzPut_any (gapT (itZ z l.length) S k) k 46 W0 (by rw [gapT_len, ← hm]; exact h) (by rw [gapT_len]; omega))
          have HS1 := Lib.hid (fun (k : Nat) (h : k < n) => gapT_succ l z k (by rw [← hn]; exact h))
          have HS2 := Lib.hid (fun (k : Nat) (h : k < m) => gapT_succ S (itZ z l.length) k (by rw [← hm]; exact h))
          have HL2 := Lib.hid (fun (k : Nat) => (show (bs (gapT (itZ z l.length) S k)).size = m by rw [bs_size, gapT_len, hm]))
          have HZ1 := Lib.hid (show bs (gapT z l 0) = s by rw [gapT_zero, hbs])
          have HZ2 := Lib.hid (show bs (gapT (itZ z l.length) S 0) = bs S by rw [gapT_zero])
          have HIS := Lib.hid (fun (y k : Nat) => itZ_succ y k)
          have HIL := Lib.hid (fun k => itZ_le z hz k)
          have HIL2 := Lib.hid (fun k => itZ_le (itZ z l.length) hz2 k)
          have hnx : ∀ y : Nat, y ≤ 10008 → (171 * (y : Int) + 3203).tmod 10009 = (nxZ y : Int) := by
            intro y hy
            unfold nxZ
            rw [Int.tmod_eq_emod_of_nonneg (by omega)]; omega
          have hg3 : ∀ y : Nat, (y : Int).tmod 3 = ((y % 3 : Nat) : Int) ∧ gpZ y = (y % 3 != 0) := by
            intro y
            exact ⟨by rw [Int.tmod_eq_emod_of_nonneg (by omega)]; omega, rfl⟩
          have HNX := Lib.hid hnx; have HG3 := Lib.hid hg3
          have hsn : s.size = n := by rw [hsz, hn]
          have hm16 : m ≤ 16 := by omega
          have hn8 : n ≤ 8 := by omega
          rw [← hn, ← hm]
          have HW := Lib.hid hW; have HSY := Lib.hid hSY; have HIP := Lib.hid hIP; have HM := Lib.hid hM
          have HNN := Lib.hid hn
          clear hW hG hg hv hSY hIP hin hsay hsl2 hgp hgp2 hS hbs hsl hsz hM hz2 hnx hg3 hdig hm
          rw [← HNN.out] at HP2 HS2 HL2 HZ2 HIL2
          clear hn
          obtain ⟨z2, hz2⟩ : ∃ z2, z2 = itZ z n := ⟨_, rfl⟩
          rw [← hz2] at HP2 HS2 HL2 HZ2 HIL2 ⊢
          obtain ⟨t2, ht2⟩ : ∃ t2, t2 = bs (gapT z l n) := ⟨_, rfl⟩
          obtain ⟨u2, hu2⟩ : ∃ u2, u2 = bs (gapT z2 S m) := ⟨_, rfl⟩
          rw [← ht2, ← hu2]
          have HT2 := Lib.hid ht2; have HU2 := Lib.hid hu2
          have HZZ := Lib.hid hz2
          clear hz2 ht2 hu2
          go_enter Try.func26, Try.ntmps26
          go_wp2_with fail
          refine (HW.out _).mono ?_
          rintro e w1 ⟨rfl, rfl⟩
          go_wp2_with fail
          refine (HI.out _).mono ?_
          rintro e w1 ⟨rfl, rfl⟩
          go_wp2_with fail
          refine (HSY.out _).mono ?_
          rintro e w2 ⟨rfl, hb⟩
          have hm2 := HM.out.later hb
          obtain ⟨d0, d1, d2, g0, g1, g2⟩ := hm2.p.cells
          have HM2 := Lib.hid (hm2.set1 (bs S))
          clear hb hm2
          go_wp2_with fail
          refine (HIP.out _).mono ?_
          rintro e w3 ⟨rfl, hb⟩
          have HM3 := Lib.hid (HM2.out.later hb)
          have HLT3 := Lib.hid HM3.out.p.lt
          have HN3 := Lib.hid (World.iter_heap w3 s 0)
          clear hb d0 d1 d2 g0 g1 g2
          go_wp2_with fail
          go_loopw [9] (fun zv wr => ∃ k : Nat, k ≤ n ∧ zv = .int .i64 (itZ z k : Int) ∧ Hid (MkS w (bs (gapT z l k)) (bs S) D wr ∧ wr.heap[w3.heap.size]? = some (.stringIter s k))) (fun _ wr => n - wr.iterPos w3.heap.size)
          case atStart =>
            refine ⟨0, Nat.zero_le _, rfl, ?_, HN3.out⟩
            rw [HZ1.out]
            exact HM3.out.later (below_alloc _ _)
          case round =>
            obtain ⟨k, hk, rfl, HX⟩ := hrel
            have hltb : w.heap.size + 1 < w3.heap.size := HLT3.out
            by_cases hlt : k < n
            · have hks : k < s.size := by omega
              have hnx : ∀ ty, (Instr.next (.pointer (some ⟨w3.heap.size, 0, none⟩)) true ty).run Try.prog wr = .ok (.tuple #[.bool true, .int .i64 k, .int .i32 (s[k]'hks).toNat]) (wr.putObj w3.heap.size (.stringIter s (k + 1))) := fun ty => run_next_at wr _ s k ty HX.out.2 hks (hasc k hks)
              obtain ⟨wq, hwq⟩ : ∃ wq, wq = wr.putObj w3.heap.size (.stringIter s (k + 1)) := ⟨_, rfl⟩
              have hmq : MkS w (bs (gapT z l k)) (bs S) D wq := by rw [hwq]; exact HX.out.1.put _ _ hltb
              have hiq : wq.heap[w3.heap.size]? = some (.stringIter s (k + 1)) := by rw [hwq]; exact World.putObj_heap_same (Array.getElem?_eq_some_iff.1 HX.out.2).1
              rw [← hwq] at hnx
              have hzn := HNX.out (itZ z k) (HIL.out k)
              obtain ⟨htm, hgn⟩ := HG3.out (nxZ (itZ z k))
              rw [← HIS.out z k] at hzn hgn htm
              have hz3 := HIL.out (k + 1)
              have hst := HS1.out k hlt
              have hp := HP1.out k hlt
              obtain ⟨gv, hgv⟩ : ∃ gv, gv = gpZ (itZ z (k + 1)) := ⟨_, rfl⟩
              rw [← hgv] at hgn hst
              have hz4 := HIL.out k
              obtain ⟨y, hy⟩ : ∃ y, y = itZ z (k + 1) := ⟨_, rfl⟩
              rw [← hy] at hzn hgn htm hz3
              have HY := Lib.hid hy
              generalize y % 3 = r at htm hgn
              generalize itZ z k = y0 at *
              obtain ⟨d0, d1, d2, g0, g1, g2⟩ := hmq.p.cells
              have HMQ := Lib.hid hmq; have HIQ := Lib.hid hiq; have HST := Lib.hid hst; have HP := Lib.hid hp; have HXI := Lib.hid HX.out.2
              clear hwq hmq hiq hst hp hgv hy HX
              cases gv with
              | true =>
                have h3 : ((r : Int) != 0) = true := by
                  have := hgn.symm; simp at this; simp; omega
                clear hgn
                rw [if_pos rfl] at HST
                rw [← HST.out] at HP
                rw [show bs [46] = ⟨#[46]⟩ from rfl] at HP
                go_wp2_with fail
                refine (HP.out _).mono ?_
                rintro e w5 ⟨rfl, m5, hm5⟩
                have hb5 := hm5 ▸ belowN wq.heap.size wq m5
                have hm5' := HMQ.out.later hb5
                obtain ⟨j0, j1, j2, q0, q1, q2⟩ := hm5'.p.cells
                have HM5 := Lib.hid (hm5'.set0 (bs (gapT z l (k + 1))))
                have HI5 := Lib.hid (show (w5.setCell ⟨w.heap.size + 1, 0, none⟩ (.string (bs (gapT z l (k + 1))))).heap[w3.heap.size]? = some (.stringIter s (k + 1)) from (Below.heap_setCell _ _ _ _ (show w3.heap.size ≠ w.heap.size + 1 by omega)).trans ((hb5.block _ (Array.getElem?_eq_some_iff.1 HIQ.out).1).trans HIQ.out))
                clear hb5 hm5 hm5' d0 d1 d2 g0 g1 g2
                go_wp2_with fail
                go_roundw
                case rel => exact ⟨k + 1, by omega, by rw [HY.out], HM5.out, HI5.out⟩
                case measure => exact measure_iter HXI.out HI5.out hlt
              | false =>
                obtain rfl : r = 0 := by have := hgn.symm; simpa using this
                clear hgn
                rw [if_neg (by simp)] at HST
                rw [← HST.out] at HMQ
                go_wp2_with fail
                go_roundw
                case rel => exact ⟨k + 1, by omega, by rw [HY.out], HMQ.out, HIQ.out⟩
                case measure => exact measure_iter HXI.out HIQ.out hlt
            · obtain rfl : k = n := by omega
              have hks : ¬ k < s.size := by omega
              have hnx : ∀ ty, (Instr.next (.pointer (some ⟨w3.heap.size, 0, none⟩)) true ty).run Try.prog wr = .ok (.tuple #[.bool false]) wr := fun ty => run_next_over wr _ s k ty HX.out.2 hks
              have HM6 := Lib.hid HX.out.1
              clear HX
              rw [← HT2.out] at HM6
              go_wp2_with fail
              go_loopw [9, 11] (fun zv iv wr => ∃ j : Nat, j ≤ m ∧ zv = .int .i64 (itZ z2 j : Int) ∧ iv = .int .i64 (j : Int) ∧ Hid (MkS w t2 (bs (gapT z2 S j)) D wr)) (fun _ iv _ => m - (intOf iv).toNat)
              case atStart => exact ⟨0, Nat.zero_le _, by rw [← HZZ.out]; rfl, rfl, by rw [HZ2.out]; exact HM6.out⟩
              case round =>
                clear hnx
                obtain ⟨j, hj, rfl, rfl, HX⟩ := hrel
                obtain ⟨d0, d1, d2, g0, g1, g2⟩ := HX.out.p.cells
                have hlen := HL2.out j
                by_cases hltj : j < m
                · have hzn := HNX.out (itZ z2 j) (HIL2.out j)
                  obtain ⟨htm, hgn⟩ := HG3.out (nxZ (itZ z2 j))
                  rw [← HIS.out z2 j] at hzn hgn htm
                  have hz3 := HIL2.out (j + 1)
                  have hst := HS2.out j hltj
                  have hp := HP2.out j hltj
                  obtain ⟨gv, hgv⟩ : ∃ gv, gv = gpZ (itZ z2 (j + 1)) := ⟨_, rfl⟩
                  rw [← hgv] at hgn hst
                  have hz4 := HIL2.out j
                  obtain ⟨y, hy⟩ : ∃ y, y = itZ z2 (j + 1) := ⟨_, rfl⟩
                  rw [← hy] at hzn hgn htm hz3
                  have HY := Lib.hid hy
                  generalize y % 3 = r at htm hgn
                  generalize itZ z2 j = y0 at *
                  have HST := Lib.hid hst; have HP := Lib.hid hp; have HMX := Lib.hid HX.out
                  clear hst hp hgv hy HX
                  cases gv with
                  | true =>
                    have h3 : ((r : Int) != 0) = true := by
                      have := hgn.symm; simp at this; simp; omega
                    clear hgn
                    rw [if_pos rfl] at HST
                    rw [← HST.out] at HP
                    rw [show bs [46] = ⟨#[46]⟩ from rfl] at HP
                    go_wp2_with fail
                    refine (HP.out _).mono ?_
                    rintro e w5 ⟨rfl, m5, hm5⟩
                    have hb5 := hm5 ▸ belowN wr.heap.size wr m5
                    have hm5' := HMX.out.later hb5
                    obtain ⟨j0, j1, j2, q0, q1, q2⟩ := hm5'.p.cells
                    have HM5 := Lib.hid (hm5'.set1 (bs (gapT z2 S (j + 1))))
                    clear hb5 hm5 hm5' d0 d1 d2 g0 g1 g2
                    go_wp2_with fail
                    go_roundw
                    case rel => exact ⟨j + 1, by omega, by rw [HY.out], by go_num, HM5.out⟩
                    case measure => simp [intOf] <;> omega
                  | false =>
                    obtain rfl : r = 0 := by have := hgn.symm; simpa using this
                    clear hgn
                    rw [if_neg (by simp)] at HST
                    rw [← HST.out] at HMX
                    go_wp2_with fail
                    go_roundw
                    case rel => exact ⟨j + 1, by omega, by rw [HY.out], by go_num, HMX.out⟩
                    case measure => simp [intOf] <;> omega
                · obtain rfl : j = m := by omega
                  rw [← HU2.out] at HX
                  clear d0 d1 d2 g0 g1 g2
                  obtain ⟨d0, d1, d2, g0, g1, g2⟩ := HX.out.p.cells
                  have hlen2 : u2.size = j := by rw [HU2.out]; exact hlen
                  clear hlen
                  obtain ⟨c0, c1, c2, f0, f1, f2⟩ := HX.out.res.cells
                  have HB := Lib.hid HX.out.below
                  clear HX
                  go_wp2_with fail
                  refine bodyPost_ret (v := .tuple #[.agg #[.string t2, .string u2, .int .i64 D], .bool true]) ?_ rfl ⟨rfl, three_below HB.out (by omega) _ _ _⟩
                  simp [results, Try.results26, go_sem, c0, c1, c2]
  · have h88 : s.size > 8 := by omega
    obtain rfl : G = false := by rw [hG, decide_eq_false h8]; simp
    rw [pzIf_false]
    obtain ⟨c0, c1, c2, f0, f1, f2⟩ := hM.res.cells
    have HB := Lib.hid hM.below
    clear hW hG hbs hsl hsz h8 hM
    go_enter Try.func26, Try.ntmps26
    go_wp2_with fail
    first
    | (refine bodyPost_ret (v := .tuple #[.agg #[.string ⟨#[]⟩, .string ⟨#[]⟩, .int .i64 0], .bool false]) ?_ rfl ⟨rfl, HB.out⟩
       simp [results, Try.results26, go_sem, c0, c1, c2])
    | (refine bodyPost_ret (v := .tuple #[.agg #[.string ⟨#[]⟩, .string ⟨#[]⟩, .int .i64 0], .bool false]) ?_ rfl ⟨rfl, three_below HB.out (by omega) _ _ _⟩
       simp [results, Try.results26, go_sem, c0, c1, c2])
end Go.Proofs.Ytplcdofpikdigaa
