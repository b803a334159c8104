/- SmoothInOwn: how often a smooth word stands in the own word of 1 and 2. -/
import Derived.Test.YtkjmocdhhndlgaaGreatDoorD11
import Derived.Test.YtkjmocdhhndlgaaGreatDoorO3
import Derived.Shelf.Strings.Prefix
namespace Go.Proofs.YtkjmocdhhndlgaaGreatDoor
open Go.RowKit Go.BigFrame Go.Shelf
set_option linter.unusedSimpArgs false
set_option linter.unusedVariables false
set_option maxRecDepth 4000

def hitB (l T : List UInt8) (i : Nat) : Bool := l.isPrefixOf (T.drop i)
def occ (l T : List UInt8) : Nat → Nat
  | 0 => 0
  | k + 1 => occ l T k + (if hitB l T k = true then 1 else 0)
theorem occ_le (l T : List UInt8) : ∀ k, occ l T k ≤ k
  | 0 => Nat.le_refl _
  | k + 1 => by have := occ_le l T k; unfold occ; split <;> omega
theorem hit_no {l T : List UInt8} {i : Nat} (h : T.length < i + l.length) (hi : i ≤ T.length) : hitB l T i = false := by
  unfold hitB
  cases h2 : l.isPrefixOf (T.drop i) with
  | false => rfl
  | true =>
    have := (List.isPrefixOf_iff_prefix.1 h2).length_le
    rw [List.length_drop] at this; omega
theorem occ_end (l T : List UInt8) (m : Nat) (h : T.length < m + l.length) : ∀ j, m + j ≤ T.length → occ l T (m + j) = occ l T m
  | 0, _ => rfl
  | j + 1, hj => by
    rw [← Nat.add_assoc, occ, occ_end l T m h j (by omega), hit_no (by omega) (by omega)]; rfl
def sameB (l T : List UInt8) (i k : Nat) : Bool := decide (l.take k = (T.drop i).take k)
theorem same_zero (l T : List UInt8) (i : Nat) : sameB l T i 0 = true := by unfold sameB; simp
theorem same_all (l T : List UInt8) (i : Nat) : sameB l T i l.length = hitB l T i := by
  unfold sameB hitB
  rw [List.take_length, Bool.eq_iff_iff, decide_eq_true_eq, List.isPrefixOf_iff_prefix]
  exact List.prefix_iff_eq_take.symm
theorem same_succ (l T : List UInt8) (i k : Nat) (h1 : k < l.length) (h2 : i + k < T.length) : sameB l T i (k + 1) = (sameB l T i k && decide (T[i + k] = l[k])) := by
  unfold sameB
  have h3 : k < (T.drop i).length := by rw [List.length_drop]; omega
  rw [List.take_succ_eq_append_getElem h1, List.take_succ_eq_append_getElem h3, Bool.eq_iff_iff]
  simp only [decide_eq_true_eq, Bool.and_eq_true, List.getElem_drop]
  constructor
  · intro e
    have := List.append_inj' e rfl
    exact ⟨this.1, by have := this.2; simp at this; exact this.symm⟩
  · rintro ⟨e1, e2⟩; rw [e1, e2]
theorem gOwn_take (a b n m : Nat) (h : n = m ∨ n = 0) : gOwn a b n = (gOwn a b m).take n := by
  rcases h with rfl | rfl
  · unfold gOwn; rw [List.take_take, Nat.min_self]
  · unfold gOwn; simp
theorem sgn_byte {x : Nat} {c : UInt8} (hx : x ≤ 9) (hc : 48 ≤ c.toNat) : decide (sgn x = c) = ((x : Int) == (c.toNat : Int) - 48) := by
  rw [Bool.eq_iff_iff, decide_eq_true_eq, beq_iff_eq]
  have e : (sgn x).toNat = 48 + x := by unfold sgn; rw [UInt8.toNat_ofNat']; exact Nat.mod_eq_of_lt (by omega)
  constructor
  · intro h; have := congrArg UInt8.toNat h; omega
  · intro h; apply UInt8.toNat.inj; omega
theorem low_at {l : List UInt8} (h : lowB l = true) (k : Nat) (hk : k < l.length) : ∃ x : Nat, (x = 1 ∨ x = 2) ∧ l[k] = sgn x := by
  unfold lowB at h
  rw [Bool.and_eq_true] at h
  have h2 := List.all_eq_true.1 h.2 _ (List.getElem_mem hk)
  unfold onB at h2
  simp only [Bool.or_eq_true, beq_iff_eq] at h2
  rcases h2 with h2 | h2
  · exact ⟨1, .inl rfl, h2⟩
  · exact ⟨2, .inr rfl, h2⟩
theorem sgn_dec {d x : Nat} (hd : d = 1 ∨ d = 2) (hx : x = 1 ∨ x = 2) : decide (sgn d = sgn x) = decide (d = x) := by
  rcases hd with rfl | rfl <;> rcases hx with rfl | rfl <;> rfl
theorem bs_at (l : List UInt8) (k : Nat) (h : k < l.length) : (bs l)[k]'(by rw [bs_size]; exact h) = l[k] := rfl
def soB (l : List UInt8) (most : Int) : Bool := (depO l).isSome && decide (l ≠ []) && decide (0 ≤ most ∧ most ≤ 5000)
def soN (l : List UInt8) (most : Int) : Nat := occ l (sgL (gOwn 1 2 most.toNat)) most.toNat
def soV (l : List UInt8) (most : Int) : Value := .tuple #[.int .i64 (if soB l most = true then (soN l most : Int) else 0), .bool (soB l most)]
theorem soV_no {l : List UInt8} {most : Int} (h : soB l most = false) : soV l most = .tuple #[.int .i64 0, .bool false] := by unfold soV; rw [h]; rfl
theorem soV_yes {l : List UInt8} {most : Int} (h : soB l most = true) : soV l most = .tuple #[.int .i64 (soN l most : Int), .bool true] := by unfold soV; rw [h]; rfl
theorem dep_low {l : List UInt8} (h : lowB l = false) : depO l = none := by unfold depO; rw [h]; rfl

set_option maxHeartbeats 2000000 in
theorem specSmoothInOwn_any (l : List UInt8) (most : Int) (w : World) (hs : l.length ≤ maxLen) :
    Calls Tryz.prog 26 #[.string (bs l), .int .i64 most] w fun e w' => e = .returned (soV l most) ∧ Below w.heap.size w w' := by
  have hlo := ruLow_any (bs l) w (by rw [bs_size]; exact hs)
  rw [bs_list] at hlo
  have HLO := Lib.hid hlo; clear hlo
  cases h1 : lowB l with
  | false =>
    rw [soV_no (by unfold soB; rw [dep_low h1]; rfl)]
    have H1 := Lib.hid h1; clear h1 hs
    go_enter Tryz.func26, Tryz.ntmps26
    go_wp2_with fail
    refine HLO.out.mono ?_
    rintro e w1 ⟨rfl, rfl⟩
    rw [H1.out]
    go_wp2_with fail
    go_ret2
    exact ⟨rfl, Below.refl _ _⟩
  | true =>
    by_cases h2 : l = []
    · subst h2
      rw [soV_no (by unfold soB; simp)]
      have H1 := Lib.hid h1; clear h1 hs
      have hz : (bs ([] : List UInt8)).size = 0 := rfl
      go_enter Tryz.func26, Tryz.ntmps26
      go_wp2_with fail
      refine HLO.out.mono ?_
      rintro e w1 ⟨rfl, rfl⟩
      rw [H1.out]
      go_wp2_with fail
      go_ret2
      exact ⟨rfl, Below.refl _ _⟩
    · obtain ⟨L, hL⟩ : ∃ L, L = l.length := ⟨_, rfl⟩
      have hsz : (bs l).size = L := by rw [bs_size, hL]
      have hL1 : 1 ≤ L := by rw [hL]; exact List.length_pos_iff.2 h2
      have hL60 : L ≤ 60 := by rw [hL]; unfold lowB at h1; simp only [Bool.and_eq_true, decide_eq_true_eq] at h1; exact h1.1
      cases h3 : decide (0 ≤ most ∧ most ≤ 5000) with
      | false =>
        rw [soV_no (by unfold soB; rw [h3]; simp)]
        have H1 := Lib.hid h1; have H3 := Lib.hid h3; clear h1 hs h2 h3 hL
        go_enter Tryz.func26, Tryz.ntmps26
        go_wp2_with fail
        refine HLO.out.mono ?_
        rintro e w1 ⟨rfl, rfl⟩
        rw [H1.out]
        go_wp2_with fail
        refine (l1In_is false _ _ _ _ H3.out).mono ?_
        rintro e w1 ⟨rfl, rfl⟩
        go_wp2_with fail
        go_ret2
        exact ⟨rfl, Below.refl _ _⟩
      | true =>
        have hru := fun (W : World) => ruDepth_any l W h1
        obtain ⟨dx, hxy⟩ := depV_ok (depO l)
        rw [hxy] at hru
        have HRU := Lib.hid hru; clear hru hxy
        cases h4 : (depO l).isSome with
        | false =>
          rw [soV_no (by unfold soB; rw [h4]; rfl)]
          rw [h4] at HRU
          have H1 := Lib.hid h1; have H3 := Lib.hid h3; clear h1 hs h2 h3 h4 hL
          go_enter Tryz.func26, Tryz.ntmps26
          go_wp2_with fail
          refine HLO.out.mono ?_
          rintro e w1 ⟨rfl, rfl⟩
          rw [H1.out]
          go_wp2_with fail
          refine (l1In_is true _ _ _ _ H3.out).mono ?_
          rintro e w1 ⟨rfl, rfl⟩
          go_wp2_with fail
          refine (HRU.out _).mono ?_
          rintro e w1 ⟨rfl, hb⟩
          have HB := Lib.hid hb; clear hb
          go_wp2_with fail
          go_ret2
          exact ⟨rfl, HB.out⟩
        | true =>
          rw [soV_yes (by unfold soB; rw [h4, h3, decide_eq_true h2]; rfl)]
          rw [h4] at HRU
          have hm := of_decide_eq_true h3
          obtain ⟨N, rfl⟩ : ∃ N : Nat, most = (N : Int) := ⟨most.toNat, by omega⟩
          have hN : N ≤ 5000 := by omega
          obtain ⟨M, hM⟩ : ∃ M, M = max 1 N := ⟨_, rfl⟩
          have hM1 : 1 ≤ M := by omega
          have hM2 : M ≤ 5000 := by omega
          have hNM : N ≤ M := by omega
          have hmax : max (1 : Int) (N : Int) = (M : Int) := by omega
          unfold soN
          rw [Int.toNat_natCast]
          have htk := gOwn_take 1 2 N M (by omega)
          have hgl := gOwn_len 1 2 N (by omega) (by omega)
          have hgm := gOwn_mem 1 2 N
          obtain ⟨ds, hds⟩ : ∃ ds, ds = gOwn 1 2 N := ⟨_, rfl⟩
          rw [← hds] at htk hgl hgm ⊢
          have HO := Lib.hid (fun (W : World) => ruOwnC_any 1 2 M W ⟨by omega, by omega⟩ ⟨by omega, by omega⟩ hM1 (by omega))
          have hll := l1Most_is 1 (N : Int) (M : Int)
          have HMX := Lib.hid hmax
          obtain ⟨T, hT⟩ : ∃ T, T = sgL ds := ⟨_, rfl⟩
          rw [← hT]
          have hTl : T.length = N := by rw [hT]; unfold sgL; rw [List.length_map, hgl]
          have H1 := Lib.hid h1; have H3 := Lib.hid h3; have HTK := Lib.hid htk; have HGL := Lib.hid hgl; have HGM := Lib.hid hgm; have HT := Lib.hid hT; have HTL := Lib.hid hTl; have HL := Lib.hid hL
          clear h1 hs h2 h3 h4 hL hm hM htk hgl hgm hds hmax hll hT hTl
          go_enter Tryz.func26, Tryz.ntmps26
          go_wp2_with fail
          refine HLO.out.mono ?_
          rintro e w1 ⟨rfl, rfl⟩
          rw [H1.out]
          go_wp2_with fail
          refine (l1In_is true _ _ _ _ H3.out).mono ?_
          rintro e w1 ⟨rfl, rfl⟩
          go_wp2_with fail
          refine (HRU.out _).mono ?_
          rintro e w1 ⟨rfl, hb⟩
          have HB := Lib.hid hb; clear hb
          go_wp2_with fail
          refine (l1Most_is 1 (N : Int) (M : Int) _ HMX.out).mono ?_
          rintro e w2 ⟨rfl, rfl⟩
          go_wp2_with fail
          refine (HO.out _).mono ?_
          rintro e w2 ⟨v, rfl, ⟨⟨g, cap, rfl, _, hg, hc⟩, ⟨_, cp, hv, hMc, hcp⟩⟩, hb⟩
          injection hv with hv1 hv2 hv3
          subst hv3
          rw [hv2]
          have hcd : ∀ i (hi : i < N), ∃ d : Nat, (d = 1 ∨ d = 2) ∧ T[i]? = some (sgn d) ∧ w2.cell? ⟨g, i, none⟩ = some (.int .i64 (d : Int)) := by
            intro i hi
            have hid : i < ds.length := by rw [HGL.out]; exact hi
            refine ⟨ds[i], HGM.out _ (List.getElem_mem hid), ?_, ?_⟩
            · rw [HT.out]; unfold sgL; rw [List.getElem?_map, List.getElem?_eq_getElem hid]; rfl
            · rw [hc i (by rw [hv2]; omega)]
              have : ds[i] = (gOwn 1 2 M)[i]'(by rw [hv2]; omega) := by simp only [HTK.out, List.getElem_take]
              rw [this]
          have HCD := Lib.hid hcd; have HB2 := Lib.hid (below_trans HB.out hb)
          clear hcd hc hv1 hv2 hb
          go_wp2_with fail
          go_loopw [9, 10] (fun cv iv wr => ∃ (i m : Nat), cv = .int .i64 (m : Int) ∧ iv = .int .i64 (i : Int) ∧ i ≤ N ∧ m ≤ i ∧ Hid (m = occ l T i ∧ Below w2.heap.size w2 wr)) (fun _ iv _ => N - (intOf iv).toNat)
          case atStart => exact ⟨0, 0, rfl, rfl, Nat.zero_le _, Nat.le_refl _, rfl, Below.refl _ _⟩
          case round =>
            obtain ⟨i, m, rfl, rfl, hiN, hmi, HX⟩ := hrel
            by_cases hlt : i + L ≤ N
            · go_wp2_with fail
              go_loopw [11, 12] (fun sv kv wk => ∃ (k : Nat), sv = .bool (sameB l T i k) ∧ kv = .int .i64 (k : Int) ∧ k ≤ L ∧ Hid (Below w2.heap.size w2 wk)) (fun _ kv _ => L - (intOf kv).toNat)
              case atStart => exact ⟨0, by rw [same_zero], rfl, Nat.zero_le _, HX.out.2⟩
              case round =>
                rename World => wk
                obtain ⟨k, rfl, rfl, hkL, HK⟩ := hrel
                by_cases hk : k < L
                · obtain ⟨d, hd12, hTd, hcell⟩ := HCD.out (i + k) (by omega)
                  have hcw : wk.cell? ⟨g, i + k, none⟩ = some (.int .i64 (d : Int)) := (HK.out.cell (p := ⟨g, i + k, none⟩) hg).trans hcell
                  have hkl : k < l.length := by rw [← HL.out]; exact hk
                  obtain ⟨x, hx12, hxb⟩ := low_at H1.out k hkl
                  have hst := same_succ l T i k hkl (by rw [HTL.out]; omega)
                  have hTd2 : T[i + k]'(by rw [HTL.out]; omega) = sgn d := by rw [List.getElem?_eq_getElem (by rw [HTL.out]; omega)] at hTd; exact Option.some.inj hTd
                  rw [hTd2, hxb, sgn_dec hd12 hx12] at hst
                  have hbk : (((bs l)[k]'(by rw [bs_size]; exact hkl)).toNat : Int) - 48 = (x : Int) := by
                    rw [bs_at l k hkl, hxb]
                    rcases hx12 with rfl | rfl <;> rfl
                  have hb1 : 48 ≤ ((bs l)[k]'(by rw [bs_size]; exact hkl)).toNat := by omega
                  have hxm : ((x : Int) % 256) = (x : Int) := by omega
                  have hkb : k < (bs l).size := by rw [bs_size]; exact hkl
                  have HST := Lib.hid hst
                  have hgk : g < wk.heap.size := Nat.lt_of_lt_of_le hg HK.out.size
                  obtain ⟨sb, hsb⟩ : ∃ sb, sb = sameB l T i k := ⟨_, rfl⟩
                  rw [← hsb] at HST ⊢
                  clear hst hTd hTd2 hcell hxb hsb
                  cases sb with
                  | false =>
                    go_wp2_with fail
                    go_quiet (fail)
                    go_wp2_with fail
                    go_roundw
                    case rel => exact ⟨k + 1, by rw [HST.out]; rfl, by go_num, by omega, HK.out.trans (belowN _ _ _)⟩
                    case measure => simp [intOf] <;> omega
                  | true =>
                    by_cases hdx : d = x
                    · have hdd : ((d : Int) == (x : Int)) = true := by simp [hdx]
                      have HDX := Lib.hid hdx; clear hdx
                      go_wp2_with fail
                      go_quiet (fail)
                      go_wp2_with fail
                      go_roundw
                      case rel => exact ⟨k + 1, by rw [HST.out, decide_eq_true HDX.out]; simp [hdd], by go_num, by omega, HK.out.trans (belowN _ _ _)⟩
                      case measure => simp [intOf] <;> omega
                    · have hdd : ((d : Int) == (x : Int)) = false := by simp; omega
                      go_wp2_with fail
                      go_quiet (fail)
                      go_wp2_with fail
                      go_roundw
                      case rel => exact ⟨k + 1, by rw [HST.out, decide_eq_false hdx]; simp [hdd], by go_num, by omega, HK.out.trans (belowN _ _ _)⟩
                      case measure => simp [intOf] <;> omega
                · obtain rfl : k = L := by omega
                  have hha : sameB l T i k = hitB l T i := by rw [HL.out]; exact same_all l T i
                  have hos : occ l T (i + 1) = occ l T i + (if hitB l T i = true then 1 else 0) := rfl
                  rw [hha]
                  have HOS := Lib.hid hos; clear hos hha
                  cases hh : hitB l T i with
                  | false =>
                    rw [hh] at HOS
                    go_wp2_with fail
                    go_roundw
                    case rel => exact ⟨i + 1, m, rfl, by go_num, by omega, by omega, by rw [HOS.out, HX.out.1]; rfl, HK.out⟩
                    case measure => simp [intOf] <;> omega
                  | true =>
                    rw [hh] at HOS
                    go_wp2_with fail
                    go_roundw
                    case rel => exact ⟨i + 1, m + 1, by go_num, by go_num, by omega, by omega, by rw [HOS.out, HX.out.1]; rfl, HK.out⟩
                    case measure => simp [intOf] <;> omega
            · have hend := occ_end l T i (by rw [HTL.out, ← HL.out]; omega) (N - i) (by rw [HTL.out]; omega)
              rw [show i + (N - i) = N by omega] at hend
              have HE := Lib.hid hend; clear hend
              go_wp2_with fail
              go_ret2
              exact ⟨by rw [HE.out, ← HX.out.1]; rfl, below_trans HB2.out HX.out.2⟩
end Go.Proofs.YtkjmocdhhndlgaaGreatDoor
