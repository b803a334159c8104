/- Chapter 8: the program's words of names, all of them; NameOf and WordsOfName on both sides. -/
import Derived.Test.YtlcbdmmmafpchaaDoorma
namespace Go.Proofs.YtlcbdmmmafpchaaDoor
open Go.RowKit Go.BigFrame
set_option linter.unusedSimpArgs false
set_option linter.unusedVariables false
set_option maxRecDepth 4000

/-- A slice of texts of the call's own. -/
def WordsOk (B : Nat) (ls : List (List UInt8)) (w : World) (e : Ending) (w' : World) : Prop := ∃ v, e = .returned v ∧ Strs w' B v ls ∧ Below B w w'

set_option maxHeartbeats 1000000 in
theorem withRest_any (left : Nat) (hl : left < 1000000) (w : World) (v : Value) (ls R : List (List UInt8)) (B : Nat) (h : Strs w B v ls) (hne : ls ≠ []) (hRne : R ≠ []) (hB : B ≤ w.heap.size) (hls : ls.length ≤ 10) (hR : R.length ≤ 10)
    (hcall : left ≠ 0 → ∀ W, Below w.heap.size w W → Calls Tryd.prog 60 #[.int .i64 (left : Int)] W (WordsOk W.heap.size R W)) :
    Calls Tryd.prog 93 #[.int .i64 (left : Int), v] w (WordsOk B (ls ++ if left = 0 then [] else R) w) := by
  obtain ⟨i0, hi, hz0, hz1, hz2⟩ := info_parts info_sN
  by_cases h0 : left = 0
  · subst h0
    rw [if_pos rfl, List.append_nil]
    have H := Lib.hid h
    clear h hcall hl hi hz0 hz1 hz2
    go_enter Tryd.func93, Tryd.ntmps93
    go_wp2_with fail
    go_ret
    exact ⟨_, rfl, H.out, Below.refl _ _⟩
  · rw [if_neg h0]
    have HC := Lib.hid (hcall h0)
    have h0z : ((left : Int) == 0) = false := by simp; omega
    have H := Lib.hid h
    obtain ⟨N, hN⟩ : ∃ N, N = ls.length := ⟨_, rfl⟩
    obtain ⟨M, hM⟩ : ∃ M, M = R.length := ⟨_, rfl⟩
    have HN := Lib.hid hN; have HM := Lib.hid hM; have HNE := Lib.hid hne; have HRNE := Lib.hid hRne
    rw [← hN] at hls; rw [← hM] at hR
    clear h hcall h0 hN hM hne hRne
    go_enter Tryd.func93, Tryd.ntmps93
    go_wp2_with fail
    refine (HC.out _ (Below.refl _ _)).mono ?_
    rintro e w1 ⟨u, rfl, hs1, hb1⟩
    obtain ⟨g2, c2, hu, hBg2, hg2, _, _, hcell2⟩ := strs_parts hs1 HRNE.out
    have hs2 := own_below H.out hb1
    have HS2 := Lib.hid hs2; have HB1 := Lib.hid hb1; have HC2 := Lib.hid hcell2
    rw [← HM.out] at hu
    subst hu
    have HSZ := Lib.hid hb1.size
    clear hs1 hb1 hs2 hcell2
    go_wp2_with (at_builtin; refine wpList_app _ rfl _ _ 32 rfl B 9 i0 (.string ⟨#[]⟩) 16 Tryd.underlying32 hi hz0 hz1 hz2 rfl v N _ rfl (HN.out ▸ HS2.out) ⟨g2, 0, none⟩ M c2 (R.map (fun l => .string (bs l))) rfl (by rw [HM.out]; simp) ?c1 ?c2 ?c3 ?c4 ?c5 ?_)
    case c1 =>
      intro j x hj
      obtain ⟨hjl, e⟩ := List.getElem?_eq_some_iff.1 hj
      have hjl' : j < R.length := by simpa using hjl
      have hadd : (⟨g2, 0, none⟩ : Addr).add j = ⟨g2, j, none⟩ := by unfold Addr.add; split <;> simp_all
      rw [hadd, HC2.out j hjl', ← e]; simp
    case c2 =>
      intro x hx
      obtain ⟨l, _, rfl⟩ := List.mem_map.1 hx
      rfl
    case c3 => unfold maxLen; omega
    case c4 => omega
    case c5 => exact Nat.le_trans hB HSZ.out
    intro v' w3 hown' hgrow _
    have R1 := Lib.hid hown'
    have R2 := Lib.hid (((HB1.out.mono hB).grown hgrow (Nat.le_trans hB HSZ.out) (fun q hq => (H.out.lt q hq).1)))
    clear hown' hgrow
    go_wp2_with fail
    go_ret
    refine ⟨_, rfl, ?_, R2.out⟩
    have := R1.out
    unfold Strs
    rw [List.length_append, List.map_append, ← HN.out, ← HM.out]
    exact this

set_option maxHeartbeats 1000000 in
set_option maxRecDepth 100000 in
theorem words1000_any (n : Nat) (w : World) (h : n < 1000) (NA : NamesAt w) :
    Calls Tryd.prog 60 #[.int .i64 (n : Int)] w (WordsOk w.heap.size (wd1000 n) w) := by
  by_cases h1 : n < 100
  · have e : wd1000 n = [wd100 n] := by unfold wd1000; rw [if_pos h1]
    rw [e]
    refine (words100_any n w h1 NA).mono ?_
    rintro e w' ⟨rfl, rfl⟩
    exact ⟨_, rfl, own_lit w w.heap.size 9 [.string (bs (wd100 n))] (Nat.le_refl _) (by simp [maxLen]), below_alloc _ _⟩
  · have h0z : ¬ (n : Int) < 20 := by omega
    have h1z : ¬ (n : Int) < 100 := by omega
    have h2z : (n : Int) < 1000 := by omega
    obtain ⟨S, hS⟩ : ∃ S, S = smN (n / 100) := ⟨_, rfl⟩
    obtain ⟨T, hT⟩ : ∃ T, T = wd100 (n % 100) := ⟨_, rfl⟩
    have e : wd1000 n = [S, hundredL] ++ (if n % 100 = 0 then [] else [T]) := by unfold wd1000; rw [if_neg h1, hS, hT]
    rw [e]
    have hq : (n : Int).tdiv 100 = ((n / 100 : Nat) : Int) := by rw [Int.tdiv_eq_ediv_of_nonneg (by omega)]; omega
    have hm : (n : Int).tmod 100 = ((n % 100 : Nat) : Int) := by rw [Int.tmod_eq_emod_of_nonneg (by omega)]; omega
    have c1 := NA.small (n / 100) (by omega)
    rw [← hS] at c1
    have HW := Lib.hid (fun (W : World) (hW : Below w.heap.size w W) => words100_any (n % 100) W (by omega) (NA.below hW))
    rw [← hT] at HW
    obtain ⟨k, hk⟩ : ∃ k, k = n % 100 := ⟨_, rfl⟩
    obtain ⟨q, hq'⟩ : ∃ q, q = n / 100 := ⟨_, rfl⟩
    rw [← hk] at hm HW ⊢; rw [← hq'] at hq c1
    obtain ⟨L, hL⟩ : ∃ L, L = [S, hundredL] ++ (if k = 0 then [] else [T]) := ⟨_, rfl⟩
    rw [← hL]
    have HL := Lib.hid hL
    have hqb : q ≤ 9 := by omega
    have hkb : k ≤ 99 := by omega
    have hlit := own_lit w w.heap.size 9 [.string (bs S), .string (bs hundredL)] (Nat.le_refl _) (by simp [maxLen])
    have HR := Lib.hid (withRest_any k (by omega) (w.alloc (.cells #[.string (bs S), .string ⟨#[104, 117, 110, 100, 114, 101, 100]⟩] 9)) (.slice (some ⟨w.heap.size, 0, none⟩) 2 2) [S, hundredL] [T] w.heap.size hlit (by simp) (by simp) (by simp) (by simp) (by simp) (fun _ W hW => (HW.out W (below_trans (below_alloc _ _) hW)).mono fun e w' ⟨he, hw⟩ => ⟨_, he, by rw [hw]; exact own_lit W W.heap.size 9 [.string (bs T)] (Nat.le_refl _) (by simp [maxLen]), by rw [hw]; exact below_alloc _ _⟩))
    rw [← hL] at HR
    clear e h hT hS hk HW hlit NA hq' hL
    go_enter Tryd.func60, Tryd.ntmps60
    go_wp2_with fail
    refine HR.out.mono ?_
    rintro e w1 ⟨u, rfl, hs1, hb1⟩
    have H1 := Lib.hid hs1; have H2 := Lib.hid hb1
    clear hs1 hb1
    go_wp2_with fail
    go_ret
    exact ⟨_, rfl, H1.out, (below_alloc _ _).trans H2.out⟩

set_option maxHeartbeats 1000000 in
set_option maxRecDepth 100000 in
theorem words_any (n : Nat) (w : World) (h : n < 1000000) (NA : NamesAt w) :
    Calls Tryd.prog 60 #[.int .i64 (n : Int)] w (WordsOk w.heap.size (wdsN n) w) := by
  obtain ⟨i0, hi, hz0, hz1, hz2⟩ := info_parts info_sN
  by_cases h1 : n < 1000
  · have e : wdsN n = wd1000 n := by unfold wdsN; rw [if_pos h1]
    rw [e]
    exact words1000_any n w h1 NA
  · have h0z : ¬ (n : Int) < 20 := by omega
    have h1z : ¬ (n : Int) < 100 := by omega
    have h2z : ¬ (n : Int) < 1000 := by omega
    obtain ⟨S, hS⟩ : ∃ S, S = wd1000 (n / 1000) := ⟨_, rfl⟩
    obtain ⟨T, hT⟩ : ∃ T, T = wd1000 (n % 1000) := ⟨_, rfl⟩
    have e : wdsN n = (S ++ [thousandL]) ++ (if n % 1000 = 0 then [] else T) := by unfold wdsN; rw [if_neg h1, hS, hT]
    rw [e]
    have hq : (n : Int).tdiv 1000 = ((n / 1000 : Nat) : Int) := by rw [Int.tdiv_eq_ediv_of_nonneg (by omega)]; omega
    have hm : (n : Int).tmod 1000 = ((n % 1000 : Nat) : Int) := by rw [Int.tmod_eq_emod_of_nonneg (by omega)]; omega
    have HA := Lib.hid (fun (W : World) (hW : Below w.heap.size w W) => words1000_any (n / 1000) W (by omega) (NA.below hW))
    have HW := Lib.hid (fun (W : World) (hW : Below w.heap.size w W) => words1000_any (n % 1000) W (by omega) (NA.below hW))
    have hsl := wd1000_len (n / 1000)
    have htl := wd1000_len (n % 1000)
    have hsn := wd1000_ne (n / 1000)
    have htn := wd1000_ne (n % 1000)
    rw [← hT] at HW htl htn; rw [← hS] at HA hsl hsn
    obtain ⟨k, hk⟩ : ∃ k, k = n % 1000 := ⟨_, rfl⟩
    obtain ⟨q, hq'⟩ : ∃ q, q = n / 1000 := ⟨_, rfl⟩
    rw [← hk] at hm HW ⊢; rw [← hq'] at hq HA
    obtain ⟨L, hL⟩ : ∃ L, L = (S ++ [thousandL]) ++ (if k = 0 then [] else T) := ⟨_, rfl⟩
    rw [← hL]
    have hqb : q ≤ 999 := by omega
    have hkb : k ≤ 999 := by omega
    obtain ⟨M, hM⟩ : ∃ M, M = S.length := ⟨_, rfl⟩
    have HM := Lib.hid hM
    rw [← hM] at hsl
    have HR := Lib.hid (fun (W : World) (v : Value) (hW : Below w.heap.size w W) (hs : Strs W w.heap.size v (S ++ [thousandL])) => withRest_any k (by omega) W v (S ++ [thousandL]) T w.heap.size hs (by simp) htn hW.size (by simp; omega) (by omega) (fun _ W2 hW2 => HW.out W2 (below_trans hW hW2)))
    have HSN := Lib.hid hsn
    rw [← hL] at HR
    clear e h hT hS hk HW NA hM hsn htn hq' hL
    go_enter Tryd.func60, Tryd.ntmps60
    go_wp2_with fail
    refine (HA.out _ (below_refl _)).mono ?_
    rintro e w1 ⟨u, rfl, hs1, hb1⟩
    obtain ⟨g1, c1, hu, hBg, hg, _, _, _⟩ := strs_parts hs1 HSN.out
    rw [← HM.out] at hu
    subst hu
    have H2 := Lib.hid hb1
    have HSZ := Lib.hid hb1.size
    have hown1 : w1.ownsRow w.heap.size 9 1 (.slice (some ⟨g1, 0, none⟩) M c1) M (S.map (fun l => .string (bs l))) := by have := hs1; unfold Strs at this; rw [← HM.out] at this; exact this
    have H1 := Lib.hid hown1
    clear hs1 hb1 hown1
    go_wp2_with (at_builtin; refine wpList_app _ rfl _ _ 32 rfl w.heap.size 9 i0 (.string ⟨#[]⟩) 16 Tryd.underlying32 hi hz0 hz1 hz2 rfl _ M _ rfl (H1.out.alloc _) ⟨w1.heap.size, 0, none⟩ 1 1 [.string (bs thousandL)] rfl rfl ?c1 ?c2 ?c3 ?c4 ?c5 ?_)
    case c1 =>
      intro j x hj
      match j, hj with
      | 0, hj =>
        simp at hj
        subst hj
        simp [Addr.add]
        rfl
      | j + 1, hj => simp at hj
    case c2 => intro x hx; simp at hx; subst hx; rfl
    case c3 => unfold maxLen; omega
    case c4 => omega
    case c5 => have := HSZ.out; simp; omega
    intro v' w3 hown' hgrow _
    have hb3 : Below w.heap.size w w3 := (H2.out.alloc HSZ.out _).grown hgrow (by have := HSZ.out; simp; omega) (fun q hq => by simp only [Value.ownBlock] at hq; cases hq; exact hBg)
    have hs3 : Strs w3 w.heap.size v' (S ++ [thousandL]) := by
      have := hown'
      unfold Strs
      rw [List.length_append, List.map_append, ← HM.out]
      exact this
    have HR3 := Lib.hid (HR.out w3 v' hb3 hs3)
    have HB3 := Lib.hid hb3
    obtain ⟨g4, c4, hv4, _⟩ := strs_parts hs3 (by simp)
    have hlen4 : (S ++ [thousandL]).length = M + 1 := by rw [List.length_append, ← HM.out]; rfl
    rw [hlen4] at hv4
    subst hv4
    clear hown' hgrow hs3 hb3 hlen4
    go_wp2_with fail
    (with_reducible refine HR3.out.mono ?_)
    rintro e w4 ⟨u, rfl, hs4, hb4⟩
    have H4 := Lib.hid hs4; have H5 := Lib.hid hb4
    clear hs4 hb4
    go_wp2_with fail
    go_ret
    exact ⟨_, rfl, H4.out, HB3.out.trans H5.out⟩
end Go.Proofs.YtlcbdmmmafpchaaDoor
