/- Chapter 8: the model's names of numbers below a hundred, a thousand, a million. -/
import Derived.Test.YtlcbdmmmafpchaaDoorm8
namespace Go.Proofs.YtlcbdmmmafpchaaDoor
open Go.RowKit Go.BigFrame
set_option linter.unusedSimpArgs false
set_option linter.unusedVariables false
set_option maxRecDepth 4000

set_option maxHeartbeats 1000000 in
theorem naName100_any (n : Nat) (w : World) (h : n < 100) :
    Calls Tryd.prog 53 #[.int .i64 (n : Int)] w fun e w' => e = .returned (.string (bs (wd100 n))) ∧ Below w.heap.size w w' := by
  by_cases h1 : n < 20
  · have e : wd100 n = smN n := by unfold wd100; rw [if_pos h1]
    rw [e]
    clear e h
    have h1z : (n : Int) < 20 := by omega
    go_enter Tryd.func53, Tryd.ntmps53
    go_wp2_with fail
    refine (naSmall_any n _ h1).mono ?_
    rintro e w1 ⟨rfl, hb⟩
    have HB := Lib.hid hb; clear hb
    go_wp2_with fail
    go_ret
    exact ⟨rfl, HB.out⟩
  · have h1z : ¬ (n : Int) < 20 := by omega
    have h2z : (n : Int) < 100 := by omega
    have h20 : 20 ≤ n := by omega
    have ht := tnN_len (n / 10) (by omega)
    have hs := (smN_len (n % 10) (by omega)).2
    obtain ⟨T, hT⟩ : ∃ T, T = tnN (n / 10) := ⟨_, rfl⟩
    obtain ⟨S, hS⟩ : ∃ S, S = smN (n % 10) := ⟨_, rfl⟩
    have HT := Lib.hid (fun W => naTens_any n W h20 h)
    have HS := Lib.hid (fun W => naSmall_any (n % 10) W (by omega))
    have hm : (n : Int).tmod 10 = ((n % 10 : Nat) : Int) := by rw [Int.tmod_eq_emod_of_nonneg (by omega)]; omega
    obtain ⟨k, hk⟩ : ∃ k, k = n % 10 := ⟨_, rfl⟩
    rw [← hT] at HT ht; rw [← hS] at HS hs
    rw [← hk] at HS hm
    by_cases h3 : k = 0
    · have e : wd100 n = T := by unfold wd100; rw [if_neg h1, if_pos (by omega), hT]
      rw [e]
      subst h3
      clear e h hT hS hk HS hs
      go_enter Tryd.func53, Tryd.ntmps53
      go_wp2_with fail
      refine (HT.out _).mono ?_
      rintro e w1 ⟨rfl, hb⟩
      have HB := Lib.hid hb; clear hb
      go_wp2_with fail
      go_ret
      exact ⟨rfl, HB.out⟩
    · have e : wd100 n = T ++ [45] ++ S := by unfold wd100; rw [if_neg h1, if_neg (by omega), hT, hS]
      rw [e]
      have h3z : ((k : Int) == 0) = false := by simp; omega
      have b1 : (bs T).size = T.length := bs_size _
      have b2 : (bs S).size = S.length := bs_size _
      have b3 : (⟨#[45]⟩ : ByteArray).size = 1 := rfl
      have b4 : (bs T ++ (⟨#[45]⟩ : ByteArray)).size = T.length + 1 := by rw [ByteArray.size_append, b1]; rfl
      clear e h hT hS hk h3
      go_enter Tryd.func53, Tryd.ntmps53
      go_wp2_with fail
      refine (HT.out _).mono ?_
      rintro e w1 ⟨rfl, hb⟩
      have HB := Lib.hid hb; clear hb
      go_wp2_with fail
      refine (HS.out _).mono ?_
      rintro e w2 ⟨rfl, hb⟩
      have HB2 := Lib.hid hb; clear hb
      go_wp2_with fail
      go_ret
      exact ⟨ret_str (by rw [← bs_append, ← bs_append]; rfl), below_trans HB.out HB2.out⟩

set_option maxHeartbeats 1000000 in
set_option maxRecDepth 100000 in
theorem naName1000_any (n : Nat) (w : World) (h : n < 1000) :
    Calls Tryd.prog 53 #[.int .i64 (n : Int)] w fun e w' => e = .returned (.string (bs (nm1000 n))) ∧ Below w.heap.size w w' := by
  by_cases h1 : n < 100
  · have e : nm1000 n = wd100 n := by unfold nm1000; rw [if_pos h1]
    rw [e]
    exact naName100_any n w h1
  · have h1z : ¬ (n : Int) < 100 := by omega
    have h0z : ¬ (n : Int) < 20 := by omega
    have h2z : (n : Int) < 1000 := by omega
    have hs := (smN_len10 (n / 100) (by omega)).2
    have hr := wd100_len (n % 100) (by omega)
    obtain ⟨S, hS⟩ : ∃ S, S = smN (n / 100) := ⟨_, rfl⟩
    obtain ⟨T, hT⟩ : ∃ T, T = wd100 (n % 100) := ⟨_, rfl⟩
    have HS := Lib.hid (fun W => naSmall_any (n / 100) W (by omega))
    have HT := Lib.hid (fun W => naName100_any (n % 100) W (by omega))
    have hq : (n : Int).tdiv 100 = ((n / 100 : Nat) : Int) := by rw [Int.tdiv_eq_ediv_of_nonneg (by omega)]; omega
    have hm : (n : Int).tmod 100 = ((n % 100 : Nat) : Int) := by rw [Int.tmod_eq_emod_of_nonneg (by omega)]; omega
    have e : nm1000 n = S ++ [32] ++ hundredL ++ (if n % 100 = 0 then [] else [32] ++ T) := by unfold nm1000; rw [if_neg h1, hS, hT]
    obtain ⟨R, hR⟩ : ∃ R, R = nm1000 n := ⟨_, rfl⟩
    rw [← hR]
    rw [← hR] at e
    obtain ⟨k, hk⟩ : ∃ k, k = n % 100 := ⟨_, rfl⟩
    obtain ⟨q, hq'⟩ : ∃ q, q = n / 100 := ⟨_, rfl⟩
    have hqb : q ≤ 1000 := by omega
    have hqc : (0 : Int) ≤ (q : Int) := by omega
    rw [← hT] at HT hr; rw [← hS] at HS hs
    rw [← hk] at HT hm e
    rw [← hq'] at HS hq
    have b1 : (bs S).size = S.length := bs_size _
    have b2 : (bs T).size = T.length := bs_size _
    have b3 : (⟨#[32, 104, 117, 110, 100, 114, 101, 100]⟩ : ByteArray).size = 8 := rfl
    have b4 : (bs S ++ (⟨#[32, 104, 117, 110, 100, 114, 101, 100]⟩ : ByteArray)).size = S.length + 8 := by rw [ByteArray.size_append, b1]; rfl
    by_cases h3 : k = 0
    · have hres : bs S ++ (⟨#[32, 104, 117, 110, 100, 114, 101, 100]⟩ : ByteArray) = bs R := by rw [e, if_pos h3, List.append_nil, ← bs_append, ← bs_append, ByteArray.append_assoc]; rfl
      have HRES := Lib.hid hres
      subst h3
      clear hres hR e h hT hS hk HT hr hq'
      go_enter Tryd.func53, Tryd.ntmps53
      go_wp2_with fail
      refine (HS.out _).mono ?_
      rintro e w1 ⟨rfl, hb⟩
      have HB := Lib.hid hb; clear hb
      go_wp2_with fail
      go_ret
      exact ⟨ret_str HRES.out, HB.out⟩
    · have h3z : (k : Int) > 0 := by omega
      have h3p : 0 < (k : Int) := by omega
      have b5 : ((⟨#[32]⟩ : ByteArray) ++ bs T).size = T.length + 1 := by rw [ByteArray.size_append, b2, Nat.add_comm]; rfl
      have b6 : (⟨#[32]⟩ : ByteArray).size = 1 := rfl
      have hres : bs S ++ (⟨#[32, 104, 117, 110, 100, 114, 101, 100]⟩ : ByteArray) ++ ((⟨#[32]⟩ : ByteArray) ++ bs T) = bs R := by
        rw [e, if_neg h3]; simp only [← bs_append, ByteArray.append_assoc]; rfl
      have HRES := Lib.hid hres
      clear hres hR e h hT hS hk hq' h3
      go_enter Tryd.func53, Tryd.ntmps53
      go_wp2_with fail
      refine (HS.out _).mono ?_
      rintro e w1 ⟨rfl, hb⟩
      have HB := Lib.hid hb; clear hb
      go_wp2_with fail
      refine (HT.out _).mono ?_
      rintro e w2 ⟨rfl, hb⟩
      have HB2 := Lib.hid hb; clear hb
      go_wp2_with fail
      go_ret
      exact ⟨ret_str HRES.out, below_trans HB.out HB2.out⟩

set_option maxHeartbeats 1000000 in
theorem naName_any (n : Nat) (w : World) (h : n < 1000000) :
    Calls Tryd.prog 53 #[.int .i64 (n : Int)] w fun e w' => e = .returned (.string (bs (nmN n))) ∧ Below w.heap.size w w' := by
  by_cases h1 : n < 1000
  · have e : nmN n = nm1000 n := by unfold nmN; rw [if_pos h1]
    rw [e]
    exact naName1000_any n w h1
  · have h1z : ¬ (n : Int) < 100 := by omega
    have h0z : ¬ (n : Int) < 20 := by omega
    have h2z : ¬ (n : Int) < 1000 := by omega
    have hs := nm1000_len (n / 1000) (by omega)
    have hr := nm1000_len (n % 1000) (by omega)
    obtain ⟨S, hS⟩ : ∃ S, S = nm1000 (n / 1000) := ⟨_, rfl⟩
    obtain ⟨T, hT⟩ : ∃ T, T = nm1000 (n % 1000) := ⟨_, rfl⟩
    have HS := Lib.hid (fun W => naName1000_any (n / 1000) W (by omega))
    have HT := Lib.hid (fun W => naName1000_any (n % 1000) W (by omega))
    have hq : (n : Int).tdiv 1000 = ((n / 1000 : Nat) : Int) := by rw [Int.tdiv_eq_ediv_of_nonneg (by omega)]; omega
    have hm : (n : Int).tmod 1000 = ((n % 1000 : Nat) : Int) := by rw [Int.tmod_eq_emod_of_nonneg (by omega)]; omega
    have e : nmN n = S ++ [32] ++ thousandL ++ (if n % 1000 = 0 then [] else [32] ++ T) := by unfold nmN; rw [if_neg h1, hS, hT]
    obtain ⟨R, hR⟩ : ∃ R, R = nmN n := ⟨_, rfl⟩
    rw [← hR]
    rw [← hR] at e
    obtain ⟨k, hk⟩ : ∃ k, k = n % 1000 := ⟨_, rfl⟩
    obtain ⟨q, hq'⟩ : ∃ q, q = n / 1000 := ⟨_, rfl⟩
    have hqb : q ≤ 1000 := by omega
    have hqc : (0 : Int) ≤ (q : Int) := by omega
    rw [← hT] at HT hr; rw [← hS] at HS hs
    rw [← hk] at HT hm e
    rw [← hq'] at HS hq
    have b1 : (bs S).size = S.length := bs_size _
    have b2 : (bs T).size = T.length := bs_size _
    have b3 : (⟨#[32, 116, 104, 111, 117, 115, 97, 110, 100]⟩ : ByteArray).size = 9 := rfl
    have b4 : (bs S ++ (⟨#[32, 116, 104, 111, 117, 115, 97, 110, 100]⟩ : ByteArray)).size = S.length + 9 := by rw [ByteArray.size_append, b1]; rfl
    by_cases h3 : k = 0
    · have hres : bs S ++ (⟨#[32, 116, 104, 111, 117, 115, 97, 110, 100]⟩ : ByteArray) = bs R := by rw [e, if_pos h3, List.append_nil, ← bs_append, ← bs_append, ByteArray.append_assoc]; rfl
      have HRES := Lib.hid hres
      subst h3
      clear hres hR e h hT hS hk HT hr hq'
      go_enter Tryd.func53, Tryd.ntmps53
      go_wp2_with fail
      refine (HS.out _).mono ?_
      rintro e w1 ⟨rfl, hb⟩
      have HB := Lib.hid hb; clear hb
      go_wp2_with fail
      go_ret
      exact ⟨ret_str HRES.out, HB.out⟩
    · have h3z : (k : Int) > 0 := by omega
      have h3p : 0 < (k : Int) := by omega
      have b5 : ((⟨#[32]⟩ : ByteArray) ++ bs T).size = T.length + 1 := by rw [ByteArray.size_append, b2, Nat.add_comm]; rfl
      have b6 : (⟨#[32]⟩ : ByteArray).size = 1 := rfl
      have hres : bs S ++ (⟨#[32, 116, 104, 111, 117, 115, 97, 110, 100]⟩ : ByteArray) ++ ((⟨#[32]⟩ : ByteArray) ++ bs T) = bs R := by
        rw [e, if_neg h3]; simp only [← bs_append, ByteArray.append_assoc]; rfl
      have HRES := Lib.hid hres
      clear hres hR e h hT hS hk hq' h3
      go_enter Tryd.func53, Tryd.ntmps53
      go_wp2_with fail
      refine (HS.out _).mono ?_
      rintro e w1 ⟨rfl, hb⟩
      have HB := Lib.hid hb; clear hb
      go_wp2_with fail
      refine (HT.out _).mono ?_
      rintro e w2 ⟨rfl, hb⟩
      have HB2 := Lib.hid hb; clear hb
      go_wp2_with fail
      go_ret
      exact ⟨ret_str HRES.out, below_trans HB.out HB2.out⟩
end Go.Proofs.YtlcbdmmmafpchaaDoor
