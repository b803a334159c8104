/- AllOwn: the model's taPairs (a recursion). -/
import Derived.Test.YtaagfcdniacmnabQ11
import Derived.Test.YtaagfcdniacmnabV1
namespace Go.Proofs.Ytaagfcdniacmnab
open Go.RowKit Go.BigFrame
set_option linter.unusedSimpArgs false
set_option linter.unusedVariables false
set_option maxRecDepth 4000

theorem prs_len (mo : Nat) : ∀ (m d : Nat) (b : List UInt8), (prs mo m d b).length = (mo + 1) ^ m
  | 0, _, _ => rfl
  | m + 1, d, b => by
    rw [prs, List.length_append, prs_len mo m (d + 1) b, List.length_flatMap]
    have : ((List.range' 1 mo).map fun n => (prs mo m (d + 1) (b ++ numL n ++ numL (d + 1))).length).sum = mo * (mo + 1) ^ m := by
      have h : ∀ l : List Nat, (l.map fun n => (prs mo m (d + 1) (b ++ numL n ++ numL (d + 1))).length).sum = l.length * (mo + 1) ^ m := by
        intro l
        induction l with
        | nil => simp
        | cons x l ih => rw [List.map_cons, List.sum_cons, ih, prs_len mo m (d + 1) _, List.length_cons, Nat.succ_mul, Nat.add_comm]
      rw [h, List.length_range']
    rw [this, Nat.pow_succ, Nat.mul_comm, Nat.mul_succ, Nat.mul_comm ((mo + 1) ^ m) mo, Nat.add_comm]
def prsK (mo m d : Nat) (b : List UInt8) (k : Nat) : List (List UInt8) := prs mo m (d + 1) b ++ (List.range' 1 k).flatMap fun n => prs mo m (d + 1) (b ++ numL n ++ numL (d + 1))
theorem prsK_succ (mo m d : Nat) (b : List UInt8) (k : Nat) : prsK mo m d b (k + 1) = prsK mo m d b k ++ prs mo m (d + 1) (b ++ numL (k + 1) ++ numL (d + 1)) := by
  unfold prsK
  rw [List.range'_concat, List.flatMap_append, List.append_assoc]
  congr 2
  simp [Nat.add_comm]
theorem prsK_len (mo m d : Nat) (b : List UInt8) : ∀ k, (prsK mo m d b k).length = (k + 1) * (mo + 1) ^ m
  | 0 => by simp [prsK, prs_len]
  | k + 1 => by rw [prsK_succ, List.length_append, prsK_len mo m d b k, prs_len, Nat.succ_mul (k + 1)]

set_option maxHeartbeats 2000000 in
theorem taPairs_step (mo m d : Nat) (b : List UInt8) (w : World) (h1 : 1 ≤ mo) (h6 : mo ≤ 6) (hd : d + (m + 1) = mo) (hb : b.length ≤ 2 * d)
    (hrec : ∀ b', b'.length ≤ 2 * (d + 1) → ∀ W, Calls Try.prog 42 #[.int .i64 ((d : Int) + 1 + 1), .int .i64 (mo : Int), .string (bs b')] W fun e w' => TextsOk (prs mo m (d + 1) b') W w' e) :
    Calls Try.prog 42 #[.int .i64 ((d : Int) + 1), .int .i64 (mo : Int), .string (bs b)] w fun e w' => TextsOk (prs mo (m + 1) d b) w w' e := by
  obtain ⟨i0, hi, hz0, hz1, hz2⟩ := info_parts info_str
  obtain ⟨M, hM⟩ : ∃ M, M = (mo + 1) ^ m := ⟨_, rfl⟩
  have hMb : M ≤ 1000000 := by
    have h2 : (mo + 1) ^ m ≤ 7 ^ m := Nat.pow_le_pow_left (by omega) m
    have h3 : 7 ^ m ≤ 7 ^ 6 := Nat.pow_le_pow_right (by omega) (by omega)
    have h4 : (7 : Nat) ^ 6 = 117649 := by decide
    omega
  have hM1 : 1 ≤ M := by rw [hM]; exact Nat.pow_pos (by omega)
  have hpl := fun b' => prs_len mo m (d + 1) b'
  have hkl := fun k => prsK_len mo m d b k
  rw [← hM] at hpl hkl
  have hks := fun k => prsK_succ mo m d b k
  have hbsz : (bs b).size ≤ 12 := by rw [bs_size]; omega
  have hn1 : ∀ (W : World) (n : Nat), n ≤ 9 → Calls Try.prog 33 #[.int .i64 (n : Int)] W fun e w' => e = .returned (.string (bs (numL n))) ∧ Below W.heap.size W w' := fun W n h => by
    have := l1Num_any n (n : Int) W (by omega) (by omega) (by omega)
    rw [Int.toNat_natCast] at this
    exact this
  have hn2 : ∀ (W : World), Calls Try.prog 33 #[.int .i64 ((d : Int) + 1)] W fun e w' => e = .returned (.string (bs (numL (d + 1)))) ∧ Below W.heap.size W w' := fun W => hn1 W (d + 1) (by omega)
  have hrec0 := hrec b (by omega)
  have hrecK := fun (k : Nat) (hk : k ≤ 8) W => hrec (b ++ numL (k + 1) ++ numL (d + 1)) (by rw [List.length_append, List.length_append, numL_small (k + 1) (by omega), numL_small (d + 1) (by omega)]; simp; omega) W
  have hsz : ∀ k : Nat, k ≤ 8 → (bs (numL (k + 1))).size = 1 := fun k hk => by rw [bs_size, numL_small (k + 1) (by omega)]; rfl
  have hpr : prs mo (m + 1) d b = prsK mo m d b mo := rfl
  rw [hpr]
  have HPL := Lib.hid hpl; have HKL := Lib.hid hkl; have HKS := Lib.hid hks; have HN1 := Lib.hid hn1; have HN2 := Lib.hid hn2; have HR0 := Lib.hid hrec0; have HRK := Lib.hid hrecK; have HSZ := Lib.hid hsz; have HM1 := Lib.hid hM1
  clear hpl hkl hks hn1 hn2 hrec hrec0 hrecK hsz hpr hM hM1
  go_enter Try.func42, Try.ntmps42
  go_wp2_with fail
  refine (HR0.out _).mono ?_
  rintro e w1 ⟨g0, c0, rfl, ho0, hb0⟩
  have hp0 : prs mo m (d + 1) b = prsK mo m d b 0 := by simp [prsK]
  rw [HPL.out b] at ho0 ⊢
  rw [hp0] at ho0
  have HO0 := Lib.hid ho0; have HB0 := Lib.hid hb0; clear ho0 hb0 hp0
  have hlt0 : ¬ ((d : Int) + 1 > (mo : Int)) := by omega
  go_wp2_with fail
  go_loopw [7, 8] (fun o iv wr => ∃ (k g c n : Nat), k ≤ mo ∧ iv = .int .i64 ((k : Int) + 1) ∧ o = .slice (some ⟨g, 0, none⟩) n c ∧ Hid (n = (k + 1) * M ∧ wr.ownsRow w.heap.size 9 1 (.slice (some ⟨g, 0, none⟩) n c) n (strVs (prsK mo m d b k)) ∧ Below w.heap.size w wr)) (fun _ iv _ => mo + 1 - (intOf iv).toNat)
  case atStart => exact ⟨0, g0, c0, M, by omega, by simp, rfl, by omega, HO0.out, HB0.out⟩
  case round =>
    obtain ⟨k, g, c, n, hk, rfl, rfl, HX⟩ := hrel
    have hnb : n ≤ 7000000 := by
      have h1 := HX.out.1
      have h2 := Nat.mul_le_mul (show k + 1 ≤ 7 by omega) hMb
      omega
    by_cases hlt : k < mo
    · have hn3 : ∀ W, Calls Try.prog 33 #[.int .i64 ((k : Int) + 1)] W fun e w' => e = .returned (.string (bs (numL (k + 1)))) ∧ Below W.heap.size W w' := fun W => HN1.out W (k + 1) (by omega)
      have hs1 := HSZ.out k (by omega)
      have hs2 := HSZ.out d (by omega)
      have hrk := HRK.out k (by omega)
      have hks := HKS.out k
      obtain ⟨rs, hrs⟩ : ∃ rs, rs = prs mo m (d + 1) (b ++ numL (k + 1) ++ numL (d + 1)) := ⟨_, rfl⟩
      have hrl : rs.length = M := by rw [hrs]; exact HPL.out _
      rw [← hrs] at hrk hks
      have HN3 := Lib.hid hn3; have HRK2 := Lib.hid hrk; have HKS2 := Lib.hid hks; have HRL := Lib.hid hrl
      clear hn3 hrk hks hrs hrl
      go_wp2_with fail
      refine (HN3.out _).mono ?_
      rintro e w2 ⟨rfl, hb2⟩
      have HB2 := Lib.hid hb2; clear hb2
      go_wp2_with fail
      refine (HN2.out _).mono ?_
      rintro e w3 ⟨rfl, hb3⟩
      have HB3 := Lib.hid (below_trans HB2.out hb3); clear hb3
      go_wp2_with fail
      rw [bs_append, bs_append]
      refine (HRK2.out w3).mono ?_
      rintro e w4 ⟨g4, c4, rfl, ho4, hb4⟩
      have hb04 : Below wr.heap.size wr w4 := below_trans HB3.out hb4
      have HBL : Hid (Below w.heap.size w w4) := below_trans HX.out.2.2 hb04
      have HO4 := Lib.hid ho4
      have HOX : Hid (w4.ownsRow w.heap.size 9 1 (.slice (some ⟨g, 0, none⟩) n c) n (strVs (prsK mo m d b k))) := own_below HX.out.2.1 hb04
      have HS4 := Lib.hid (strs_news ho4 rfl)
      rw [HRL.out]
      clear ho4 hb4 hb04
      go_wp2_with (at_builtin; refine wpList_app _ rfl _ _ 32 rfl w.heap.size 9 i0 (.string ⟨#[]⟩) 16 Try.underlying32 hi hz0 hz1 hz2 rfl _ n _ rfl HOX.out ⟨g4, 0, none⟩ M c4 (strVs rs) rfl (by rw [← HRL.out]; simp [strVs]) HS4.out (strs_one rs) ?c3 ?c4 ?c5 ?_)
      case c3 => unfold maxLen; omega
      case c4 => omega
      case c5 => exact HBL.out.size
      intro v' w5 hown' hgrow _
      rcases own_open hown' with ⟨_, h0, _⟩ | ⟨g5, c5, rfl, _⟩
      · have := HM1.out; omega
      have R1 := Lib.hid hown'
      have R2 := Lib.hid (HBL.out.grown hgrow HBL.out.size (fun z hz => (HOX.out.lt z hz).1))
      clear hown' hgrow
      go_wp2_with fail
      go_roundw
      case rel =>
        refine ⟨k + 1, g5, c5, n + M, by omega, by go_num, rfl, by rw [HX.out.1, Nat.succ_mul (k + 1)], ?_, R2.out⟩
        rw [HKS2.out]
        have := R1.out
        simpa [strVs] using this
      case measure => simp [intOf] <;> omega
    · obtain rfl : k = mo := by omega
      have hl := HKL.out k
      rw [← HX.out.1] at hl
      have HL := Lib.hid hl; clear hl
      go_wp2_with fail
      go_ret
      refine ⟨g, c, by rw [HL.out]; rfl, ?_, HX.out.2.2⟩
      rw [HL.out]
      exact HX.out.2.1
theorem taPairs_end (mo d : Nat) (b : List UInt8) (w : World) (hd : d = mo) (h6 : mo ≤ 6) :
    Calls Try.prog 42 #[.int .i64 ((d : Int) + 1), .int .i64 (mo : Int), .string (bs b)] w fun e w' => TextsOk (prs mo 0 d b) w w' e := by
  subst hd
  go_enter Try.func42, Try.ntmps42
  go_wp2_with fail
  go_ret
  refine ⟨w.heap.size, 1, by first | rfl | (simp; done), ?_, below_alloc _ _⟩
  exact own_lit w w.heap.size 9 [.string (bs b)] (Nat.le_refl _) (by simp [maxLen])
theorem taPairs_any (mo : Nat) (h1 : 1 ≤ mo) (h6 : mo ≤ 6) : ∀ (m d : Nat) (b : List UInt8) (w : World), d + m = mo → b.length ≤ 2 * d →
    Calls Try.prog 42 #[.int .i64 ((d : Int) + 1), .int .i64 (mo : Int), .string (bs b)] w fun e w' => TextsOk (prs mo m d b) w w' e
  | 0, d, b, w, hd, _ => taPairs_end mo d b w (by omega) h6
  | m + 1, d, b, w, hd, hb => taPairs_step mo m d b w h1 h6 hd hb (fun b' hb' W => by
      have := taPairs_any mo h1 h6 m (d + 1) b' W (by omega) hb'
      exact this)
end Go.Proofs.Ytaagfcdniacmnab
