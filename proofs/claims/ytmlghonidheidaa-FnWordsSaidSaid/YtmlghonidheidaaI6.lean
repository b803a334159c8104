/- How often a digit is in a word: the model's and the program's CountDigit. -/
import Derived.Test.YtmlghonidheidaaI4
import Derived.Test.YtmlghonidheidaaS
namespace Go.Proofs.Ytmlghonidheidaa
open Go.RowKit Go.BigFrame
set_option linter.unusedSimpArgs false
set_option linter.unusedVariables false
set_option maxRecDepth 4000

def dgc (d : Int) : UInt8 := UInt8.ofNat (48 + d.toNat)
def countD (l : List UInt8) (d : Int) : Nat := l.count (dgc d)
theorem countD_le (l : List UInt8) (d : Int) : countD l d ≤ l.length := List.count_le_length
theorem dgc_nat (d : Int) (h0 : 1 ≤ d) (h1 : d ≤ 9) : ((dgc d).toNat : Int) = 48 + d := by
  unfold dgc
  rw [UInt8.toNat_ofNat', Nat.mod_eq_of_lt (by omega)]; omega
theorem dgc_eq (d : Int) (c : UInt8) (h0 : 1 ≤ d) (h1 : d ≤ 9) : ((c.toNat : Int) - 48 = d) ↔ c = dgc d := by
  have h := dgc_nat d h0 h1
  constructor
  · intro e; exact UInt8.toNat_inj.1 (by omega)
  · rintro rfl; omega
theorem countD_succ (s : ByteArray) (d : Int) (k : Nat) (h : k < s.size) : countD (s.data.toList.take (k + 1)) d = countD (s.data.toList.take k) d + if s[k] = dgc d then 1 else 0 := by
  unfold countD
  rw [take_snoc s k h, List.count_append, List.count_singleton]
  simp

set_option maxHeartbeats 1000000 in
theorem woDigit_any (s : ByteArray) (d : Int) (w : World) (hs : s.size ≤ 400) (hd : s.data.toList.all digB = true) (h0 : 1 ≤ d) (h1 : d ≤ 9) :
    Calls Try.prog 60 #[.string s, .int .i64 d] w fun e w' => e = .returned (.int .i64 (countD s.data.toList d)) ∧ w = w' := by
  have HD := Lib.hid hd; clear hd
  go_enter Try.func60, Try.ntmps60
  go_wp2_with fail
  go_loop [5, 6] (fun n i => ∃ k : Nat, k ≤ s.size ∧ i = .int .i64 k ∧ n = .int .i64 (countD (s.data.toList.take k) d)) (fun _ i => s.size - (intOf i).toNat)
  case atStart => exact ⟨0, Nat.zero_le _, rfl, rfl⟩
  case round =>
    obtain ⟨k, hk, rfl, rfl⟩ := hrel
    by_cases hlt : k < s.size
    · obtain ⟨hd1, hd2⟩ := dig_at s HD.out k hlt
      have hsu := countD_succ s d k hlt
      have hle := countD_le (s.data.toList.take k) d
      have hle2 : (s.data.toList.take k).length ≤ k := List.length_take_le _ _
      obtain ⟨m, hm⟩ : ∃ m, m = countD (s.data.toList.take k) d := ⟨_, rfl⟩
      rw [← hm] at hsu hle ⊢
      have hm4 : m ≤ 400 := by omega
      have heq := dgc_eq d s[k] h0 h1
      have HS := Lib.hid hsu
      clear hm hle hle2 hsu
      by_cases he : (s[k].toNat : Int) - 48 = d
      · have hb : ((s[k].toNat : Int) - 48 == d) = true := by simpa using he
        have hc : s[k] = dgc d := heq.1 he
        have HC := Lib.hid hc
        clear heq he hc
        go_wp2
        go_round
        case rel => exact ⟨k + 1, by omega, by go_num, by rw [HS.out, if_pos HC.out]; go_num⟩
        case measure => simp [intOf] <;> omega
      · have hb : ((s[k].toNat : Int) - 48 == d) = false := by simpa using he
        have hc : ¬ s[k] = dgc d := fun h => he (heq.2 h)
        have HC := Lib.hid hc
        clear heq he hc
        go_wp2
        go_round
        case rel => exact ⟨k + 1, by omega, by go_num, by rw [HS.out, if_neg HC.out]; rfl⟩
        case measure => simp [intOf] <;> omega
    · obtain rfl : k = s.size := by omega
      go_wp2
      go_ret
      exact ⟨ret_int (by rw [List.take_of_length_le (by simp)]), rfl⟩

def digOk (d : Int) : Bool := decide (1 ≤ d ∧ d ≤ 9)
theorem specCountDigit_any (s : ByteArray) (d : Int) (w : World) (hs : s.size ≤ maxLen) :
    Calls Try.prog 34 #[.string s, .int .i64 d] w fun e w' => e = .returned (intOk (goodL s.data.toList && digOk d) (countD s.data.toList d)) ∧ Below w.heap.size w w' := by
  cases hg : goodL s.data.toList with
  | false =>
    have HG := Lib.hid hg; clear hg
    go_enter Try.func34, Try.ntmps34
    go_wp2_with fail
    refine (woGood_any s w hs).mono ?_
    rintro e w1 ⟨rfl, rfl⟩
    rw [HG.out]
    go_wp2_with fail
    go_ret2
    exact ⟨rfl, Below.refl _ _⟩
  | true =>
    obtain ⟨h1, h2, h3⟩ := goodL_parts hg
    have HG := Lib.hid hg; clear hg
    cases hd : digOk d with
    | false =>
      have HD := Lib.hid hd; clear hd
      go_enter Try.func34, Try.ntmps34
      go_wp2_with fail
      refine (woGood_any s w hs).mono ?_
      rintro e w1 ⟨rfl, rfl⟩
      rw [HG.out]
      go_wp2_with fail
      refine (l1In_is false _ _ _ _ HD.out).mono ?_
      rintro e w1 ⟨rfl, rfl⟩
      go_wp2_with fail
      go_ret2
      exact ⟨rfl, Below.refl _ _⟩
    | true =>
      have hdd : 1 ≤ d ∧ d ≤ 9 := by simpa [digOk] using hd
      obtain ⟨hd0, hd1⟩ := hdd
      have HD := Lib.hid hd; clear hd
      go_enter Try.func34, Try.ntmps34
      go_wp2_with fail
      refine (woGood_any s w hs).mono ?_
      rintro e w1 ⟨rfl, rfl⟩
      rw [HG.out]
      go_wp2_with fail
      refine (l1In_is true _ _ _ _ HD.out).mono ?_
      rintro e w1 ⟨rfl, rfl⟩
      go_wp2_with fail
      refine (woDigit_any s d w h2 h3 hd0 hd1).mono ?_
      rintro e w1 ⟨rfl, rfl⟩
      go_wp2_with fail
      go_ret2
      exact ⟨rfl, Below.refl _ _⟩

theorem isDigit_is (b : Bool) (n : Int) (w : World) (h : digOk n = b) :
    Calls Try.prog 52 #[.int .i64 n] w fun e w' => e = .returned (.bool b) ∧ w = w' := by
  have H := Lib.hid h; clear h
  go_enter Try.func52, Try.ntmps52
  go_wp2_with fail
  refine (isWithin_is b _ _ _ _ H.out).mono ?_
  rintro e w1 ⟨rfl, rfl⟩
  go_wp2_with fail
  go_ret
  exact ⟨rfl, rfl⟩

theorem implCountDigit_any (s : ByteArray) (d : Int) (w : World) (hs : s.size ≤ maxLen) :
    Calls Try.prog 30 #[.string s, .int .i64 d] w fun e w' => e = .returned (intOk (goodL s.data.toList && digOk d) (countD s.data.toList d)) ∧ Below w.heap.size w w' := by
  cases hg : goodL s.data.toList with
  | false =>
    have HG := Lib.hid hg; clear hg
    go_enter Try.func30, Try.ntmps30
    go_wp2_with fail
    refine (implIsWord_any s w hs).mono ?_
    rintro e w1 ⟨rfl, rfl⟩
    rw [HG.out]
    go_wp2_with fail
    go_ret2
    exact ⟨rfl, Below.refl _ _⟩
  | true =>
    obtain ⟨h1, h2, h3⟩ := goodL_parts hg
    have HG := Lib.hid hg; clear hg
    cases hd : digOk d with
    | false =>
      have HD := Lib.hid hd; clear hd
      go_enter Try.func30, Try.ntmps30
      go_wp2_with fail
      refine (implIsWord_any s w hs).mono ?_
      rintro e w1 ⟨rfl, rfl⟩
      rw [HG.out]
      go_wp2_with fail
      refine (isDigit_is false _ _ HD.out).mono ?_
      rintro e w1 ⟨rfl, rfl⟩
      go_wp2_with fail
      go_ret2
      exact ⟨rfl, Below.refl _ _⟩
    | true =>
      have hdd : 1 ≤ d ∧ d ≤ 9 := by simpa [digOk] using hd
      obtain ⟨hd0, hd1⟩ := hdd
      have HD := Lib.hid hd; clear hd
      go_enter Try.func30, Try.ntmps30
      go_wp2_with fail
      refine (implIsWord_any s w hs).mono ?_
      rintro e w1 ⟨rfl, rfl⟩
      rw [HG.out]
      go_wp2_with fail
      refine (isDigit_is true _ _ HD.out).mono ?_
      rintro e w1 ⟨rfl, rfl⟩
      go_wp2_with (first
        | (go_at_call 51; refine (signOf_is _ _ (by omega) (by omega)).mono ?_; rintro e w' ⟨rfl, rfl⟩)
        | (refine wpList_bytes _ rfl 9 22 _ rfl 5 Try.underlying9 Try.underlying22 Try.underlying5 s rfl hs ?_; intro w2 cap hb hsz hcap hcm hcell hfr))
      have hz : s.size = s.data.toList.length := by simp
      have hcc : ∀ i, i < s.size → (w2.alloc (.cells #[.int .u8 (48 + d)] 5)).cell? ⟨w.heap.size, 0 + i, none⟩ = some (.int .u8 ((s.data.toList.map (fun c => (c.toNat : Int))).getD i 0)) := by
        intro i hi
        rw [Nat.zero_add]
        refine ((below_alloc w2 _).cell (p := ⟨w.heap.size, i, none⟩) hsz).trans ?_
        rw [hcell i hi]
        have : i < s.data.toList.length := by rw [← hz]; exact hi
        rw [List.getD_eq_getElem?_getD, List.getElem?_map, List.getElem?_eq_getElem this]
        rfl
      have hcd : (w2.alloc (.cells #[.int .u8 (48 + d)] 5)).cell? ⟨w2.heap.size, 0, none⟩ = some (.int .u8 (48 + d)) := by simp [go_sem]
      have hcon := Try.bytes_Count_one w.heap.size 0 s.size cap w2.heap.size 0 1 (s.data.toList.map (fun c => (c.toNat : Int))) (48 + d) (w2.alloc (.cells #[.int .u8 (48 + d)] 5)) (by simp) hcc hcd
      have hval : Go.Lib.countByte (Go.Lib.bytesOf (s.data.toList.map (fun c => (c.toNat : Int)))) (48 + d).toNat.toUInt8 = countD s.data.toList d := by
        have e1 : Go.Lib.bytesOf (s.data.toList.map (fun c => (c.toNat : Int))) = s.data.toList := by
          unfold Go.Lib.bytesOf
          rw [List.map_map]
          conv => rhs; rw [← List.map_id s.data.toList]
          apply List.map_congr_left
          intro c _; simp
        have e2 : (48 + d).toNat.toUInt8 = dgc d := by
          unfold dgc
          rw [show (48 + d).toNat = 48 + d.toNat by omega]
        rw [e1, e2]; rfl
      rw [hval] at hcon
      have HCON := Lib.hid hcon; have HB := Lib.hid hb
      clear hcon hval hcd hcc hb hcell hfr hz
      go_wp2_with fail
      refine HCON.out.mono ?_
      rintro e w3 ⟨rfl, rfl⟩
      go_wp2_with fail
      go_ret2
      exact ⟨rfl, below_trans HB.out (below_alloc _ _)⟩

end Go.Proofs.Ytmlghonidheidaa
