/- The library's stable sort: two parts that change places (rotateCmpFunc). -/
import Derived.Test.YtlcbdmmmafpchaaDoors3
namespace Go.Proofs.YtlcbdmmmafpchaaDoor
open Go.RowKit Go.BigFrame
set_option linter.unusedSimpArgs false
set_option linter.unusedVariables false
set_option maxRecDepth 4000

/-- What holds between two exchanges: the left part ends at m, the right one begins there. -/
structure RotAt (b n m : Nat) (T : List Int) (i j : Nat) (w W : World) (PA L M BQ : List Int) : Prop where
  row : RowB W b (PA ++ L ++ M ++ BQ)
  only : Only b w W
  aim : PA ++ M ++ L ++ BQ = T
  left : L.length = i
  right : M.length = j
  ahead : PA.length + i = m
  all : m + j + BQ.length = n

theorem rot_left {b n m : Nat} {T : List Int} {i j : Nat} {w W W' : World} {PA L M BQ : List Int} (h : RotAt b n m T i j w W PA L M BQ) (hij : j < i) (h1 : RowB W' b (PA ++ M ++ L.drop j ++ L.take j ++ BQ)) (h2 : Only b W W') :
    RotAt b n m T (i - j) j w W' (PA ++ M) (L.drop j) (L.take j) BQ := by
  have hl := h.left; have hr := h.right; have ha := h.ahead
  refine ⟨h1, only_t h.only h2, ?_, by rw [List.length_drop, hl], by rw [List.length_take]; omega, by rw [List.length_append]; omega, h.all⟩
  rw [← h.aim, List.append_assoc (PA ++ M), List.take_append_drop]
theorem rot_right {b n m : Nat} {T : List Int} {i j : Nat} {w W W' : World} {PA L M BQ : List Int} (h : RotAt b n m T i j w W PA L M BQ) (hij : i < j) (h1 : RowB W' b (PA ++ M.drop (j - i) ++ M.take (j - i) ++ L ++ BQ)) (h2 : Only b W W') :
    RotAt b n m T i (j - i) w W' PA (M.drop (j - i)) (M.take (j - i)) (L ++ BQ) := by
  have hl := h.left; have hr := h.right; have ha := h.ahead; have hb := h.all
  refine ⟨by rw [← List.append_assoc]; exact h1, only_t h.only h2, ?_, by rw [List.length_drop]; omega, by rw [List.length_take]; omega, ha, by rw [List.length_append]; omega⟩
  rw [← h.aim, List.append_assoc PA, List.take_append_drop]; simp

set_option maxHeartbeats 2000000 in
theorem rotate_any (w : World) (b n c : Nat) (P L M Q : List Int) (a m e : Nat) (F : Value) (ha : a = P.length) (hm : m = P.length + L.length) (he : e = P.length + L.length + M.length)
    (hn : n = P.length + L.length + M.length + Q.length) (hL : 0 < L.length) (hM : 0 < M.length) (hn4 : n ≤ 4000) (hcap : n ≤ c) (hcm : c ≤ maxLen) (h : RowB w b (P ++ L ++ M ++ Q)) :
    Calls Tryd.prog 120 #[.slice (some ⟨b, 0, none⟩) n c, .int .i64 (a : Int), .int .i64 (m : Int), .int .i64 (e : Int), F] w fun z w' => z = .returned (.tuple #[]) ∧ RowB w' b (P ++ M ++ L ++ Q) ∧ Only b w w' := by
  have HC := Lib.hid (And.intro hcap hcm)
  obtain ⟨T, hT⟩ : ∃ T, T = P ++ M ++ L ++ Q := ⟨_, rfl⟩
  rw [← hT]
  obtain ⟨i, hi⟩ : ∃ i, i = L.length := ⟨_, rfl⟩
  obtain ⟨j, hj⟩ : ∃ j, j = M.length := ⟨_, rfl⟩
  have H0 : Hid (RotAt b n m T i j w w P L M Q) := ⟨h, only_refl _ _, hT.symm, hi.symm, hj.symm, by omega, by omega⟩
  have hmi : (m : Int) - (a : Int) = (i : Int) := by omega
  have hej : (e : Int) - (m : Int) = (j : Int) := by omega
  have hi0 : 0 < i := by omega
  have hj0 : 0 < j := by omega
  have him : i ≤ m := by omega
  have hjn : m + j ≤ n := by omega
  clear h ha hm he hn hL hM hcap hcm hT hi hj
  go_enter Tryd.func120, Tryd.ntmps120
  go_wp2_with fail
  go_loopw [10, 11] (fun iv jv wr => ∃ (i j : Nat) (PA L M BQ : List Int), iv = .int .i64 (i : Int) ∧ jv = .int .i64 (j : Int) ∧ 0 < i ∧ 0 < j ∧ i ≤ m ∧ m + j ≤ n ∧ Hid (RotAt b n m T i j w wr PA L M BQ)) (fun iv jv _ => (intOf iv).toNat + (intOf jv).toNat)
  case atStart => exact ⟨i, j, P, L, M, Q, by simp [hmi], by simp [hej], hi0, hj0, him, hjn, H0.out⟩
  case round =>
    clear hmi hej hi0 hj0 him hjn H0
    obtain ⟨i, j, PA, L, M, BQ, rfl, rfl, hi0, hj0, him, hjn, HR⟩ := hrel
    obtain ⟨p, hp⟩ : ∃ p, m = p + i := ⟨m - i, by omega⟩
    have hpz : (m : Int) - (i : Int) = (p : Int) := by omega
    by_cases hij : i = j
    · subst hij
      have HS := Lib.hid (swapRange_any wr b n c PA L [] M BQ p m i F HR.out.left HR.out.right (by have := HR.out.ahead; omega) (by have := HR.out.ahead; simp; omega) (by have := HR.out.all; have := HR.out.ahead; simp; omega) hn4 HC.out.1 HC.out.2 (by rw [List.append_nil]; exact HR.out.row))
      have hne : ((i : Int) != (i : Int)) = false := by simp
      clear hp
      go_wp2_with fail
      refine HS.out.mono ?_
      rintro z w2 ⟨rfl, h1, h2⟩
      have H1 := Lib.hid h1; have H2 := Lib.hid (only_t HR.out.only h2); clear h1 h2
      go_wp2_with fail
      go_end0
      refine ⟨rfl, ?_, H2.out⟩
      have := H1.out
      rw [List.append_nil, HR.out.aim] at this; exact this
    · have hne : ((i : Int) != (j : Int)) = true := by simp; omega
      by_cases hgt : j < i
      · have hgz : (i : Int) > (j : Int) := by omega
        have HS := Lib.hid (swapRange_any wr b n c PA (L.take j) (L.drop j) M BQ p m j F (by rw [List.length_take, HR.out.left]; omega) HR.out.right (by have := HR.out.ahead; omega) (by have := HR.out.ahead; rw [List.length_drop, HR.out.left]; omega) (by have := HR.out.all; have := HR.out.ahead; rw [List.length_drop, HR.out.left]; omega) hn4 HC.out.1 HC.out.2 (by rw [List.append_assoc PA, List.take_append_drop]; exact HR.out.row))
        have HG := Lib.hid hgt
        obtain ⟨d, hd⟩ : ∃ d, d = i - j := ⟨_, rfl⟩
        have hdz : (i : Int) - (j : Int) = (d : Int) := by omega
        have hd0 : 0 < d := by omega
        have hdm : d ≤ m := by omega
        have hdi : d + j = i := by omega
        have HD := Lib.hid hd
        clear hp hgt hij hd
        go_wp2_with fail
        refine HS.out.mono ?_
        rintro z w2 ⟨rfl, h1, h2⟩
        have H1 := Lib.hid (rot_left HR.out HG.out h1 h2); clear h1 h2
        rw [← HD.out] at H1
        go_wp2_with fail
        go_roundw
        case rel => exact ⟨d, j, _, _, _, _, by go_num, by go_num, hd0, hj0, hdm, hjn, H1.out⟩
        case measure => simp [intOf] <;> omega
      · have hgz : ¬ (i : Int) > (j : Int) := by omega
        have HG := Lib.hid (show i < j by omega)
        obtain ⟨d, hd⟩ : ∃ d, d = j - i := ⟨_, rfl⟩
        obtain ⟨q, hq⟩ : ∃ q, q = m + d := ⟨_, rfl⟩
        have hdz : (j : Int) - (i : Int) = (d : Int) := by omega
        have HS := Lib.hid (swapRange_any wr b n c PA L (M.take (j - i)) (M.drop (j - i)) BQ p q i F HR.out.left (by rw [List.length_drop, HR.out.right]; omega) (by have := HR.out.ahead; omega) (by have := HR.out.ahead; rw [List.length_take, HR.out.right]; omega) (by have := HR.out.all; have := HR.out.ahead; rw [List.length_take, HR.out.right]; omega) hn4 HC.out.1 HC.out.2 (by rw [List.append_assoc (PA ++ L), List.take_append_drop]; exact HR.out.row))
        have hqz : (m : Int) + (j : Int) - (i : Int) = (q : Int) := by omega
        have hd0 : 0 < d := by omega
        have hdn : m + d ≤ n := by omega
        have hdi : d + i = j := by omega
        have HD := Lib.hid hd
        clear hp hgt hij hd hq
        go_wp2_with fail
        refine HS.out.mono ?_
        rintro z w2 ⟨rfl, h1, h2⟩
        have H1 := Lib.hid (rot_right HR.out HG.out h1 h2); clear h1 h2
        rw [← HD.out] at H1
        go_wp2_with fail
        go_roundw
        case rel => exact ⟨i, d, _, _, _, _, by go_num, by go_num, hi0, hd0, him, hdn, H1.out⟩
        case measure => simp [intOf] <;> omega
end Go.Proofs.YtlcbdmmmafpchaaDoor
