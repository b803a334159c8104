/- Chapter 7: the model's languages. -/
import Derived.Test.YtampjipbemmicaaDoor7D
namespace Go.Proofs.YtampjipbemmicaaDoor
open Go.RowKit Go.BigFrame
set_option linter.unusedSimpArgs false
set_option linter.unusedVariables false
set_option maxRecDepth 4000

theorem bs_eqB {a b : List UInt8} : ((bs a).toList == (bs b).toList) = decide (a = b) := by
  rw [Go.Lib.toList_data, Go.Lib.toList_data, bs_list, bs_list]
  by_cases h : a = b
  · simp [h]
  · rw [decide_eq_false h]; simpa using h
theorem argS_take {w : World} {A : Option Addr} {N C : Nat} {ns : List (List UInt8)} (h : ArgS w (.slice A N C) ns) (k : Nat) (hk : k ≤ ns.length) : ArgS w (.slice A k C) (ns.take k) := by
  obtain ⟨A', C', e, h2, h3, h4⟩ := h
  injection e with e1 e2 e3
  subst e1; subst e3
  refine ⟨A, C, by rw [List.length_take, Nat.min_eq_left hk], by rw [List.length_take]; omega, h3, fun c hc => ?_⟩
  have hc' : c < ns.length := by rw [List.length_take] at hc; omega
  obtain ⟨b, o, g1, g2, g3, g4⟩ := h4 c hc'
  exact ⟨b, o, g1, g2, by rw [List.getElem_take]; exact g3, by rw [List.getElem_take]; exact g4⟩
theorem take_mem_succ (ns : List (List UInt8)) (y : List UInt8) (k : Nat) (h : k < ns.length) : decide (y ∈ ns.take (k + 1)) = (decide (y ∈ ns.take k) || decide (ns[k] = y)) := by
  rw [List.take_succ_eq_append_getElem h, show decide (ns[k] = y) = decide (y ∈ [ns[k]]) from decide_eq_decide.2 (by simp [eq_comm]), ← Bool.decide_or]
  exact decide_eq_decide.2 List.mem_append

set_option maxHeartbeats 1000000 in
theorem l1HasS_any (w : World) (u : Value) (ns : List (List UInt8)) (y : List UInt8) (h : ArgS w u ns) (h9 : ns.length ≤ 2000000) :
    Calls Tryd.prog 82 #[u, .string (bs y)] w fun e w' => e = .returned (.bool (decide (y ∈ ns))) ∧ w = w' := by
  obtain ⟨A, C, rfl, hC, hCm, hcell⟩ := h
  obtain ⟨N, hN⟩ : ∃ N, N = ns.length := ⟨_, rfl⟩
  obtain ⟨R, hR⟩ : ∃ R : Bool, R = decide (y ∈ ns) := ⟨_, rfl⟩
  have HC := Lib.hid hcell; have HN := Lib.hid hN; have HR := Lib.hid hR
  rw [← hN] at hC h9 ⊢
  rw [← hR]
  clear hcell hN hR
  go_enter Tryd.func82, Tryd.ntmps82
  go_wp2_with fail
  go_loop [9] (fun i => ∃ k : Nat, i = .int .i64 (k : Int) ∧ k ≤ N ∧ Hid (decide (y ∈ ns.take k) = false)) (fun i => N - (intOf i).toNat)
  case atStart => exact ⟨0, rfl, Nat.zero_le _, by show decide (y ∈ ns.take 0) = false; simp⟩
  case round =>
    obtain ⟨k, rfl, hk, HX⟩ := hrel
    by_cases hlt : k < N
    · have hk' : k < ns.length := by rw [← HN.out]; exact hlt
      obtain ⟨b, o, rfl, hb, hc, hl⟩ := HC.out k hk'
      have hs := take_mem_succ ns y k hk'
      rw [HX.out, Bool.false_or] at hs
      obtain ⟨x, hx⟩ : ∃ x, x = ns[k] := ⟨_, rfl⟩
      rw [← hx] at hc hs
      have HS := Lib.hid hs
      have hq := bs_eqB (a := x) (b := y)
      by_cases hxy : x = y
      · have hR2 : R = true := by
          rw [HR.out]
          have : y ∈ ns.take (k + 1) := by rw [decide_eq_true hxy] at hs; simpa using hs
          exact decide_eq_true (List.mem_of_mem_take this)
        rw [decide_eq_true hxy] at hq
        have H2 := Lib.hid hR2
        clear hs hx hxy hl hR2
        go_wp2_with fail
        go_ret
        exact ⟨ret_bool H2.out.symm, rfl⟩
      · rw [decide_eq_false hxy] at hq hs
        have H2 := Lib.hid hs
        clear hs hx hxy hl
        go_wp2_with fail
        go_round
        case rel => exact ⟨k + 1, by go_num, by omega, H2⟩
        case measure => simp [intOf] <;> omega
    · obtain rfl : k = N := by omega
      have hR2 : R = false := by rw [HR.out]; have := HX.out; rw [List.take_of_length_le (by rw [← HN.out]; exact Nat.le_refl _)] at this; exact this
      have H2 := Lib.hid hR2; clear hR2
      go_wp2_with fail
      go_ret
      exact ⟨ret_bool H2.out.symm, rfl⟩

set_option maxHeartbeats 1000000 in
theorem snLetters_any (s : ByteArray) (w : World) (hs : s.size ≤ 9223372036854775807) :
    Calls Tryd.prog 81 #[.string s] w fun e w' => e = .returned (.bool (ltrsB s.data.toList)) ∧ w = w' := by
  obtain ⟨R, hR⟩ : ∃ R : Bool, R = s.data.toList.all ltrB := ⟨_, rfl⟩
  have hR' : ltrsB s.data.toList = R := hR.symm
  rw [hR']
  have HR := Lib.hid hR
  clear hR hR'
  go_enter Tryd.func81, Tryd.ntmps81
  go_wp2_with fail
  go_loop [3] (fun i => ∃ k : Nat, k ≤ s.size ∧ i = .int .i64 k ∧ Hid ((s.data.toList.take k).all ltrB = true)) (fun i => s.size - (intOf i).toNat)
  case atStart => exact ⟨0, Nat.zero_le _, rfl, rfl⟩
  case round =>
    obtain ⟨k, hk, rfl, HA⟩ := hrel
    by_cases hlt : k < s.size
    · have hsn := all_take_succ ltrB s k hlt
      have HS := Lib.hid hsn; clear hsn
      by_cases hd : 97 ≤ s[k].toNat ∧ s[k].toNat ≤ 100
      · obtain ⟨hd1, hd2⟩ := hd
        go_wp2_with fail
        go_round
        case rel => exact ⟨k + 1, by omega, by go_num, by show (s.data.toList.take (k + 1)).all ltrB = true; rw [HS.out, HA.out]; simp [ltrB, hd1, hd2]⟩
        case measure => simp [intOf] <;> omega
      · have hf : s.data.toList.all ltrB = false := all_false_of_take (k + 1) (by rw [HS.out, HA.out]; simp [ltrB]; omega)
        have HF := Lib.hid hf; clear hf
        by_cases hd1 : 97 ≤ s[k].toNat
        all_goals
          go_wp2_with fail
          go_ret
          exact ⟨ret_bool (by rw [HR.out, HF.out]), rfl⟩
    · have hf : s.data.toList.all ltrB = true := by have h := HA.out; rw [List.take_of_length_le (by simp; omega)] at h; exact h
      have HF := Lib.hid hf; clear hf
      go_wp2_with fail
      go_ret
      exact ⟨ret_bool (by rw [HR.out, HF.out]), rfl⟩
theorem snLettersL_any (l : List UInt8) (w : World) (hs : l.length ≤ 9223372036854775807) :
    Calls Tryd.prog 81 #[.string (bs l)] w fun e w' => e = .returned (.bool (ltrsB l)) ∧ w = w' := by
  have := snLetters_any (bs l) w (by rw [bs_size]; exact hs)
  rw [bs_list] at this
  exact this
theorem langB_eq (ns : List (List UInt8)) (fr : List UInt8) : langB ns fr = (decide (1 ≤ ns.length ∧ ns.length ≤ 10) && decide (fr.length ≤ 20) && ltrsB fr && namesB ns ns.length) := rfl
theorem nameB_eq (ns : List (List UInt8)) (k : Nat) (h : k < ns.length) (x : List UInt8) (hx : x = ns[k]) : nameB ns k = (decide (1 ≤ x.length ∧ x.length ≤ 8) && ltrsB x && !(decide (x ∈ ns.take k))) := by
  unfold nameB
  rw [show ns.getD k [] = x from by simp [List.getD, h, hx]]

set_option maxHeartbeats 2000000 in
theorem snGood_any (w : World) (u : Value) (ns : List (List UInt8)) (fr : List UInt8) (h : ArgS w u ns) (hf : fr.length ≤ 9223372036854775807) :
    Calls Tryd.prog 49 #[.agg #[u, .string (bs fr)]] w fun e w' => e = .returned (.bool (langB ns fr)) ∧ Below w.heap.size w w' := by
  obtain ⟨G, hG⟩ : ∃ G, G = langB ns fr := ⟨_, rfl⟩
  rw [← hG]
  rw [langB_eq] at hG
  obtain ⟨N, hN⟩ : ∃ N, N = ns.length := ⟨_, rfl⟩
  rw [← hN] at hG
  have hbs : (bs fr).size = fr.length := bs_size _
  obtain ⟨A, C, hu, hC, hCm, hcell⟩ := id h
  rw [← hN] at hu hC
  subst hu
  have HG := Lib.hid hG; clear hG
  have HN := Lib.hid hN; clear hN
  have HS := Lib.hid h; clear h
  have HC := Lib.hid hcell; clear hcell
  by_cases h1 : 1 ≤ N ∧ N ≤ 10
  · by_cases h2 : fr.length ≤ 20
    · cases h3 : ltrsB fr with
      | false =>
        have E : G = false := by rw [HG.out, h3]; simp
        subst E
        have H3 := Lib.hid h3; clear h3
        go_enter Tryd.func49, Tryd.ntmps49
        go_wp2_with fail
        refine (l1In_is true _ _ _ _ (by simp; omega)).mono ?_
        rintro e w1 ⟨rfl, rfl⟩
        go_wp2_with fail
        refine (snLettersL_any _ _ hf).mono ?_
        rintro e w1 ⟨rfl, rfl⟩
        rw [H3.out]
        go_wp2_with fail
        go_ret
        exact ⟨rfl, below_alloc _ _⟩
      | true =>
        have E : G = namesB ns N := by rw [HG.out, h3, decide_eq_true h1, decide_eq_true h2]; rfl
        have HE := Lib.hid E; clear E HG
        have H3 := Lib.hid h3; clear h3
        go_enter Tryd.func49, Tryd.ntmps49
        go_wp2_with fail
        refine (l1In_is true _ _ _ _ (by simp; omega)).mono ?_
        rintro e w1 ⟨rfl, rfl⟩
        go_wp2_with fail
        refine (snLettersL_any _ _ hf).mono ?_
        rintro e w1 ⟨rfl, rfl⟩
        rw [H3.out]
        go_wp2_with fail
        go_loop [25] (fun i => ∃ k : Nat, i = .int .i64 (k : Int) ∧ k ≤ N ∧ Hid (namesB ns k = true)) (fun i => N - (intOf i).toNat)
        case atStart => exact ⟨0, rfl, Nat.zero_le _, rfl⟩
        case round =>
          obtain ⟨k, rfl, hk, HX⟩ := hrel
          by_cases hlt : k < N
          · have hk' : k < ns.length := by rw [← HN.out]; exact hlt
            obtain ⟨b, o, rfl, hb, hc, hl⟩ := HC.out k hk'
            have hsl := argS_take HS.out k (by omega)
            have hnm := namesB_succ ns k
            rw [HX.out, Bool.true_and] at hnm
            obtain ⟨x, hx⟩ : ∃ x, x = ns[k] := ⟨_, rfl⟩
            rw [nameB_eq ns k hk' x hx] at hnm
            rw [← hx] at hc hl
            have hbx : (bs x).size = x.length := bs_size _
            have hkC : k ≤ C := by omega
            have HSL := Lib.hid hsl; have HNM := Lib.hid hnm
            clear hsl hnm hx
            have hfalse : namesB ns (k + 1) = false → G = false := fun e => by rw [HE.out]; exact namesB_false _ _ _ e (by omega)
            have HF := Lib.hid hfalse; clear hfalse
            have hcw : ∀ o', (w.alloc o').cell? ⟨b, o + k, none⟩ = some (.string (bs x)) := fun o' => ((below_alloc w o').cell (p := ⟨b, o + k, none⟩) hb).trans hc
            clear hc
            by_cases g1 : 1 ≤ x.length ∧ x.length ≤ 8
            · cases g2 : ltrsB x with
              | false =>
                have E := HF.out (by rw [HNM.out, g2]; simp)
                have HEE := Lib.hid E; clear E
                have G2 := Lib.hid g2; clear g2
                go_wp2_with fail
                refine (l1In_is true _ _ _ _ (by simp; omega)).mono ?_
                rintro e w1 ⟨rfl, rfl⟩
                go_wp2_with fail
                refine (snLettersL_any _ _ hl).mono ?_
                rintro e w1 ⟨rfl, rfl⟩
                rw [G2.out]
                go_wp2_with fail
                go_ret
                exact ⟨ret_bool HEE.out.symm, below_alloc _ _⟩
              | true =>
                obtain ⟨q, hq⟩ : ∃ q : Bool, q = decide (x ∈ ns.take k) := ⟨_, rfl⟩
                have HQ := Lib.hid hq
                have G2 := Lib.hid g2; clear g2 hq
                go_wp2_with fail
                refine (l1In_is true _ _ _ _ (by simp; omega)).mono ?_
                rintro e w1 ⟨rfl, rfl⟩
                go_wp2_with fail
                refine (snLettersL_any _ _ hl).mono ?_
                rintro e w1 ⟨rfl, rfl⟩
                rw [G2.out]
                go_wp2_with fail
                refine (l1HasS_any _ _ (ns.take k) x (argS_below HSL.out (below_alloc _ _)) (by rw [List.length_take]; omega)).mono ?_
                rintro e w1 ⟨rfl, rfl⟩
                rw [← HQ.out]
                cases q with
                | true =>
                  have E := HF.out (by rw [HNM.out, ← HQ.out]; simp)
                  have HEE := Lib.hid E; clear E
                  go_wp2_with fail
                  go_ret
                  exact ⟨ret_bool HEE.out.symm, below_alloc _ _⟩
                | false =>
                  go_wp2_with fail
                  go_round
                  case rel => exact ⟨k + 1, by go_num, by omega, by show namesB ns (k + 1) = true; rw [HNM.out, ← HQ.out, G2.out, decide_eq_true g1]; rfl⟩
                  case measure => simp [intOf] <;> omega
            · have E := HF.out (by rw [HNM.out, decide_eq_false g1]; rfl)
              have HEE := Lib.hid E; clear E
              go_wp2_with fail
              refine (l1In_is false _ _ _ _ (by simp; omega)).mono ?_
              rintro e w1 ⟨rfl, rfl⟩
              go_wp2_with fail
              go_ret
              exact ⟨ret_bool HEE.out.symm, below_alloc _ _⟩
          · obtain rfl : k = N := by omega
            have E : G = true := by rw [HE.out]; exact HX.out
            have HEE := Lib.hid E; clear E
            go_wp2_with fail
            go_ret
            exact ⟨ret_bool HEE.out.symm, below_alloc _ _⟩
    · have E : G = false := by rw [HG.out, decide_eq_false h2]; simp
      subst E
      go_enter Tryd.func49, Tryd.ntmps49
      go_wp2_with fail
      refine (l1In_is true _ _ _ _ (by simp; omega)).mono ?_
      rintro e w1 ⟨rfl, rfl⟩
      go_wp2_with fail
      go_ret
      exact ⟨rfl, below_alloc _ _⟩
  · have E : G = false := by rw [HG.out, decide_eq_false h1]; rfl
    subst E
    go_enter Tryd.func49, Tryd.ntmps49
    go_wp2_with fail
    refine (l1In_is false _ _ _ _ (by simp; omega)).mono ?_
    rintro e w1 ⟨rfl, rfl⟩
    go_wp2_with fail
    go_ret
    exact ⟨rfl, below_alloc _ _⟩

theorem specIsLanguage_any (w : World) (u : Value) (ns : List (List UInt8)) (fr : List UInt8) (h : ArgS w u ns) (hf : fr.length ≤ 9223372036854775807) :
    Calls Tryd.prog 15 #[.agg #[u, .string (bs fr)]] w fun e w' => e = .returned (.bool (langB ns fr)) ∧ Below w.heap.size w w' := by
  have H := Lib.hid (fun (W : World) (hb : Below w.heap.size w W) => snGood_any W u ns fr (argS_below h hb) hf)
  clear h
  go_enter Tryd.func15, Tryd.ntmps15
  go_wp2_with fail
  refine (H.out _ (below_alloc _ _)).mono ?_
  rintro e w1 ⟨rfl, hb⟩
  have HB := Lib.hid hb; clear hb
  go_wp2_with fail
  go_ret
  exact ⟨rfl, (below_alloc w _).trans (HB.out.mono (by simp))⟩
end Go.Proofs.YtampjipbemmicaaDoor
