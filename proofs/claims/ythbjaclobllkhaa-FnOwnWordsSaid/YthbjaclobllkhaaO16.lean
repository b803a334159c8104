/- Law FnOwnWords. (By tools/geno16.py.) -/
import Derived.Test.YthbjaclobllkhaaO15
import Derived.Test.YthbjaclobllkhaaO9
import Derived.Test.YthbjaclobllkhaaD7
import Derived.Deep.DeepCutAuto
namespace Go.Proofs.Ythbjaclobllkhaa
open Go.RowKit Go.BigFrame Go.Shelf Go.Deep
set_option linter.unusedSimpArgs false
set_option linter.unusedVariables false
set_option maxRecDepth 4000

theorem good_sizeO {l : List UInt8} (h : goodL l = true) : (bs l).size ≤ 400 := by
  rw [bs_size]
  unfold goodL at h
  simp only [Bool.and_eq_true, decide_eq_true_eq] at h
  exact h.1.2
theorem begB_size {l : List UInt8} {a b : Int} (h : begB l a b = true) : l.length ≤ 400 := by
  unfold begB at h
  rw [Bool.and_eq_true] at h
  have := good_sizeO h.1
  rwa [bs_size] at this

set_option maxRecDepth 100000 in
set_option maxHeartbeats 16000000 in
theorem law_FnOwnWords (code : Value) (cs : List Int) (more : Value) (ms0 : List Int) (w : World) (hcs : ArgY w code cs) (hms : ArgY w more ms0) :
    Calls Try.prog 3 #[code, more] w fun e w' => e = .returned (.bool true) ∧ Below w.heap.size w w' := by
  have HMS0 := Lib.hid hms
  have HBIG := Lib.hid (big_any w code more cs ms0 hcs hms)
  have HD0 := Lib.hid (drawOwnWord_c w code cs hcs)
  clear hcs hms
  go_enter Try.func3, Try.ntmps3
  go_wp2_with fail
  refine HBIG.out.mono ?_
  rintro e wb ⟨b, rfl, rfl⟩
  clear HBIG
  cases b
  case true => (go_wp2_with fail; go_ret; exact ⟨rfl, Below.refl _ _⟩)
  go_wp2_with fail
  refine HD0.out.mono ?_
  rintro e wd ⟨a, b, n, rfl, ha10, hb10, hn10, hbd⟩
  have BD := Lib.hid hbd
  clear hbd HD0
  obtain ⟨y, hy⟩ : ∃ y, y = askB a b n 400 := ⟨_, rfl⟩
  obtain ⟨O, hO⟩ : ∃ O, O = bs ((ownO' a b n 400).getD []) := ⟨_, rfl⟩
  have h0 := fun W => implOwnWord_any a b n W
  have h1 := fun W => specOwnWord_any a b n W
  simp only [strOk_eq, ownO_some, ← hy, ← hO] at h0 h1
  have H0 := Lib.hid h0; have H1 := Lib.hid h1; have HY := Lib.hid hy; have HO := Lib.hid hO
  have ey : (y != y) = false := by simp
  have eO : (O.toList != O.toList) = false := by simp
  clear h0 h1 hy hO
  go_wp2_with fail
  refine (H0.out _).mono ?_
  rintro e w1 ⟨rfl, hb⟩
  have B0 := Lib.hid (below_trans BD.out hb); clear hb
  go_wp2_with fail
  refine (H1.out _).mono ?_
  rintro e w2 ⟨rfl, hb⟩
  have B1 := Lib.hid (below_trans B0.out hb); clear hb B0 H0 H1
  go_upto_if 101 with fail
  go_cut [] from 101 to 101 (fun wx => Hid (Below w.heap.size w wx))
  case first => as_aux_lemma =>
    cases y with
    | false =>
      go_wp2_with fail
      go_meet
      case rel => exact Lib.hid B1.out
    | true =>
      have hask : askB a b n 400 = true := HY.out.symm
      have eqO : O = bs (sgL (ownW a b n)) := by rw [HO.out, ownO_val hask]
      have h3 := askB_iff.1 hask
      obtain ⟨A, rfl⟩ : ∃ A : Nat, a = (A : Int) := ⟨a.toNat, by omega⟩
      obtain ⟨N, rfl⟩ : ∃ N : Nat, n = (N : Int) := ⟨n.toNat, by omega⟩
      have hsz : O.size = N := by rw [eqO, bs_size, sgL_len, ownW_len hask]; rfl
      have hli : O.data.toList = sgL (ownW A b N) := by rw [eqO, bs_list]
      obtain ⟨T, hT⟩ : ∃ T, T = bs (lensL (sgL (ownW A b N))) := ⟨_, rfl⟩
      have hTs : T.size ≤ N := by rw [hT, bs_size]; exact Nat.le_trans (lens_le _) (by rw [sgL_len, ownW_len hask]; exact Nat.le_refl _)
      have k0 := fun W => implIsOwnBeginning_any O (A : Int) b W (by unfold maxLen; omega)
      have k1 := fun W => implLengthsOf_any O W (by unfold maxLen; omega)
      rw [hli] at k0 k1
      rw [(own_begs hask).1, (own_begs hask).2] at k0
      rw [own_lenO hask] at k1
      unfold strOk at k1
      simp only [← hT] at k1
      have K0 := Lib.hid k0; have K1 := Lib.hid k1
      have HB := Lib.hid (fun i h0 h1 h2 => own_bytes hask T O hT eqO i h0 h1 h2)
      have hfirst : (ownW A b N)[0]? = some A := by
        have := gOwn_head A b.toNat N (by omega) (by omega) (by omega)
        exact this
      have h0N : 0 < O.size := by omega
      have hx0 := own_byte hask O eqO 0 h0N A hfirst
      have hA9 : A ≤ 9 := by omega
      have hN9 : N ≤ 400 := by omega
      have eN : ((N : Int) != (N : Int)) = false := by simp
      have eA : ((A : Int) != (A : Int)) = false := by simp
      have HT9 : T.size ≤ N := by omega
      have f1 : ((O[0].toNat : Nat) : Int) - 48 = (A : Int) := by omega
      have f2 : 48 ≤ O[0].toNat := by omega
      have f3 : ((A : Int) % 256) = (A : Int) := by omega
      clear k0 k1 hfirst hli hT eqO HY HO hask h3 eO ey hTs hx0 ha10 hb10 hn10
      go_wp2_with fail
      refine (K0.out _).mono ?_
      rintro e w3 ⟨rfl, hb⟩
      have B2 := Lib.hid (below_trans B1.out hb); clear hb B1
      go_wp2_with fail
      refine (K1.out _).mono ?_
      rintro e w4 ⟨rfl, hb⟩
      have B3 := Lib.hid (below_trans B2.out hb); clear hb B2
      go_wp2_with fail
      go_loopw [16] (fun iv wr => ∃ i : Nat, i ≤ T.size ∧ iv = .int .i64 (i : Int) ∧ Hid (Below w.heap.size w wr)) (fun iv _ => T.size - (intOf iv).toNat)
      case atStart => exact ⟨0, Nat.zero_le _, rfl, Lib.hid B3.out⟩
      case round => as_aux_lemma =>
        obtain ⟨i, hi, rfl, HW⟩ := hrel
        by_cases hlt : i + 1 < T.size
        · have p1 : i < T.size := by omega
          have p2 : i < O.size := by omega
          have p3 : (i : Int) + 1 < (T.size : Int) := by omega
          have hby := HB.out i (by omega) p1 p2
          have h255 : O[i].toNat ≤ 255 := by have := O[i].toNat_lt; omega
          have eB : (((T[i].toNat : Nat) : Int) != ((O[i].toNat : Nat) : Int)) = false := by rw [hby]; simp
          clear hby f1 f2 f3 hsz
          go_wp2_with fail
          go_quiet (fail)
          go_wp2_with fail
          go_roundw
          case rel => exact ⟨i + 1, by omega, by go_num, Lib.hid (by repeat' (first | exact HW.out | refine Below.trans ?_ (belowN _ _ _)))⟩
          case measure => simp [intOf] <;> omega
        · have p3 : ¬ ((i : Int) + 1 < (T.size : Int)) := by omega
          go_wp2_with fail
          go_meet
          case rel => exact Lib.hid HW.out
  case rest => as_aux_lemma =>
    clear HY HO B1 ey eO ha10 hb10 hn10
    have B2 := hcut; clear hcut
    obtain ⟨x1, hx1⟩ : ∃ x, x = wc := ⟨_, rfl⟩
    subst hx1
    have HDD := Lib.hid (drawOwnDigit_c x1 more ms0 (argY_below HMS0.out B2.out))
    go_wp2_with fail
    refine HDD.out.mono ?_
    rintro e x2 ⟨c, d, m, rfl, hc10, hd10, hm10, hb⟩
    have B3 := Lib.hid (below_trans B2.out hb); clear hb HDD B2
    obtain ⟨z, hz⟩ : ∃ z, z = askB c d m 100000 := ⟨_, rfl⟩
    obtain ⟨G, hG⟩ : ∃ G : Int, G = (if askB c d m 100000 = true then (ownDg c d m : Int) else 0) := ⟨_, rfl⟩
    obtain ⟨R, hR⟩ : ∃ R : Int, R = (if askB c d m 100000 = true then (ownRn c d m : Int) else 0) := ⟨_, rfl⟩
    have h0 := fun W => implOwnDigit_any c d m W
    have h1 := fun W => specOwnDigit_any c d m W
    have h2 := fun W => implOwnRun_any c d m W
    have h3 := fun W => specOwnRun_any c d m W
    unfold intOk at h0 h1 h2 h3
    simp only [← hG, ← hR] at h0 h1 h2 h3
    simp only [← hz] at h0 h1 h2 h3
    have H0 := Lib.hid h0; have H1 := Lib.hid h1; have H2 := Lib.hid h2; have H3 := Lib.hid h3
    have HZ := Lib.hid hz; have HG := Lib.hid hG; have HR := Lib.hid hR
    have ez : (z != z) = false := by simp
    have eG : (G != G) = false := by simp
    have eR : (R != R) = false := by simp
    clear h0 h1 h2 h3 hz hG hR
    go_wp2_with fail
    refine (H0.out _).mono ?_
    rintro e x3 ⟨rfl, hb⟩
    have C0 := Lib.hid hb; clear hb H0
    go_wp2_with fail
    refine (H1.out _).mono ?_
    rintro e x4 ⟨rfl, hb⟩
    have C1 := Lib.hid (below_trans C0.out hb); clear hb H1 C0
    go_wp2_with fail
    refine (H2.out _).mono ?_
    rintro e x5 ⟨rfl, hb⟩
    have C2 := Lib.hid (below_trans C1.out hb); clear hb H2 C1
    go_wp2_with fail
    refine (H3.out _).mono ?_
    rintro e x6 ⟨rfl, hb⟩
    have C3 := Lib.hid (below_trans C2.out hb); clear hb H3 C2
    have B4 := Lib.hid (below_trans B3.out C3.out); clear B3 C3
    go_upto_if 207 with fail
    go_cut [] from 207 to 207 (fun wx => Hid (Below x6.heap.size x6 wx))
    case first => as_aux_lemma =>
      cases z with
      | false =>
        go_wp2_with fail
        go_meet
        case rel => exact Lib.hid (Below.refl _ _)
      | true =>
        have hask : askB c d m 100000 = true := HZ.out.symm
        obtain ⟨⟨q1, q2, q3⟩, q4, q5⟩ := askB_iff.1 hask
        obtain ⟨C, rfl⟩ : ∃ C : Nat, c = (C : Int) := ⟨c.toNat, by omega⟩
        obtain ⟨D, rfl⟩ : ∃ D : Nat, d = (D : Int) := ⟨d.toNat, by omega⟩
        obtain ⟨M, rfl⟩ : ∃ M : Nat, m = (M : Int) := ⟨m.toNat, by omega⟩
        have hne : C ≠ D := by omega
        obtain ⟨r, s1, s2, s3, s4, s5⟩ := own_two C D M (by omega) (by omega) hne (by omega)
        obtain ⟨g, hg⟩ : ∃ g, g = gD C D r := ⟨_, rfl⟩
        rw [← hg] at s3 s5
        have hGg : G = (g : Int) := by rw [HG.out, if_pos hask, s3]
        have hRr : R = ((r + 1 : Nat) : Int) := by rw [HR.out, if_pos hask, s1]
        obtain ⟨Q, hQ⟩ : ∃ Q, Q = r + 1 := ⟨_, rfl⟩
        rw [← hQ] at hRr s1 s2
        obtain ⟨X, hX⟩ : ∃ X, X = ownCt C D M C := ⟨_, rfl⟩
        obtain ⟨Y, hY⟩ : ∃ Y, Y = ownCt C D M D := ⟨_, rfl⟩
        rw [← hX, ← hY] at s4
        have hpar : (Q % 2 = 1 ∧ g = C) ∨ (Q % 2 = 0 ∧ g = D) := by
          rcases Nat.mod_two_eq_zero_or_one Q with e | e
          · exact .inr ⟨e, by rw [hg, gD_even C D r (by omega)]⟩
          · exact .inl ⟨e, by rw [hg, gD_odd C D r (by omega)]⟩
        have hctC : ctB C D C M = true := by unfold ctB; rw [hask, Bool.true_and]; exact decide_eq_true (by omega)
        have hctD : ctB C D D M = true := by unfold ctB; rw [hask, Bool.true_and]; exact decide_eq_true (by omega)
        have k0 := fun W => implOwnCount_any (C : Int) D C M W
        have k1 := fun W => implOwnCount_any (C : Int) D D M W
        unfold intOk at k0 k1
        rw [hctC, if_pos rfl, ← hX] at k0
        rw [hctD, if_pos rfl, ← hY] at k1
        have k2 : 2 ≤ M → ∀ W, Calls Try.prog 15 #[.int .i64 (C : Int), .int .i64 (D : Int), .int .i64 (g : Int), .int .i64 ((M - 1 : Nat) : Int)] W fun e w' => e = .returned (.tuple #[.int .i64 (ownCt C D ((M - 1 : Nat) : Int) (g : Int) : Int), .bool true]) ∧ Below W.heap.size W w' := fun h2 W => by
          have h := implOwnCount_any (C : Int) D g ((M - 1 : Nat) : Int) W
          have e1 : ctB C D g ((M - 1 : Nat) : Int) = true := by
            unfold ctB
            rw [Bool.and_eq_true]
            exact ⟨askB_iff.2 ⟨⟨q1, q2, q3⟩, by omega, by omega⟩, decide_eq_true (by rcases hpar with e | e <;> omega)⟩
          unfold intOk at h
          rw [e1, if_pos rfl] at h
          exact h
        have k3 : 2 ≤ M → ∀ W, Calls Try.prog 13 #[.int .i64 (C : Int), .int .i64 (D : Int), .int .i64 ((M - 1 : Nat) : Int)] W fun e w' => e = .returned (.tuple #[.int .i64 (ownRn C D ((M - 1 : Nat) : Int) : Int), .bool true]) ∧ Below W.heap.size W w' := fun h2 W => by
          have h := implOwnRun_any (C : Int) D ((M - 1 : Nat) : Int) W
          have e1 : askB C D ((M - 1 : Nat) : Int) 100000 = true := askB_iff.2 ⟨⟨q1, q2, q3⟩, by omega, by omega⟩
          unfold intOk at h
          rw [e1, if_pos rfl] at h
          exact h
        have k4 : M ≤ 400 → ∀ W, Calls Try.prog 6 #[.int .i64 (C : Int), .int .i64 (D : Int), .int .i64 (M : Int)] W fun e w' => e = .returned (.tuple #[.string (bs (sgL (ownW C D M))), .bool true]) ∧ Below W.heap.size W w' := fun h4 W => by
          have h := implOwnWord_any (C : Int) D M W
          have e1 : askB C D M 400 = true := askB_iff.2 ⟨⟨q1, q2, q3⟩, q4, by omega⟩
          rw [strOk_eq, ownO_some, e1, ownO_val e1] at h
          exact h
        have k5 : (bs (sgL (ownW C D M))).size = M ∧ ∀ h : M - 1 < (bs (sgL (ownW C D M))).size, (bs (sgL (ownW C D M)))[M - 1].toNat = g + 48 := by
          have hsz : (bs (sgL (ownW C D M))).size = M := by rw [bs_size, sgL_len, ownW_len hask]; rfl
          refine ⟨hsz, fun h => own_byte hask _ rfl (M - 1) h g ?_⟩
          have hl : M - 1 < (ownW (C : Int) D M).length := by rw [ownW_len hask]; omega
          have e1 : (ownW (C : Int) D M).getD (M - 1) 0 = g := s3
          rw [List.getD_eq_getElem?_getD, List.getElem?_eq_getElem hl, Option.getD_some] at e1
          rw [List.getElem?_eq_getElem hl, e1]
        have K0 := Lib.hid k0; have K1 := Lib.hid k1; have K2 := Lib.hid k2; have K3 := Lib.hid k3; have K4 := Lib.hid k4; have K5 := Lib.hid k5
        have S5 := Lib.hid s5; have HXD := Lib.hid hX; have HYD := Lib.hid hY; have S4 := Lib.hid s4
        have hC9 : 1 ≤ C ∧ C ≤ 9 := by omega
        have hD9 : 1 ≤ D ∧ D ≤ 9 := by omega
        have hM9 : 1 ≤ M ∧ M ≤ 100000 := by omega
        have hQ9 : 1 ≤ Q ∧ Q ≤ M := ⟨by omega, s2⟩
        have hXY : X ≤ 100000 ∧ Y ≤ 100000 := by omega
        have hXYI : (X : Int) + (Y : Int) = (M : Int) := by omega
        have eM : ((M : Int) != (M : Int)) = false := by simp
        have HPAR := Lib.hid hpar
        have HQ := Lib.hid hQ
        have hg9 : 1 ≤ g ∧ g ≤ 9 := by rcases hpar with e | e <;> omega
        have hneI : ((C : Int) != (D : Int)) = true := by simp; omega
        have hneJ : ((D : Int) != (C : Int)) = true := by simp; omega
        have heqJ : ((C : Int) == (D : Int)) = false := beq_eq_false_iff_ne.2 (by omega)
        have eC : ((C : Int) != (C : Int)) = false := by simp
        have eD : ((D : Int) != (D : Int)) = false := by simp
        have eDD : ((D : Int) == (D : Int)) = true := by simp
        clear k0 k1 k2 k3 k4 k5 s1 s2 s3 s4 s5 hg hX hY hask q1 q2 q3 q4 q5 hctC hctD HZ HG HR hpar hQ hc10 hd10 hm10 hne B4
        subst hGg hRr
        clear eG eR
        go_upto_region 28 with fail
        go_cut [244] from 208 to 244 (fun u wx => u = .bool false ∧ wx = x6)
        case first => as_aux_lemma =>
          have l1 : ¬ ((Q : Int) < 1) := by omega
          have l2 : ¬ ((Q : Int) > (M : Int)) := by omega
          rcases HPAR.out with ⟨e1, rfl⟩ | ⟨e1, rfl⟩
          · have htm : ((Q : Int).tmod 2) = 1 := by rw [Int.tmod_eq_emod_of_nonneg (by omega)]; omega
            clear e1 hXYI
            go_wp2_with fail
            go_meet
            case rel => exact ⟨rfl, rfl⟩
          · have htm : ((Q : Int).tmod 2) = 0 := by rw [Int.tmod_eq_emod_of_nonneg (by omega)]; omega
            clear e1 hXYI
            go_wp2_with fail
            go_meet
            case rel => exact ⟨rfl, rfl⟩
        case rest => as_aux_lemma =>
          obtain ⟨rfl, rfl⟩ := hcut
          go_wp2_with fail
          refine (K0.out _).mono ?_
          rintro e x7 ⟨rfl, hb⟩
          have D0 := Lib.hid hb; clear hb K0
          go_wp2_with fail
          refine (K1.out _).mono ?_
          rintro e x8 ⟨rfl, hb⟩
          have D1 := Lib.hid (below_trans D0.out hb); clear hb K1 D0
          go_upto_if 275 with fail
          go_cut [] from 275 to 275 (fun wx => Hid (Below wc.heap.size wc wx))
          case first => as_aux_lemma =>
            by_cases h2 : 1 < M
            · have h2I : (1 : Int) < (M : Int) := by omega
              obtain ⟨P, hP⟩ : ∃ P, P = M - 1 := ⟨_, rfl⟩
              have hPI : (M : Int) - 1 = (P : Int) := by omega
              obtain ⟨t1, t2⟩ := S5.out (by omega)
              have k2 := K2.out (by omega)
              have k3 := K3.out (by omega)
              rw [← hP] at k2 k3 t1 t2
              obtain ⟨V, hV⟩ : ∃ V, V = ownCt C D (P : Int) (g : Int) := ⟨_, rfl⟩
              obtain ⟨L, hL⟩ : ∃ L, L = ownRn C D (P : Int) := ⟨_, rfl⟩
              rw [← hV] at k2 t1
              rw [← hL] at k3 t2
              have KK2 := Lib.hid k2; have KK3 := Lib.hid k3
              have T1 := Lib.hid t1
              have hL2 : L = Q ∨ L + 1 = Q := by have := HQ.out; omega
              clear k2 k3 t1 t2 hV hL hP K2 K3 K4 K5 S5
              rcases HPAR.out with ⟨e1, rfl⟩ | ⟨e1, rfl⟩
              · have hV2 : V + 1 = X := by rw [HXD.out]; exact T1.out
                have hVI : (V : Int) + 1 = (X : Int) := by omega
                have eX : ((X : Int) != (X : Int)) = false := by simp
                clear e1 hV2 T1 HXD HYD hXYI
                rcases hL2 with rfl | hL2
                · have eL : ((L : Int) != (L : Int)) = false := by simp
                  go_wp2_with fail
                  refine (KK2.out _).mono ?_
                  rintro e x9 ⟨rfl, hb⟩
                  have D2 := Lib.hid (below_trans D1.out hb); clear hb KK2
                  go_wp2_with fail
                  refine (KK3.out _).mono ?_
                  rintro e x10 ⟨rfl, hb⟩
                  have D3 := Lib.hid (below_trans D2.out hb); clear hb KK3
                  go_wp2_with fail
                  go_meet
                  case rel => exact D3
                · have eL : ((L : Int) != (Q : Int)) = true := by simp; omega
                  have hLI : (Q : Int) - 1 = (L : Int) := by omega
                  have eLL : ((L : Int) != (L : Int)) = false := by simp
                  clear hL2
                  go_wp2_with fail
                  refine (KK2.out _).mono ?_
                  rintro e x9 ⟨rfl, hb⟩
                  have D2 := Lib.hid (below_trans D1.out hb); clear hb KK2
                  go_wp2_with fail
                  refine (KK3.out _).mono ?_
                  rintro e x10 ⟨rfl, hb⟩
                  have D3 := Lib.hid (below_trans D2.out hb); clear hb KK3
                  go_wp2_with fail
                  go_meet
                  case rel => exact D3
              · have hV2 : V + 1 = Y := by rw [HYD.out]; exact T1.out
                have hVI : (V : Int) + 1 = (Y : Int) := by omega
                have eX : ((Y : Int) != (Y : Int)) = false := by simp
                clear e1 hV2 T1 HXD HYD hXYI
                rcases hL2 with rfl | hL2
                · have eL : ((L : Int) != (L : Int)) = false := by simp
                  go_wp2_with fail
                  refine (KK2.out _).mono ?_
                  rintro e x9 ⟨rfl, hb⟩
                  have D2 := Lib.hid (below_trans D1.out hb); clear hb KK2
                  go_wp2_with fail
                  refine (KK3.out _).mono ?_
                  rintro e x10 ⟨rfl, hb⟩
                  have D3 := Lib.hid (below_trans D2.out hb); clear hb KK3
                  go_wp2_with fail
                  go_meet
                  case rel => exact D3
                · have eL : ((L : Int) != (Q : Int)) = true := by simp; omega
                  have hLI : (Q : Int) - 1 = (L : Int) := by omega
                  have eLL : ((L : Int) != (L : Int)) = false := by simp
                  clear hL2
                  go_wp2_with fail
                  refine (KK2.out _).mono ?_
                  rintro e x9 ⟨rfl, hb⟩
                  have D2 := Lib.hid (below_trans D1.out hb); clear hb KK2
                  go_wp2_with fail
                  refine (KK3.out _).mono ?_
                  rintro e x10 ⟨rfl, hb⟩
                  have D3 := Lib.hid (below_trans D2.out hb); clear hb KK3
                  go_wp2_with fail
                  go_meet
                  case rel => exact D3
            · have h2I : ¬ (1 : Int) < (M : Int) := by omega
              clear K2 K3 K4 K5 S5 hXYI
              go_wp2_with fail
              go_meet
              case rel => exact D1
          case rest => as_aux_lemma =>
            have D2 := hcut; clear hcut D1 K2 K3 S5 HXD HYD S4 hXYI
            by_cases h4 : M ≤ 400
            · have h4I : (M : Int) ≤ 400 := by omega
              have k4 := K4.out h4
              obtain ⟨t1, t2⟩ := K5.out
              obtain ⟨T, hT⟩ : ∃ T, T = bs (sgL (ownW (C : Int) D M)) := ⟨_, rfl⟩
              rw [← hT] at k4 t1
              simp only [← hT] at t2
              obtain ⟨P, hP⟩ : ∃ P, P = M - 1 := ⟨_, rfl⟩
              have hPI : (M : Int) - 1 = (P : Int) := by omega
              have hPT : P < T.size := by omega
              have f0 : T[P].toNat = g + 48 := by simp only [hP]; exact t2 (by omega)
              have f1 : ((T[P].toNat : Nat) : Int) - 48 = (g : Int) := by omega
              have f2 : 48 ≤ T[P].toNat := by omega
              have f3 : ((g : Int) % 256) = (g : Int) := by omega
              have eg : ((g : Int) != (g : Int)) = false := by simp
              have KK4 := Lib.hid k4
              have hT4 : T.size ≤ 400 := by omega
              clear k4 t1 t2 hT hP f0 K4 K5
              go_wp2_with fail
              refine (KK4.out _).mono ?_
              rintro e x9 ⟨rfl, hb⟩
              have D3 := Lib.hid (below_trans D2.out hb); clear hb KK4
              go_wp2_with fail
              go_meet
              case rel => exact D3
            · have h4I : ¬ (M : Int) ≤ 400 := by omega
              clear K4 K5
              go_wp2_with fail
              go_meet
              case rel => exact D2
    case rest => as_aux_lemma =>
      have B5 := Lib.hid (below_trans B4.out hcut.out); clear hcut B4 HZ HG HR ez eG eR hc10 hd10 hm10
      obtain ⟨x7, hx7⟩ : ∃ x, x = wc := ⟨_, rfl⟩
      subst hx7
      have HD1 := Lib.hid (drawOwnCount_c x7 more ms0 (argY_below HMS0.out B5.out))
      go_wp2_with fail
      refine HD1.out.mono ?_
      rintro e x8 ⟨p, q, of, k, rfl, _, _, _, _, hb⟩
      have B6 := Lib.hid (below_trans B5.out hb); clear hb HD1 B5
      obtain ⟨cb, hcb⟩ : ∃ cb, cb = ctB p q of k := ⟨_, rfl⟩
      obtain ⟨cn, hcn⟩ : ∃ cn : Int, cn = (if ctB p q of k = true then (ownCt p q k of : Int) else 0) := ⟨_, rfl⟩
      have h0 := fun W => implOwnCount_any p q of k W
      have h1 := fun W => specOwnCount_any p q of k W
      unfold intOk at h0 h1
      simp only [← hcn] at h0 h1
      simp only [← hcb] at h0 h1
      have H0 := Lib.hid h0; have H1 := Lib.hid h1
      have ecb : (cb != cb) = false := by simp
      have ecn : (cn != cn) = false := by simp
      clear h0 h1 hcb hcn
      go_wp2_with fail
      refine (H0.out _).mono ?_
      rintro e x9 ⟨rfl, hb⟩
      have B7 := Lib.hid (below_trans B6.out hb); clear hb H0 B6
      go_wp2_with fail
      refine (H1.out _).mono ?_
      rintro e x10 ⟨rfl, hb⟩
      have B8 := Lib.hid (below_trans B7.out hb); clear hb H1 B7
      have HD2 := Lib.hid (drawIsOwnBeginning_c x10 more ms0 (argY_below HMS0.out B8.out))
      go_wp2_with fail
      refine HD2.out.mono ?_
      rintro e x11 ⟨wt, r, s, rfl, hwt, _, _, hb⟩
      have B9 := Lib.hid (below_trans B8.out hb); clear hb HD2 B8
      obtain ⟨l, hl⟩ : ∃ l, l = wt.data.toList := ⟨_, rfl⟩
      obtain ⟨bR, hbR⟩ : ∃ bR, bR = begR l r s := ⟨_, rfl⟩
      obtain ⟨bB, hbB⟩ : ∃ bB, bB = begB l r s := ⟨_, rfl⟩
      have hlsz : wt.size = l.length := by rw [hl]; exact (size_list wt).symm
      have h0 := fun W => implIsOwnBeginning_any wt r s W (by unfold maxLen; omega)
      have h1 := fun W => specIsOwnBeginning_any wt r s W (by unfold maxLen; omega)
      simp only [← hl] at h0 h1
      simp only [← hbR, ← hbB] at h0 h1
      have H0 := Lib.hid h0; have H1 := Lib.hid h1; have HL := Lib.hid hl; have HBR := Lib.hid hbR; have HBB := Lib.hid hbB; have HLS := Lib.hid hlsz; have HWT := Lib.hid hwt
      have ebR : (bR != bR) = false := by simp
      have ebB : (bB != bB) = false := by simp
      clear h0 h1 hl hbR hbB hlsz
      go_wp2_with fail
      refine (H0.out _).mono ?_
      rintro e x12 ⟨rfl, hb⟩
      have C0 := Lib.hid (below_trans B9.out hb); clear hb H0 B9
      go_wp2_with fail
      refine (H1.out _).mono ?_
      rintro e x13 ⟨rfl, hb⟩
      have C1 := Lib.hid (below_trans C0.out hb); clear hb H1 C0
      have HD3 := Lib.hid (drawWordOfLengths_c x13 more ms0 (argY_below HMS0.out C1.out))
      go_wp2_with fail
      refine HD3.out.mono ?_
      rintro e x14 ⟨lt, u, v, rfl, hlt, _, _, hb⟩
      have C2 := Lib.hid (below_trans C1.out hb); clear hb HD3 C1
      obtain ⟨ll, hll⟩ : ∃ ll, ll = lt.data.toList := ⟨_, rfl⟩
      obtain ⟨nb, hnb⟩ : ∃ nb, nb = (wlO ll u v).isSome := ⟨_, rfl⟩
      obtain ⟨WD, hWD⟩ : ∃ WD, WD = bs ((wlO ll u v).getD []) := ⟨_, rfl⟩
      have h0 := fun W => implWordOfLengths_any lt u v W (by unfold maxLen; omega)
      have h1 := fun W => specWordOfLengths_any lt u v W (by unfold maxLen; omega)
      simp only [← hll, strOk_eq] at h0 h1
      simp only [← hnb, ← hWD] at h0 h1
      have H0 := Lib.hid h0; have H1 := Lib.hid h1; have HLL := Lib.hid hll; have HNB := Lib.hid hnb; have HWD := Lib.hid hWD
      have enb : (nb != nb) = false := by simp
      have eWD : (WD.toList != WD.toList) = false := by simp
      clear h0 h1 hll hnb hWD
      go_wp2_with fail
      refine (H0.out _).mono ?_
      rintro e x15 ⟨rfl, hb⟩
      have C3 := Lib.hid (below_trans C2.out hb); clear hb H0 C2
      go_wp2_with fail
      refine (H1.out _).mono ?_
      rintro e x16 ⟨rfl, hb⟩
      have C4 := Lib.hid (below_trans C3.out hb); clear hb H1 C3
      have HD4 := Lib.hid (drawLengthsOf_c x16 more ms0 (argY_below HMS0.out C4.out))
      go_wp2_with fail
      refine HD4.out.mono ?_
      rintro e x17 ⟨tt, rfl, htt, hb⟩
      have C5 := Lib.hid (below_trans C4.out hb); clear hb HD4 C4
      have h0 := fun W => implLengthsOf_any tt W (by unfold maxLen; omega)
      have h1 := fun W => specLengthsOf_any tt W (by unfold maxLen; omega)
      obtain ⟨tb, htb⟩ : ∃ tb, tb = (lenO tt.data.toList).isSome := ⟨_, rfl⟩
      obtain ⟨TD, hTD⟩ : ∃ TD, TD = bs ((lenO tt.data.toList).getD []) := ⟨_, rfl⟩
      simp only [strOk_eq] at h0 h1
      simp only [← htb, ← hTD] at h0 h1
      have H0 := Lib.hid h0; have H1 := Lib.hid h1
      have etb : (tb != tb) = false := by simp
      have eTD : (TD.toList != TD.toList) = false := by simp
      clear h0 h1 htb hTD htt
      go_wp2_with fail
      refine (H0.out _).mono ?_
      rintro e x18 ⟨rfl, hb⟩
      have C6 := Lib.hid (below_trans C5.out hb); clear hb H0 C5
      go_wp2_with fail
      refine (H1.out _).mono ?_
      rintro e x19 ⟨rfl, hb⟩
      have C7 := Lib.hid (below_trans C6.out hb); clear hb H1 C6
      clear hwt hlt
      obtain ⟨pb, hpb⟩ : ∃ pb, pb = (bB && bR && decide (1 < wt.size)) := ⟨_, rfl⟩
      have HPB := Lib.hid hpb; clear hpb
      go_upto_region 60 with fail
      go_cut [463] from 455 to 463 (fun u wx => u = .bool pb ∧ wx = x19)
      case first => as_aux_lemma =>
        have h1 := HPB.out
        cases bB with
        | false =>
          have e1 : pb = false := h1
          subst e1
          clear h1
          go_wp2_with fail
          go_meet
          case rel => exact ⟨rfl, rfl⟩
        | true =>
          cases bR with
          | false =>
            have e1 : pb = false := h1
            subst e1
            clear h1
            go_wp2_with fail
            go_meet
            case rel => exact ⟨rfl, rfl⟩
          | true =>
            by_cases hp : 1 < wt.size
            · have e1 : pb = true := by rw [h1, decide_eq_true hp]; rfl
              have hpI : (1 : Int) < (wt.size : Int) := by omega
              subst e1
              clear h1
              go_wp2_with fail
              go_meet
              case rel => exact ⟨rfl, rfl⟩
            · have e1 : pb = false := by rw [h1, decide_eq_false hp]; rfl
              have hpI : ¬ (1 : Int) < (wt.size : Int) := by omega
              subst e1
              clear h1
              go_wp2_with fail
              go_meet
              case rel => exact ⟨rfl, rfl⟩
      case rest => as_aux_lemma =>
        obtain ⟨rfl, rfl⟩ := hcut
        go_upto_if 463 with fail
        go_cut [] from 463 to 463 (fun wx => Hid (Below w.heap.size w wx))
        case first => as_aux_lemma =>
          cases pb with
          | false =>
            go_wp2_with fail
            go_meet
            case rel => exact C7
          | true =>
            have h1 := HPB.out.symm
            rw [Bool.and_eq_true, Bool.and_eq_true, decide_eq_true_eq] at h1
            obtain ⟨⟨g1, g2⟩, g3⟩ := h1
            have hbr : begR l r s = true := by rw [← HBR.out]; exact g2
            have hl1 : 1 < l.length := by rw [← HLS.out]; exact g3
            obtain ⟨u1, u2⟩ := beg_less hbr hl1
            obtain ⟨K, hK⟩ : ∃ K, K = wt.size - 1 := ⟨_, rfl⟩
            have hKI : (wt.size : Int) - 1 = (K : Int) := by omega
            have hw402 := HWT.out
            have k0 := fun W => implIsOwnBeginning_any (wt.extract 0 K) r s W (by rw [ByteArray.size_extract]; unfold maxLen; omega)
            have e1 : (wt.extract 0 K).data.toList = l.dropLast := by
              rw [list_extract, ← HL.out, List.drop_zero, List.dropLast_eq_take]
              congr 1
              have := HLS.out
              omega
            rw [e1, u1, u2] at k0
            have K0 := Lib.hid k0
            have hKle : K ≤ wt.size := by omega
            clear k0 e1 u1 u2 hbr hl1 hK g1 g2 HPB HL HBR HBB HLS HWT
            go_wp2_with fail
            refine (K0.out _).mono ?_
            rintro e y1 ⟨rfl, hb⟩
            have C8 := Lib.hid (below_trans C7.out hb); clear hb K0
            go_wp2_with fail
            go_meet
            case rel => exact C8
        case rest => as_aux_lemma =>
          have C8 := hcut; clear hcut C7 HPB HL HBR HBB HLS HWT
          cases nb with
          | false =>
            clear HLL HNB HWD
            go_wp2_with fail
            go_ret
            exact ⟨rfl, C8.out⟩
          | true =>
            obtain ⟨w2d, w2, w3, w4⟩ := wl_ok HNB.out.symm
            have hWD2 : WD = bs (flatW ll u v ll.length) := by rw [HWD.out, w2]; rfl
            have htw := twoD_iff.1 w2d
            have hg : goodL (flatW ll u v ll.length) = true := by
              unfold wlO at w2
              split at w2
              · rename_i hc; exact hc.2.2
              · cases w2
            have hs400 := good_sizeO hg
            rw [← hWD2] at hs400
            have k0 := fun W => implLengthsOf_any WD W (by unfold maxLen; omega)
            rw [hWD2, bs_list, w3, ← hWD2] at k0
            unfold strOk at k0
            dsimp only at k0
            have hlt2 : bs ll = lt := by rw [HLL.out]; exact (bs_eq rfl).symm
            rw [hlt2] at k0
            obtain ⟨U, rfl⟩ : ∃ U : Nat, u = (U : Int) := ⟨u.toNat, by omega⟩
            have h0W : 0 < WD.size := by
              rw [hWD2, bs_size]
              exact (List.getElem?_eq_some_iff.1 w4).1
            have f0 : (WD[0].toNat : Int) = 48 + (U : Int) := by
              have e1 : WD[0] = dgw (U : Int) := by
                have := (List.getElem?_eq_some_iff.1 w4).2
                rw [← this]
                subst hWD2
                rfl
              rw [e1, dgw_nat (U : Int) (by omega) (by omega)]
            have f1 : ((WD[0].toNat : Nat) : Int) - 48 = (U : Int) := by omega
            have f2 : 48 ≤ WD[0].toNat := by omega
            have f3 : ((U : Int) % 256) = (U : Int) := by omega
            have eU : ((U : Int) == (U : Int)) = true := by simp
            have elt : (lt.toList == lt.toList) = true := by simp
            have K0 := Lib.hid k0
            clear k0 w2d w2 w3 w4 hWD2 htw hg hlt2 f0 HLL HNB HWD
            go_wp2_with fail
            refine (K0.out _).mono ?_
            rintro e y1 ⟨rfl, hb⟩
            have C9 := Lib.hid (below_trans C8.out hb); clear hb K0
            go_wp2_with fail
            go_ret
            exact ⟨rfl, C9.out⟩
end Go.Proofs.Ythbjaclobllkhaa
