/- Chapter 7: the text of a language, both sides; the law of LanguageText. -/
import Derived.Test.YtampjipbemmicaaDoor7H
import Derived.Deep.RegionWith
import Derived.Deep.RegionHeld3
namespace Go.Proofs.YtampjipbemmicaaDoor
open Go.RowKit Go.BigFrame Go.Deep
set_option linter.unusedSimpArgs false
set_option linter.unusedVariables false
set_option maxRecDepth 4000

/-- The first names, with commas between them. -/
def joinK (ns : List (List UInt8)) : Nat → List UInt8
  | 0 => []
  | k + 1 => joinK ns k ++ (if 0 < k then [44] else []) ++ ns.getD k []
def textL (ns : List (List UInt8)) (fr : List UInt8) : List UInt8 := joinK ns ns.length ++ [58] ++ fr
theorem joinK_len {ns : List (List UInt8)} (h : ∀ i, i < ns.length → (ns.getD i []).length ≤ 8) : ∀ k, k ≤ ns.length → (joinK ns k).length ≤ 9 * k
  | 0, _ => Nat.le_refl _
  | k + 1, hk => by
    have h1 := joinK_len h k (by omega)
    have h2 := h k (by omega)
    rw [joinK, List.length_append, List.length_append]
    generalize ns.getD k [] = x at *
    have h3 : (if 0 < k then ([44] : List UInt8) else []).length ≤ 1 := by split <;> simp
    omega
theorem joinK_take (ns : List (List UInt8)) (a : List (List UInt8)) : ∀ k, k ≤ ns.length → joinK (ns ++ a) k = joinK ns k
  | 0, _ => rfl
  | k + 1, hk => by
    rw [joinK, joinK, joinK_take ns a k (by omega)]
    congr 1
    simp [List.getD, List.getElem?_append_left (show k < ns.length by omega)]
theorem joinK_snoc (ns : List (List UInt8)) (x : List UInt8) : joinK (ns ++ [x]) (ns.length + 1) = joinK ns ns.length ++ (if 0 < ns.length then [44] else []) ++ x := by
  rw [joinK, joinK_take ns [x] ns.length (Nat.le_refl _)]
  congr 1
  simp [List.getD]
theorem lib_join_snoc (x : List UInt8) (sep : List UInt8) : ∀ (ns : List (List UInt8)), Go.Lib.join (ns ++ [x]) sep = Go.Lib.join ns sep ++ (if 0 < ns.length then sep else []) ++ x
  | [] => by simp [Go.Lib.join]
  | [a] => by simp [Go.Lib.join]
  | a :: b :: t => by
    have := lib_join_snoc x sep (b :: t)
    simp [Go.Lib.join] at this ⊢
    rw [this]
theorem lib_join (ns : List (List UInt8)) : Go.Lib.join ns [44] = joinK ns ns.length := by
  have key : ∀ (n : Nat) (ns : List (List UInt8)), ns.length = n → Go.Lib.join ns [44] = joinK ns ns.length := by
    intro n
    induction n with
    | zero => intro ns h; obtain rfl := List.eq_nil_of_length_eq_zero h; rfl
    | succ n ih =>
      intro ns h
      have hne : ns ≠ [] := by intro e; simp [e] at h
      have hd := List.dropLast_concat_getLast hne
      rw [← hd, lib_join_snoc, List.length_append, List.length_singleton, joinK_snoc, ih ns.dropLast (by simp [h])]
  exact key _ ns rfl

set_option maxHeartbeats 1000000 in
theorem snText_any (w : World) (u : Value) (ns : List (List UInt8)) (fr : List UInt8) (h : ArgS w u ns) (hl : langB ns fr = true) :
    Calls Tryd.prog 74 #[.agg #[u, .string (bs fr)]] w fun e w' => e = .returned (.string (bs (textL ns fr))) ∧ Below w.heap.size w w' := by
  obtain ⟨p1, p2, p3, _, p5⟩ := langB_parts hl
  have hjl := @joinK_len ns (fun i hi => (nameB_len (p5 i hi)).2)
  obtain ⟨A, C, rfl, hC, hCm, hcell⟩ := h
  obtain ⟨N, hN⟩ : ∃ N, N = ns.length := ⟨_, rfl⟩
  have HN := Lib.hid hN; have HC := Lib.hid hcell; have HJ := Lib.hid hjl
  have HP := Lib.hid p5
  rw [← hN] at hC p1 p2 ⊢
  clear hcell hjl hN p5 hl
  have hbf : (bs fr).size = fr.length := bs_size _
  go_enter Tryd.func74, Tryd.ntmps74
  go_wp2_with fail
  go_loop [3, 9] (fun t i => ∃ (k : Nat) (S : List UInt8), i = .int .i64 (k : Int) ∧ k ≤ N ∧ t = .string (bs S) ∧ S.length ≤ 9 * k ∧ Hid (S = joinK ns k)) (fun _ i => N - (intOf i).toNat)
  case atStart => exact ⟨0, [], rfl, Nat.zero_le _, rfl, Nat.le_refl _, rfl⟩
  case round =>
    obtain ⟨k, S, rfl, hk, rfl, hS, HX⟩ := hrel
    have hbs : (bs S).size = S.length := bs_size _
    by_cases hlt : k < N
    · have hk' : k < ns.length := by rw [← HN.out]; exact hlt
      obtain ⟨b, o, rfl, hb, hc, _⟩ := HC.out k hk'
      have hl8 := (nameB_len (HP.out k hk')).2
      obtain ⟨x, hx⟩ : ∃ x, x = ns[k] := ⟨_, rfl⟩
      have hxd : ns.getD k [] = x := by rw [hx]; simp [List.getD, hk']
      rw [hxd] at hl8
      rw [← hx] at hc
      have hcw : ∀ o', (w.alloc o').cell? ⟨b, o + k, none⟩ = some (.string (bs x)) := fun o' => ((below_alloc w o').cell (p := ⟨b, o + k, none⟩) hb).trans hc
      have hbx : (bs x).size = x.length := bs_size _
      have hnext : joinK ns (k + 1) = S ++ (if 0 < k then [44] else []) ++ x := by rw [joinK, hxd, HX.out]
      have HNX := Lib.hid hnext
      clear hc hx hxd hnext
      by_cases h0 : 0 < k
      · have hb2 : (bs S ++ bs [44]).size = S.length + 1 := by rw [ByteArray.size_append, hbs]; rfl
        have h44 : (⟨#[44]⟩ : ByteArray).size = 1 := rfl
        go_wp2_with fail
        go_round
        case rel => exact ⟨k + 1, S ++ [44] ++ x, by go_num, by omega, by rw [← bs_append, ← bs_append]; rfl, by simp; omega, by show _ = joinK ns (k + 1); rw [HNX.out, if_pos h0]⟩
        case measure => simp [intOf] <;> omega
      · go_wp2_with fail
        go_round
        case rel => exact ⟨k + 1, S ++ x, by go_num, by omega, by rw [← bs_append], by simp; omega, by show _ = joinK ns (k + 1); rw [HNX.out, if_neg h0, List.append_nil]⟩
        case measure => simp [intOf] <;> omega
    · obtain rfl : k = N := by omega
      have h58 : (⟨#[58]⟩ : ByteArray).size = 1 := rfl
      go_wp2_with fail
      go_ret
      exact ⟨ret_str (by unfold textL; rw [← HN.out, ← HX.out, ← bs_append, ← bs_append]; rfl), below_alloc _ _⟩

def textO (ns : List (List UInt8)) (fr : List UInt8) : List UInt8 := if langB ns fr = true then textL ns fr else []

set_option maxHeartbeats 1000000 in
theorem specLanguageText_any (w : World) (u : Value) (ns : List (List UInt8)) (fr : List UInt8) (h : ArgS w u ns) (hf : fr.length ≤ 9223372036854775807) :
    Calls Tryd.prog 43 #[.agg #[u, .string (bs fr)]] w fun e w' => e = .returned (.tuple #[.string (bs (textO ns fr)), .bool (langB ns fr)]) ∧ Below w.heap.size w w' := by
  have HTL := Lib.hid (fun (W : World) (hb : Below w.heap.size w W) => snGood_any W u ns fr (argS_below h hb) hf)
  have HIN := Lib.hid (fun (ht : langB ns fr = true) (W : World) (hb : Below w.heap.size w W) => snText_any W u ns fr (argS_below h hb) ht)
  obtain ⟨O, hO⟩ : ∃ O, O = textO ns fr := ⟨_, rfl⟩
  rw [← hO]
  unfold textO at hO
  generalize langB ns fr = T at *
  cases T with
  | false =>
    have E : O = [] := hO
    subst E
    clear hO
    go_enter Tryd.func43, Tryd.ntmps43
    go_wp2_with fail
    refine (HTL.out _ (below_alloc _ _)).mono ?_
    rintro e w1 ⟨rfl, hb⟩
    have HB := Lib.hid (below_trans (below_alloc _ _) hb); clear hb
    go_wp2_with fail
    go_ret2
    exact ⟨rfl, HB.out⟩
  | true =>
    have E : O = textL ns fr := hO
    have HIN2 := Lib.hid (HIN.out rfl)
    rw [← E] at HIN2
    clear HIN hO E
    go_enter Tryd.func43, Tryd.ntmps43
    go_wp2_with fail
    refine (HTL.out _ (below_alloc _ _)).mono ?_
    rintro e w1 ⟨rfl, hb⟩
    have hx1 := (twoAt_new w u (.string (bs fr)) 27).below hb
    obtain ⟨c0, c1, _, _⟩ := hx1.cells
    have HB := Lib.hid (below_trans (below_alloc _ _) hb); clear hb hx1
    go_wp2_with fail
    refine (HIN2.out _ HB.out).mono ?_
    rintro e w2 ⟨rfl, hb2⟩
    have HB2 := Lib.hid (below_trans HB.out hb2); clear hb2
    go_wp2_with fail
    go_ret2
    exact ⟨rfl, HB2.out⟩

theorem joinN_any (w : World) (u : Value) (ns : List (List UInt8)) (h : ArgS w u ns) (h1 : 1 ≤ ns.length) (h9 : ns.length ≤ 10) (hl : (joinK ns ns.length).length ≤ 1000) :
    Calls Tryd.prog 75 #[u, .string ⟨#[44]⟩] w fun e w' => e = .returned (.string (bs (joinK ns ns.length))) ∧ Below w.heap.size w w' := by
  obtain ⟨A, C, rfl, hC, hCm, hcell⟩ := h
  obtain ⟨b, o, rfl, hb, _⟩ := hcell 0 (by omega)
  have e0 : (⟨#[44]⟩ : ByteArray).data.toList = [44] := rfl
  have e1 : (ns.map bs).map (·.data.toList) = ns := by
    rw [List.map_map]
    conv => rhs; rw [← List.map_id ns]
    exact List.map_congr_left fun x _ => bs_list x
  have hj := Tryd.strings_Join b o C (ns.map bs) ⟨#[44]⟩ w (fun j x hx => by
    obtain ⟨hj, e⟩ := List.getElem?_eq_some_iff.1 hx
    have hj' : j < ns.length := by simpa using hj
    obtain ⟨b', o', q1, _, q3, _⟩ := hcell j hj'
    cases q1
    rw [q3, ← e]; simp) hb (by simp; omega) (by simpa using hC) (by rw [e0, e1, lib_join]; omega)
  rw [e0, e1, lib_join, List.length_map] at hj
  exact hj

set_option maxHeartbeats 2000000 in
theorem implLanguageText_any (w : World) (u : Value) (ns : List (List UInt8)) (fr : List UInt8) (h : ArgS w u ns) (hf : fr.length ≤ 9223372036854775807) :
    Calls Tryd.prog 44 #[.agg #[u, .string (bs fr)]] w fun e w' => e = .returned (.tuple #[.string (bs (textO ns fr)), .bool (langB ns fr)]) ∧ Below w.heap.size w w' := by
  have HTL := Lib.hid (fun (W : World) (hb : Below w.heap.size w W) => implIsLanguage_any W u ns fr (argS_below h hb) hf)
  obtain ⟨O, hO⟩ : ∃ O, O = textO ns fr := ⟨_, rfl⟩
  rw [← hO]
  unfold textO at hO
  by_cases hl : langB ns fr = true
  · obtain ⟨p1, p2, p3, _, p5⟩ := langB_parts hl
    have hjl := @joinK_len ns (fun i hi => (nameB_len (p5 i hi)).2) ns.length (Nat.le_refl _)
    have HJ := Lib.hid (fun (W : World) (hb : Below w.heap.size w W) => joinN_any W u ns (argS_below h hb) p1 p2 (by omega))
    rw [if_pos hl] at hO
    rw [hl] at HTL ⊢
    unfold textL at hO
    obtain ⟨J, hJ⟩ : ∃ J, J = joinK ns ns.length := ⟨_, rfl⟩
    rw [← hJ] at HJ hO hjl
    have hb1 : (bs J).size = J.length := bs_size _
    have hb3 : (bs fr).size = fr.length := bs_size _
    have h58 : (⟨#[58]⟩ : ByteArray).size = 1 := rfl
    have hjl2 : J.length ≤ 90 := by omega
    have HO := Lib.hid hO
    clear hO hJ hjl p1 p2 p5 h hl hf
    go_enter Tryd.func44, Tryd.ntmps44
    go_wp2_with fail
    refine (HTL.out _ (below_alloc _ _)).mono ?_
    rintro e w1 ⟨rfl, hb⟩
    have hx1 := (twoAt_new w u (.string (bs fr)) 27).below hb
    obtain ⟨c0, c1, _, _⟩ := hx1.cells
    have HX := Lib.hid hx1
    have HB := Lib.hid (below_trans (below_alloc _ _) hb); clear hb hx1
    go_wp2_with fail
    go_region_with (go_at_call 75; (with_reducible refine (HJ.out _ HB.out.drew).mono ?_); rintro e w2 ⟨rfl, hb2⟩; have hx2 := HX.out.drew.below hb2; obtain ⟨d0, d1, _, _⟩ := hx2.cells; have HB2 := Lib.hid hb2; clear hb2 hx2)
    all_goals
      go_wp2_with fail
      go_ret2
      refine ⟨?_, below_trans HB.out (below_trans (below_drew _) HB2.out)⟩
      rw [HO.out, ← bs_append, ← bs_append]; rfl
  · rw [if_neg hl] at hO
    have hl2 : langB ns fr = false := by simpa using hl
    rw [hl2] at HTL ⊢
    subst hO
    clear hl hl2 h
    go_enter Tryd.func44, Tryd.ntmps44
    go_wp2_with fail
    refine (HTL.out _ (below_alloc _ _)).mono ?_
    rintro e w1 ⟨rfl, hb⟩
    have HB := Lib.hid (below_trans (below_alloc _ _) hb); clear hb
    go_wp2_with fail
    go_ret2
    exact ⟨rfl, HB.out⟩
set_option maxHeartbeats 2000000 in
theorem law_LanguageText (u : Value) (ns : List (List UInt8)) (fr : List UInt8) (w : World) (h : ArgS w u ns) (hf : fr.length ≤ 9223372036854775807) :
    Calls Tryd.prog 12 #[.agg #[u, .string (bs fr)]] w fun e w' => e = .returned (.bool true) ∧ Below w.heap.size w w' := by
  have hsz := fun (W : World) (hb : Below w.heap.size w W) => szLanguage_any W u ns fr 1048576 (argS_below h hb) hf (Nat.le_refl _)
  by_cases hn : szLg ns fr ≤ 1048576
  · obtain ⟨m, hm⟩ : ∃ m : Nat, m = 1048576 - szLg ns fr := ⟨_, rfl⟩
    simp only [if_pos hn, ← hm] at hsz
    have HSZ := Lib.hid hsz
    have hN : ns.length ≤ 1048576 := by unfold szLg at hn; omega
    have hT : szT ns ≤ 1048576 := by unfold szLg at hn; omega
    have HT := Lib.hid (fun (W : World) (hb : Below w.heap.size w W) => toLanguage_any W u ns fr (argS_below h hb) hN)
    have HSP := Lib.hid (fun (W : World) (B : Nat) (v : Value) (hs : Strs W B v ns) => specLanguageText_any W v ns fr (strsO_argS hs hT) hf)
    have HIM := Lib.hid (fun (W : World) (B : Nat) (v : Value) (hs : Strs W B v ns) => implLanguageText_any W v ns fr (strsO_argS hs hT) hf)
    have HEQ := Lib.hid (fun (W : World) (Ba Bb : Nat) (va vb : Value) (ha : Strs W Ba va ns) (hb : Strs W Bb vb ns) => eqLanguage_same W Ba Bb va vb ns fr (strsO_of ha) (strsO_of hb))
    generalize textO ns fr = O at *
    generalize langB ns fr = G at *
    have e0 : ((bs O).toList != (bs O).toList) = false := by simp
    obtain ⟨N, hNN⟩ : ∃ N, N = ns.length := ⟨_, rfl⟩
    have HN := Lib.hid hNN; clear hNN
    have e1 : (G != G) = false := by simp
    clear hsz hm hn hT hN h
    go_enter Tryd.func12, Tryd.ntmps12
    go_wp2_with fail
    refine (HSZ.out _ (below_alloc _ _)).mono ?_
    rintro e w1 ⟨rfl, hb⟩
    have hx1 := (twoAt_new w u (.string (bs fr)) 24).below hb
    have HB1 := Lib.hid (below_trans (below_alloc _ _) hb)
    obtain ⟨c0, c1, _, _⟩ := hx1.cells
    have HX1 := Lib.hid hx1; clear hb hx1
    go_wp2_with fail
    refine (HT.out _ HB1.out).mono ?_
    rintro e w2 ⟨v2, rfl, hs2, hb2⟩
    have hx2 := HX1.out.below hb2
    have HB2 := Lib.hid (below_trans HB1.out hb2)
    obtain ⟨d0, d1, _, _⟩ := hx2.cells
    have HX2 := Lib.hid hx2; have HS2 := Lib.hid hs2; clear hx2 hb2 hs2 c0 c1
    go_wp2_with fail
    refine (HSP.out _ _ _ HS2.out).mono ?_
    rintro e w3 ⟨rfl, hb3⟩
    have hx3 := HX2.out.below hb3
    have HB3 := Lib.hid (below_trans HB2.out hb3)
    obtain ⟨c0, c1, _, _⟩ := hx3.cells
    have HX3 := Lib.hid hx3; clear hx3 hb3 d0 d1
    go_wp2_with fail
    refine (HT.out _ HB3.out).mono ?_
    rintro e w4 ⟨v4, rfl, hs4, hb4⟩
    have hx4 := HX3.out.below hb4
    have HB4 := Lib.hid (below_trans HB3.out hb4)
    obtain ⟨d0, d1, _, _⟩ := hx4.cells
    obtain ⟨a4, cp4, rfl⟩ := strs_slice hs4 HN.out
    have HX4 := Lib.hid hx4; have HS4 := Lib.hid hs4; clear hx4 hb4 hs4 c0 c1
    go_wp2_with fail
    refine (HIM.out _ _ _ (strs_below HS4.out (below_alloc _ _))).mono ?_
    rintro e w6 ⟨rfl, hb6⟩
    have hb46 : Below w4.heap.size w4 w6 := below_trans (below_alloc _ _) hb6
    have hy6 : TwoAt w6 w4.heap.size (.slice a4 N cp4) (.string (bs fr)) 27 := (twoAt_new w4 _ _ _).below hb6
    have hx6 : TwoAt w6 w.heap.size u (.string (bs fr)) 24 := TwoAt.below (HX4.out) hb46
    have hs6 := strs_below HS4.out hb46
    have HB6 := Lib.hid (below_trans HB4.out hb46)
    have HX6 := Lib.hid hx6; have HY6 := Lib.hid hy6; have HS6 := Lib.hid hs6
    obtain ⟨c0, c1, _, _⟩ := hx6.cells
    obtain ⟨g0, g1, _, _⟩ := hy6.cells
    clear hb6 hb46 hx6 hy6 hs6 d0 d1
    go_wp2_with fail
    go_region_with (first
      | (go_at_call 16; (with_reducible refine (HT.out _ HB6.out.drew).mono ?_); rintro e w7 ⟨v7, rfl, hs7, hb7⟩; have hy7 := HY6.out.drew.below hb7; obtain ⟨q0, q1, _, _⟩ := hy7.cells; have HS7 := Lib.hid hs7; have HB7 := Lib.hid hb7; clear hs7 hb7 hy7)
      | (go_at_call 18; (with_reducible refine (HEQ.out _ _ _ _ _ (strs_below HS6.out (below_trans (below_drew _) HB7.out)) HS7.out).mono ?_); rintro e w8 ⟨rfl, hb8⟩; have HB8 := Lib.hid hb8; clear hb8))
    all_goals
      go_wp2_with fail
      go_ret
      exact ⟨rfl, below_trans (below_trans (below_trans HB6.out (below_drew _)) HB7.out) HB8.out⟩
  · simp only [if_neg hn] at hsz
    have HSZ := Lib.hid hsz
    clear hsz
    go_enter Tryd.func12, Tryd.ntmps12
    go_wp2_with fail
    refine (HSZ.out _ (below_alloc _ _)).mono ?_
    rintro e w1 ⟨rfl, hb⟩
    have HB := Lib.hid hb; clear hb
    go_wp2_with fail
    go_ret
    exact ⟨rfl, below_trans (below_alloc _ _) HB.out⟩
end Go.Proofs.YtampjipbemmicaaDoor
