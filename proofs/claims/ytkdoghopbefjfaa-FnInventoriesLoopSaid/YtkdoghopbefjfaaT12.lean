/- Ways of words: something is made of a text again and again: the models' WayOfWord and WayOfInventory, the program's wayFrom and its two callers. -/
import Derived.Test.YtkdoghopbefjfaaT6
import Derived.Test.YtkdoghopbefjfaaS
namespace Go.Proofs.Ytkdoghopbefjfaa
open Go.RowKit Go.BigFrame
set_option linter.unusedSimpArgs false
set_option linter.unusedVariables false
set_option maxRecDepth 4000

/-- A text changed so many times: all of them, or none if one cannot be changed. -/
def wayG (f : List UInt8 → Option (List UInt8)) : Nat → List UInt8 → Option (List (List UInt8))
  | 0, l => some [l]
  | n + 1, l => match wayG f n l with
    | some ls => match f (ls.getLastD []) with
      | some m => some (ls ++ [m])
      | none => none
    | none => none
theorem wayG_len (f : List UInt8 → Option (List UInt8)) : ∀ (n : Nat) (l : List UInt8) (ls : List (List UInt8)), wayG f n l = some ls → ls.length = n + 1
  | 0, l, ls, h => by simp [wayG] at h; subst h; rfl
  | n + 1, l, ls, h => by
    unfold wayG at h
    cases h1 : wayG f n l with
    | none => rw [h1] at h; cases h
    | some ks =>
      rw [h1] at h
      dsimp only at h
      cases h2 : f (ks.getLastD []) with
      | none => rw [h2] at h; cases h
      | some m =>
        rw [h2] at h
        simp at h; subst h
        simp [wayG_len f n l ks h1]
theorem wayG_none (f : List UInt8 → Option (List UInt8)) (l : List UInt8) (n m : Nat) (h : n ≤ m) (h0 : wayG f n l = none) : wayG f m l = none := by
  induction m with
  | zero => obtain rfl : n = 0 := by omega
            exact h0
  | succ m ih =>
    by_cases e : n = m + 1
    · subst e; exact h0
    · unfold wayG; rw [ih (by omega)]
/-- Each text of a way of a word has at most 400 bytes. -/
theorem wayG_mem (f : List UInt8 → Option (List UInt8)) (hf : ∀ l m, f l = some m → m.length ≤ 400) (n : Nat) (l : List UInt8) (hl : l.length ≤ 400) : ∀ ls, wayG f n l = some ls → ∀ m ∈ ls, m.length ≤ 400 := by
  induction n with
  | zero => intro ls h m hm; simp [wayG] at h; subst h; simp at hm; subst hm; exact hl
  | succ n ih =>
    intro ls h
    unfold wayG at h
    cases h1 : wayG f n l with
    | none => rw [h1] at h; cases h
    | some ks =>
      rw [h1] at h
      dsimp only at h
      cases h2 : f (ks.getLastD []) with
      | none => rw [h2] at h; cases h
      | some m =>
        rw [h2] at h
        simp at h; subst h
        intro q hq
        rw [List.mem_append] at hq
        rcases hq with hq | hq
        · exact ih ks h1 q hq
        · simp at hq; subst hq; exact hf _ _ h2
/-- The way, or nothing where the text is no word or the number is not told. -/
def wayGO (f : List UInt8 → Option (List UInt8)) (M : Int) (l : List UInt8) (n : Int) : Option (List (List UInt8)) := if goodL l = true ∧ 0 ≤ n ∧ n ≤ M then wayG f n.toNat l else none
def strVs (ls : List (List UInt8)) : List Value := ls.map (fun l => .string (bs l))
/-- A slice of texts of the call's own and true, or nil and false. -/
def StrsOk (o : Option (List (List UInt8))) (w w' : World) (e : Ending) : Prop :=
  ∃ v, e = .returned (.tuple #[v, .bool o.isSome]) ∧ w'.ownsRow w.heap.size 9 1 v (o.getD []).length (strVs (o.getD [])) ∧ Below w.heap.size w w' ∧ (o = none → v = .slice none 0 0)
theorem info_str : (Try.prog.info? 9).map (fun i => (i.zero, i.size, i.bytes)) = some (some (.string ⟨#[]⟩), 1, 16) := by kernel_rfl

theorem clone_any (s : ByteArray) (w : World) (hs : s.size ≤ 281474976710656) :
    Calls Try.prog 66 #[.string s] w fun e w' => e = .returned (.string s) ∧ Below w.heap.size w w' := by
  go_enter Try.func66, Try.ntmps66
  go_wp2_with fail
  refine (Try.stringslite_Clone s w hs).mono ?_
  rintro e w1 ⟨rfl, hb⟩
  have HB := Lib.hid hb; clear hb
  go_wp2_with fail
  go_ret
  exact ⟨rfl, HB.out⟩

theorem specInventory_bad (s : ByteArray) (n : Int) (w : World) (hs : s.size ≤ maxLen) (h : ¬ (goodL s.data.toList = true ∧ 0 ≤ n ∧ n ≤ 40)) :
    Calls Try.prog 34 #[.string s, .int .i64 n] w fun e w' => StrsOk none w w' e := by
  by_cases hg : goodL s.data.toList = true
  · have hn : decide ((0 : Int) ≤ n ∧ n ≤ 40) = false := by simp; intro h0; exact Int.not_le.1 (fun h1 => h ⟨hg, h0, h1⟩)
    have HG := Lib.hid hg; have HN := Lib.hid hn; clear hg hn h
    go_enter Try.func34, Try.ntmps34
    go_wp2_with fail
    refine (woGood_any s w hs).mono ?_
    rintro e w1 ⟨rfl, rfl⟩
    rw [HG.out]
    go_wp2_with fail
    refine (l1In_is false _ _ _ _ HN.out).mono ?_
    rintro e w1 ⟨rfl, rfl⟩
    go_wp2_with fail
    go_ret2
    exact ⟨_, rfl, World.ownsRow_nil _ _ _ _, Below.refl _ _, fun _ => rfl⟩
  · have hg : goodL s.data.toList = false := by simpa using hg
    have HG := Lib.hid hg; clear hg h
    go_enter Try.func34, Try.ntmps34
    go_wp2_with fail
    refine (woGood_any s w hs).mono ?_
    rintro e w1 ⟨rfl, rfl⟩
    rw [HG.out]
    go_wp2_with fail
    go_ret2
    exact ⟨_, rfl, World.ownsRow_nil _ _ _ _, Below.refl _ _, fun _ => rfl⟩

set_option maxHeartbeats 2000000 in
theorem specInventory_good (s : ByteArray) (n : Int) (w : World) (hs : s.size ≤ maxLen) (hg : goodL s.data.toList = true) (h0 : 0 ≤ n) (h1 : n ≤ 40) :
    Calls Try.prog 34 #[.string s, .int .i64 n] w fun e w' => StrsOk (wayG invO n.toNat s.data.toList) w w' e := by
  obtain ⟨N, rfl⟩ := Int.eq_ofNat_of_zero_le h0
  rw [Int.toNat_natCast]
  obtain ⟨i0, hi, hz0, hz1, hz2⟩ := info_parts info_str
  have hN : N ≤ 40 := by omega
  have hl := (goodL_parts hg).2.1
  have hn : decide ((0 : Int) ≤ N ∧ (N : Int) ≤ 40) = true := by simp; omega
  have HG := Lib.hid hg; have HN := Lib.hid hn; clear hg hn h0 h1
  go_enter Try.func34, Try.ntmps34
  go_wp2_with fail
  refine (woGood_any s w hs).mono ?_
  rintro e w1 ⟨rfl, rfl⟩
  rw [HG.out]
  go_wp2_with fail
  refine (l1In_is true _ _ _ _ HN.out).mono ?_
  rintro e w1 ⟨rfl, rfl⟩
  go_wp2_with fail
  go_loopw [1, 6] (fun t v wr => ∃ (k : Nat) (ls : List (List UInt8)), k ≤ N ∧ t = .int .i64 (((N - k : Nat)) : Int) ∧ Hid (wayG invO k s.data.toList = some ls ∧ wr.ownsRow w.heap.size 9 1 v (k + 1) (strVs ls) ∧ Below w.heap.size w wr)) (fun t _ _ => (intOf t).toNat)
  case atStart =>
    refine ⟨0, [s.data.toList], Nat.zero_le _, rfl, rfl, ?_, below_alloc _ _⟩
    have := own_lit w w.heap.size 9 [.string s] (Nat.le_refl _) (by simp [maxLen])
    have e : strVs [s.data.toList] = [.string s] := by
      simp only [strVs, List.map_cons, List.map_nil]
      rw [← bs_eq (t := s) rfl]
    rw [e]
    exact this
  case round =>
    obtain ⟨k, ls, hk, rfl, HX⟩ := hrel
    by_cases hlt : k < N
    · have hlen := wayG_len _ _ _ _ HX.out.1
      obtain ⟨last, hlast⟩ : ∃ last, last = ls.getLastD [] := ⟨_, rfl⟩
      have hmem : last ∈ ls := by
        rw [hlast]
        cases hq : ls with
        | nil => rw [hq] at hlen; simp at hlen
        | cons a r => rw [List.getLastD_eq_getLast?, List.getLast?_eq_some_getLast (by simp)]; exact List.getLast_mem _
      have hl4 : last.length ≤ 400 := wayG_mem _ (fun l m h => by have := invO_len h; omega) k _ (by simpa using hl) ls HX.out.1 last hmem
      have hsz : (bs last).size ≤ maxLen := by rw [bs_size]; unfold maxLen; omega
      have hatk : (strVs ls)[k]? = some (.string (bs last)) := by
        unfold strVs
        rw [List.getElem?_map, hlast]
        have : ls[k]? = some (ls.getLastD []) := by
          rw [List.getLastD_eq_getLast?, List.getLast?_eq_getElem?, hlen]
          simp [show k < ls.length by omega]
        rw [this]; rfl
      rcases own_open HX.out.2.1 with ⟨_, hx, _⟩ | ⟨g, cap, rfl, _, hg, hc1, hc2, hlv, hcell, _⟩
      · omega
      have hck : wr.cell? ⟨g, k, none⟩ = some (.string (bs last)) := by
        have hk1 : k < (strVs ls).length := by omega
        rw [hcell k hk1]
        rw [List.getElem?_eq_getElem hk1] at hatk
        exact hatk
      have hsub : (((N - k : Nat)) : Int) = (N : Int) - (k : Int) := by omega
      have hszr := HX.out.2.2.size
      have hcon := fun (W : World) => taOf_any (bs last) W hsz
      rw [bs_list] at hcon
      have HC := Lib.hid hcon; have HL := Lib.hid hlast; have HLN := Lib.hid hlen
      unfold maxLen at hc2
      rw [hsub]
      clear hcon hlast hlen hmem hatk hcell hlv
      have hkk : (k : Int) < (N : Int) := by omega
      have hpos : (0 : Int) < (N : Int) - (k : Int) := by omega
      cases hm : invO last with
      | none =>
        rw [hm] at HC
        have hw : wayG invO (k + 1) s.data.toList = none := by unfold wayG; rw [HX.out.1]; dsimp only; rw [← HL.out, hm]
        have hwn := wayG_none _ _ (k + 1) N (by omega) hw
        have HW := Lib.hid hwn; clear hm hw hwn
        go_wp2_with fail
        refine (HC.out wr).mono ?_
        rintro e w2 ⟨rfl, hb⟩
        have HB := Lib.hid hb; clear hb
        unfold strOk
        go_wp2_with fail
        go_ret2
        exact ⟨_, by rw [HW.out]; rfl, by rw [HW.out]; exact World.ownsRow_nil _ _ _ _, HX.out.2.2.trans (HB.out.mono HX.out.2.2.size), fun _ => rfl⟩
      | some m =>
        rw [hm] at HC
        have hw : wayG invO (k + 1) s.data.toList = some (ls ++ [m]) := by unfold wayG; rw [HX.out.1]; dsimp only; rw [← HL.out, hm]
        have HW := Lib.hid hw; clear hm hw
        go_wp2_with fail
        refine (HC.out wr).mono ?_
        rintro e w2 ⟨rfl, hb⟩
        have ho2 := own_below HX.out.2.1 hb
        have hb2 := HX.out.2.2.trans (hb.mono HX.out.2.2.size)
        have hsz2 := hb2.size
        have HO2 := Lib.hid ho2; have HB2 := Lib.hid hb2
        unfold strOk
        clear hb ho2 hb2 hck
        go_wp2_with (at_builtin; refine wpList_app _ rfl _ _ 27 rfl w.heap.size 9 i0 (.string ⟨#[]⟩) 16 Try.underlying27 hi hz0 hz1 hz2 rfl _ (k + 1) _ rfl (HO2.out.alloc _) ⟨w2.heap.size, 0, none⟩ 1 1 [.string (bs m)] rfl rfl ?c1 ?c2 ?c3 ?c4 ?c5 ?_)
        case c1 =>
          intro j u hj
          match j, hj with
          | 0, hj => simp at hj; subst hj; simp [Addr.add]
        case c2 => intro u hu; simp at hu; subst hu; rfl
        case c3 => unfold maxLen; omega
        case c4 => omega
        case c5 => simp; omega
        intro v' w3 hown' hgrow _
        have R1 := Lib.hid hown'
        have R2 := Lib.hid ((HB2.out.alloc hsz2 _).grown hgrow (by simp; omega) (fun q hq => (HO2.out.lt q hq).1))
        clear hown' hgrow
        go_wp2_with fail
        go_roundw
        case rel =>
          refine ⟨k + 1, ls ++ [m], by omega, by go_num, HW.out, ?_, R2.out⟩
          have := R1.out
          simp only [strVs, List.map_append, List.map_cons, List.map_nil] at this ⊢
          exact this
        case measure => simp [intOf] <;> omega
    · obtain rfl : k = N := by omega
      have hz : (((k - k : Nat)) : Int) = 0 := by omega
      rw [hz]
      go_wp2_with fail
      go_ret2
      refine ⟨_, by rw [HX.out.1]; rfl, ?_, HX.out.2.2, fun h => by rw [HX.out.1] at h; cases h⟩
      rw [HX.out.1]
      have := HX.out.2.1
      rw [Option.getD_some, wayG_len _ _ _ _ HX.out.1]
      exact this

theorem implInventory_bad (s : ByteArray) (n : Int) (w : World) (hs : s.size ≤ maxLen) (h : ¬ (goodL s.data.toList = true ∧ 0 ≤ n ∧ n ≤ 40)) :
    Calls Try.prog 22 #[.string s, .int .i64 n] w fun e w' => StrsOk none w w' e := by
  by_cases hg : goodL s.data.toList = true
  · have hn : decide ((0 : Int) ≤ n ∧ n ≤ 40) = false := by simp; intro h0; exact Int.not_le.1 (fun h1 => h ⟨hg, h0, h1⟩)
    have HG := Lib.hid hg; have HN := Lib.hid hn; clear hg hn h
    go_enter Try.func22, Try.ntmps22
    go_wp2_with fail
    refine (implIsWord_any s w hs).mono ?_
    rintro e w1 ⟨rfl, rfl⟩
    rw [HG.out]
    go_wp2_with fail
    refine (isWithin_is false _ _ _ _ HN.out).mono ?_
    rintro e w1 ⟨rfl, rfl⟩
    go_wp2_with fail
    go_ret2
    exact ⟨_, rfl, World.ownsRow_nil _ _ _ _, Below.refl _ _, fun _ => rfl⟩
  · have hg : goodL s.data.toList = false := by simpa using hg
    have HG := Lib.hid hg; clear hg h
    go_enter Try.func22, Try.ntmps22
    go_wp2_with fail
    refine (implIsWord_any s w hs).mono ?_
    rintro e w1 ⟨rfl, rfl⟩
    rw [HG.out]
    go_wp2_with fail
    go_ret2
    exact ⟨_, rfl, World.ownsRow_nil _ _ _ _, Below.refl _ _, fun _ => rfl⟩

set_option maxHeartbeats 2000000 in
theorem wayFromInventory_any (s : ByteArray) (N : Nat) (w : World) (hl : s.size ≤ 400) (hN : N ≤ 40) :
    Calls Try.prog 65 #[.string s, .int .i64 N, .func (.func 13) #[] #[]] w fun e w' => StrsOk (wayG invO N s.data.toList) w w' e := by
  obtain ⟨i0, hi, hz0, hz1, hz2⟩ := info_parts info_str
  go_enter Try.func65, Try.ntmps65
  go_wp2_with (first
    | (refine wpList_make_own _ rfl _ _ 27 rfl w.heap.size 9 i0 (.string ⟨#[]⟩) 1 Try.underlying27 hi hz0 hz1 .i64 .i64 ((N : Int) + 1) (N + 1) rfl rfl (by omega) (by rw [hz2]; omega) (by unfold maxLen; omega) (Nat.le_refl _) ?_; intro w1 hown hgr)
    | (at_builtin; refine wpList_app _ rfl _ _ 27 rfl w.heap.size 9 i0 (.string ⟨#[]⟩) 16 Try.underlying27 hi hz0 hz1 hz2 rfl _ 0 [] rfl (hown.alloc _) ⟨w1.heap.size, 0, none⟩ 1 1 [.string s] rfl rfl ?a1 ?a2 ?a3 ?a4 ?a5 ?_))
  case a1 =>
    intro j u hj
    match j, hj with
    | 0, hj => simp at hj; subst hj; simp [Addr.add]
  case a2 => intro u hu; simp at hu; subst hu; rfl
  case a3 => unfold maxLen; omega
  case a4 => omega
  case a5 => have h1 := hgr.size; simp; omega
  intro v0 w3 hown3 hg3 _
  have hbb := (Below.refl w.heap.size w).grown hgr (Nat.le_refl _) (fun k h => by cases h)
  have R0 := Lib.hid hown3
  have B0 := Lib.hid ((hbb.alloc hbb.size _).grown hg3 (by have := hbb.size; simp; omega) (fun q hq => (hown.lt q hq).1))
  clear hown3 hg3 hbb hown hgr
  go_wp2_with fail
  go_loopw [8, 20] (fun v t wr => ∃ (k : Nat) (ls : List (List UInt8)), k ≤ N ∧ t = .int .i64 (k : Int) ∧ Hid (wayG invO k s.data.toList = some ls ∧ wr.ownsRow w.heap.size 9 1 v (k + 1) (strVs ls) ∧ Below w.heap.size w wr)) (fun _ t _ => N - (intOf t).toNat)
  case atStart =>
    refine ⟨0, [s.data.toList], Nat.zero_le _, rfl, rfl, ?_, B0.out⟩
    have := R0.out
    have e : strVs [s.data.toList] = [.string s] := by
      simp only [strVs, List.map_cons, List.map_nil]
      rw [← bs_eq (t := s) rfl]
    rw [e]
    simpa using this
  case round =>
    obtain ⟨k, ls, hk, rfl, HX⟩ := hrel
    by_cases hlt : k < N
    · have hlen := wayG_len _ _ _ _ HX.out.1
      obtain ⟨last, hlast⟩ : ∃ last, last = ls.getLastD [] := ⟨_, rfl⟩
      have hmem : last ∈ ls := by
        rw [hlast]
        cases hq : ls with
        | nil => rw [hq] at hlen; simp at hlen
        | cons a r => rw [List.getLastD_eq_getLast?, List.getLast?_eq_some_getLast (by simp)]; exact List.getLast_mem _
      have hl4 : last.length ≤ 400 := wayG_mem _ (fun l m h => by have := invO_len h; omega) k _ (by simpa using hl) ls HX.out.1 last hmem
      have hsz : (bs last).size ≤ maxLen := by rw [bs_size]; unfold maxLen; omega
      have hatk : (strVs ls)[k]? = some (.string (bs last)) := by
        unfold strVs
        rw [List.getElem?_map, hlast]
        have : ls[k]? = some (ls.getLastD []) := by
          rw [List.getLastD_eq_getLast?, List.getLast?_eq_getElem?, hlen]
          simp [show k < ls.length by omega]
        rw [this]; rfl
      rcases own_open HX.out.2.1 with ⟨_, hx, _⟩ | ⟨g, cap, rfl, _, hg, hc1, hc2, hlv, hcell, _⟩
      · omega
      have hck : wr.cell? ⟨g, k, none⟩ = some (.string (bs last)) := by
        have hk1 : k < (strVs ls).length := by omega
        rw [hcell k hk1]
        rw [List.getElem?_eq_getElem hk1] at hatk
        exact hatk
      have hszr := HX.out.2.2.size
      have hcon := fun (W : World) => implInventoryOf_any (bs last) W hsz
      rw [bs_list] at hcon
      have HC := Lib.hid hcon; have HL := Lib.hid hlast; have HLN := Lib.hid hlen
      unfold maxLen at hc2
      clear hcon hlast hlen hmem hatk hcell hlv
      have hkk : (k : Int) < (N : Int) := by omega
      cases hm : invO last with
      | none =>
        rw [hm] at HC
        have hw : wayG invO (k + 1) s.data.toList = none := by unfold wayG; rw [HX.out.1]; dsimp only; rw [← HL.out, hm]
        have hwn := wayG_none _ _ (k + 1) N (by omega) hw
        have HW := Lib.hid hwn; clear hm hw hwn
        go_wp2_with fail
        refine (HC.out wr).mono ?_
        rintro e w2 ⟨rfl, hb⟩
        have HB := Lib.hid hb; clear hb
        unfold strOk
        go_wp2_with fail
        go_ret2
        exact ⟨_, by rw [HW.out]; rfl, by rw [HW.out]; exact World.ownsRow_nil _ _ _ _, HX.out.2.2.trans (HB.out.mono HX.out.2.2.size), fun _ => rfl⟩
      | some m =>
        rw [hm] at HC
        have hw : wayG invO (k + 1) s.data.toList = some (ls ++ [m]) := by unfold wayG; rw [HX.out.1]; dsimp only; rw [← HL.out, hm]
        have HW := Lib.hid hw; clear hm hw
        go_wp2_with fail
        refine (HC.out wr).mono ?_
        rintro e w2 ⟨rfl, hb⟩
        have ho2 := own_below HX.out.2.1 hb
        have hb2 := HX.out.2.2.trans (hb.mono HX.out.2.2.size)
        have hsz2 := hb2.size
        have HO2 := Lib.hid ho2; have HB2 := Lib.hid hb2
        unfold strOk
        clear hb ho2 hb2 hck
        go_wp2_with (at_builtin; refine wpList_app _ rfl _ _ 27 rfl w.heap.size 9 i0 (.string ⟨#[]⟩) 16 Try.underlying27 hi hz0 hz1 hz2 rfl _ (k + 1) _ rfl (HO2.out.alloc _) ⟨w2.heap.size, 0, none⟩ 1 1 [.string (bs m)] rfl rfl ?c1 ?c2 ?c3 ?c4 ?c5 ?_)
        case c1 =>
          intro j u hj
          match j, hj with
          | 0, hj => simp at hj; subst hj; simp [Addr.add]
        case c2 => intro u hu; simp at hu; subst hu; rfl
        case c3 => unfold maxLen; omega
        case c4 => omega
        case c5 => simp; omega
        intro v' w3 hown' hgrow _
        have R1 := Lib.hid hown'
        have R2 := Lib.hid ((HB2.out.alloc hsz2 _).grown hgrow (by simp; omega) (fun q hq => (HO2.out.lt q hq).1))
        clear hown' hgrow
        go_wp2_with fail
        go_roundw
        case rel =>
          refine ⟨k + 1, ls ++ [m], by omega, by go_num, HW.out, ?_, R2.out⟩
          have := R1.out
          simp only [strVs, List.map_append, List.map_cons, List.map_nil] at this ⊢
          exact this
        case measure => simp [intOf] <;> omega
    · obtain rfl : k = N := by omega
      go_wp2_with fail
      go_ret2
      refine ⟨_, by rw [HX.out.1]; rfl, ?_, HX.out.2.2, fun h => by rw [HX.out.1] at h; cases h⟩
      rw [HX.out.1]
      have := HX.out.2.1
      rw [Option.getD_some, wayG_len _ _ _ _ HX.out.1]
      exact this


set_option maxHeartbeats 2000000 in
theorem implInventory_good (s : ByteArray) (n : Int) (w : World) (hs : s.size ≤ maxLen) (hg : goodL s.data.toList = true) (h0 : 0 ≤ n) (h1 : n ≤ 40) :
    Calls Try.prog 22 #[.string s, .int .i64 n] w fun e w' => StrsOk (wayG invO n.toNat s.data.toList) w w' e := by
  obtain ⟨N, rfl⟩ := Int.eq_ofNat_of_zero_le h0
  rw [Int.toNat_natCast]
  have hN : N ≤ 40 := by omega
  have hl := (goodL_parts hg).2.1
  have hs4 : s.size ≤ 400 := hl
  have hn : decide ((0 : Int) ≤ N ∧ (N : Int) ≤ 40) = true := by simp; omega
  obtain ⟨R, hR⟩ : ∃ R, R = wayG invO N s.data.toList := ⟨_, rfl⟩
  have hwf := fun W => wayFromInventory_any s N W hl hN
  rw [← hR] at hwf ⊢
  have HG := Lib.hid hg; have HN := Lib.hid hn; have HWF := Lib.hid hwf; clear hg hn h0 h1 hwf hR
  go_enter Try.func22, Try.ntmps22
  go_wp2_with fail
  refine (implIsWord_any s w hs).mono ?_
  rintro e w1 ⟨rfl, rfl⟩
  rw [HG.out]
  go_wp2_with fail
  refine (isWithin_is true _ _ _ _ HN.out).mono ?_
  rintro e w1 ⟨rfl, rfl⟩
  go_wp2_with fail
  refine (clone_any s _ (by omega)).mono ?_
  rintro e w1 ⟨rfl, hb⟩
  have HB := Lib.hid hb; clear hb
  go_wp2_with fail
  refine (HWF.out w1).mono ?_
  rintro e w2 ⟨v, rfl, h2, h3, h4⟩
  have H2 := Lib.hid h2; have H3 := Lib.hid h3; have H4 := Lib.hid h4; clear h2 h3 h4
  go_wp2_with fail
  go_ret2
  exact ⟨v, rfl, own_mono H2.out HB.out.size, below_trans HB.out H3.out, H4.out⟩
end Go.Proofs.Ytkdoghopbefjfaa
