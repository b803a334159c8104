/- Texts that belong together: V1, V2, V3, V4, V5. -/
import Derived.Test.YtkdoghopbefjfaaT17
import Derived.Test.YtkdoghopbefjfaaT9
import Derived.Test.YtkdoghopbefjfaaT10
import Derived.Deep.RegionHeldLaw
/- Words of which a word is the inventory: plain lists; the model's taHeard. -/
namespace Go.Proofs.Ytkdoghopbefjfaa
open Go.RowKit Go.BigFrame
set_option linter.unusedSimpArgs false
set_option linter.unusedVariables false
set_option maxRecDepth 4000

def heardK (rec : List Nat → List UInt8 → List (List UInt8)) (ts : List Nat) (b : List UInt8) (k : Nat) : List (List UInt8) :=
  (List.range k).flatMap fun i => if ts.getD i 0 = 0 then [] else rec (ts.set i (ts.getD i 0 - 1)) (b ++ numL (i + 1))
/-- All texts with so many of each digit behind a beginning, in order. -/
def heardL : Nat → List Nat → List UInt8 → List (List UInt8)
  | 0, _, b => [b]
  | n + 1, ts, b => heardK (heardL n) ts b 9
theorem heardK_succ (rec : List Nat → List UInt8 → List (List UInt8)) (ts : List Nat) (b : List UInt8) (k m : Nat) (h : ts[k]? = some m) :
    heardK rec ts b (k + 1) = heardK rec ts b k ++ if m = 0 then [] else rec (ts.set k (m - 1)) (b ++ numL (k + 1)) := by
  unfold heardK
  rw [List.range_succ, List.flatMap_append, List.flatMap_singleton, List.getD_eq_getElem?_getD, h]
  rfl
theorem heardK_len (rec : List Nat → List UInt8 → List (List UInt8)) (ts : List Nat) (b : List UInt8) (M : Nat) (h : ∀ i m, ts[i]? = some (m + 1) → (rec (ts.set i m) (b ++ numL (i + 1))).length ≤ M) : ∀ k, k ≤ ts.length → (heardK rec ts b k).length ≤ k * M
  | 0, _ => by simp [heardK]
  | k + 1, hk => by
    have h1 := heardK_len rec ts b M h k (by omega)
    rw [heardK_succ rec ts b k _ (List.getElem?_eq_getElem (by omega)), List.length_append, Nat.succ_mul]
    split
    · simp; omega
    · rename_i hne
      obtain ⟨m, hm⟩ : ∃ m, ts[k] = m + 1 := ⟨ts[k] - 1, by omega⟩
      have := h k m (by rw [List.getElem?_eq_getElem (by omega), hm])
      rw [hm, Nat.add_sub_cancel]
      omega
theorem heardK_pos (rec : List Nat → List UInt8 → List (List UInt8)) (ts : List Nat) (b : List UInt8) (h : ∀ i m, ts[i]? = some (m + 1) → 0 < (rec (ts.set i m) (b ++ numL (i + 1))).length) (i m : Nat) (hi : ts[i]? = some (m + 1)) : ∀ k, i < k → 0 < (heardK rec ts b k).length
  | 0, hk => by omega
  | k + 1, hk => by
    by_cases e : i = k
    · subst e
      rw [heardK_succ rec ts b i _ hi, List.length_append, if_neg (by omega), Nat.add_sub_cancel]
      have := h i m hi
      omega
    · have h1 := heardK_pos rec ts b h i m hi k (by omega)
      have : heardK rec ts b (k + 1) = heardK rec ts b k ++ (fun i => if ts.getD i 0 = 0 then [] else rec (ts.set i (ts.getD i 0 - 1)) (b ++ numL (i + 1))) k := by
        unfold heardK
        rw [List.range_succ, List.flatMap_append, List.flatMap_singleton]
      rw [this, List.length_append]
      omega
theorem sum_set : ∀ (ts : List Nat) (i m : Nat), ts[i]? = some (m + 1) → (ts.set i m).sum + 1 = ts.sum
  | [], i, m, h => by simp at h
  | a :: r, 0, m, h => by simp at h; subst h; simp; omega
  | a :: r, i + 1, m, h => by
    have := sum_set r i m (by simpa using h)
    simp; omega
theorem sum_zero {ts : List Nat} (h9 : ts.length = 9) : ts.sum = 0 ↔ ts = zeros9 := by
  constructor
  · intro h
    apply List.ext_getElem h9
    intro i h1 h2
    rw [show zeros9[i] = 0 from List.getElem_replicate _]
    have : ∀ (l : List Nat), l.sum = 0 → ∀ x ∈ l, x = 0 := by
      intro l
      induction l with
      | nil => simp
      | cons a r ih =>
        intro hs x hx
        simp at hs
        rcases List.mem_cons.1 hx with rfl | hx
        · omega
        · exact ih (by omega) x hx
    exact this ts h _ (List.getElem_mem _)
  · rintro rfl; rfl
theorem le_sumT : ∀ (ts : List Nat) (i m : Nat), ts[i]? = some m → m ≤ ts.sum
  | [], i, m, h => by simp at h
  | a :: r, 0, m, h => by simp at h; subst h; simp
  | a :: r, i + 1, m, h => by have := le_sumT r i m (by simpa using h); simp; omega
theorem pos_of_sum {ts : List Nat} {n : Nat} (h9 : ts.length = 9) (h : ts.sum = n + 1) : ∃ i m, i < 9 ∧ ts[i]? = some (m + 1) := by
  apply Classical.byContradiction
  intro hh
  have hz : ts = zeros9 := by
    apply List.ext_getElem h9
    intro i h1 h2
    rw [show zeros9[i] = 0 from List.getElem_replicate _]
    apply Classical.byContradiction
    intro hne
    exact hh ⟨i, ts[i] - 1, by omega, by rw [List.getElem?_eq_getElem h1]; congr 1; omega⟩
  rw [hz] at h
  simp [zeros9] at h
theorem heardL_facts : ∀ (n : Nat) (ts : List Nat) (b : List UInt8), ts.length = 9 → ts.sum = n → 0 < (heardL n ts b).length ∧ (heardL n ts b).length ≤ 9 ^ n
  | 0, ts, b, _, _ => by simp [heardL]
  | n + 1, ts, b, h9, hs => by
    have ih : ∀ i m, ts[i]? = some (m + 1) → 0 < (heardL n (ts.set i m) (b ++ numL (i + 1))).length ∧ (heardL n (ts.set i m) (b ++ numL (i + 1))).length ≤ 9 ^ n := fun i m h =>
      heardL_facts n _ _ (by simpa using h9) (by have := sum_set ts i m h; omega)
    obtain ⟨i, m, hi9, hi⟩ := pos_of_sum h9 hs
    refine ⟨heardK_pos _ ts b (fun i m h => (ih i m h).1) i m hi 9 hi9, ?_⟩
    have := heardK_len (heardL n) ts b (9 ^ n) (fun i m h => (ih i m h).2) 9 (by omega)
    rw [Nat.pow_succ]
    simp only [heardL]
    omega

theorem own_copyV {w : World} {g : Nat} {xs : List Int} (hce : ∀ i (hi : i < xs.length), w.cell? ⟨g, i, none⟩ = some (.int .i64 xs[i])) : ∀ j u, (ivs xs)[j]? = some u → (w.alloc (.cells #[] 3)).cell? ((⟨g, 0, none⟩ : Addr).add j) = some u := by
  intro j u hj
  rw [add_plainT, Nat.zero_add]
  obtain ⟨hjl, e⟩ := List.getElem?_eq_some_iff.1 hj
  have hjl' : j < xs.length := by simpa [ivs] using hjl
  have hlt := World.block_lt_of_cell? w _ (hce j hjl')
  rw [(below_alloc w _).cell (p := ⟨g, j, none⟩) hlt, hce j hjl', ← e]
  simp [ivs]
theorem intsA_atV {w : World} {B : Nat} {v : Value} {xs : List Int} (h : IntsA w B v xs) (h1 : 1 ≤ xs.length) :
    ∃ g cap, v = .slice (some ⟨g, 0, none⟩) xs.length cap ∧ xs.length ≤ cap ∧ cap ≤ 9223372036854775807 ∧ B ≤ g ∧ g < w.heap.size ∧ (∀ i (hi : i < xs.length), w.cell? ⟨g, i, none⟩ = some (.int .i64 xs[i])) := by
  rcases intsA_open h with ⟨rfl, rfl⟩ | ⟨g, cap, E, rest, rfl, hB, hg, _, _, hcp, hcc, hce⟩
  · simp at h1
  · exact ⟨g, cap, rfl, hcc, hcp, hB, hg, hce⟩
theorem intsA_sliceV {w : World} {B : Nat} {v : Value} {xs : List Int} (h : IntsA w B v xs) : ∃ a cap, v = .slice a xs.length cap ∧ cap ≤ 9223372036854775807 ∧ xs.length ≤ 9223372036854775807 := by
  rcases intsA_open h with ⟨rfl, rfl⟩ | ⟨g, cap, E, rest, rfl, hB, hg, _, hn, hcp, hcc, hce⟩
  · exact ⟨_, 0, rfl, by omega, by simp⟩
  · exact ⟨_, _, rfl, hcp, hn⟩
set_option maxHeartbeats 1000000 in
theorem l1OwnV_any (w : World) (B : Nat) (v : Value) (xs : List Int) (ha : IntsA w B v xs) (h1 : 1 ≤ xs.length) (h9 : xs.length ≤ 1000) :
    Calls Try.prog 89 #[v] w fun e w' => ∃ g c, e = .returned (.slice (some ⟨g, 0, none⟩) xs.length c) ∧ IntsA w' w.heap.size (.slice (some ⟨g, 0, none⟩) xs.length c) xs ∧ Below w.heap.size w w' := by
  obtain ⟨i0, hi, hz0, hz1, hz2⟩ := info_parts info_intT
  obtain ⟨g, cap, rfl, hc1, hc2, _, hg, hce⟩ := intsA_atV ha h1
  have hcp := own_copyV hce
  obtain ⟨N, hN⟩ : ∃ N, N = xs.length := ⟨_, rfl⟩
  have HC := Lib.hid hcp; have HN := Lib.hid hN
  rw [← hN] at hc1 h1 h9 ⊢
  clear ha hce hcp hN
  go_enter Try.func89, Try.ntmps89
  go_wp2_with (at_builtin; refine wpList_app _ rfl _ _ 32 rfl w.heap.size 3 i0 (.int .i64 0) 8 Try.underlying32 hi hz0 hz1 hz2 rfl _ 0 [] rfl (own_lit w w.heap.size 3 [] (Nat.le_refl _) (by simp [maxLen])) ⟨g, 0, none⟩ N cap (ivs xs) rfl (by rw [HN.out]; simp [ivs]) HC.out ?c2 ?c3 ?c4 ?c5 ?_)
  case c2 =>
    intro u hu
    simp only [ivs, List.mem_map] at hu
    obtain ⟨l, _, rfl⟩ := hu
    rfl
  case c3 => unfold maxLen; omega
  case c4 => omega
  case c5 => simp
  intro v' w3 hown' hgrow _
  rcases own_open hown' with ⟨_, h0, _⟩ | ⟨g', c', rfl, _, _, _, _, _, _, _⟩
  · omega
  have R1 := Lib.hid hown'
  have R2 := Lib.hid ((below_alloc w _).grown hgrow (by simp) (fun q hq => by cases hq; exact Nat.le_refl _))
  clear hown' hgrow
  go_wp2_with fail
  go_ret
  have hr : w3.ownsRow w.heap.size 3 1 (.slice (some ⟨g', 0, none⟩) N c') N (ivs xs) := by have := R1.out; simpa using this
  refine ⟨g', c', by first | rfl | (simp; done), intsA_of ?_, R2.out⟩
  unfold Ints
  rw [← HN.out]
  exact hr


/-- What a call that gives texts leaves. -/
def TextsOk (ls : List (List UInt8)) (w w' : World) (e : Ending) : Prop :=
  ∃ g c, e = .returned (.slice (some ⟨g, 0, none⟩) ls.length c) ∧ w'.ownsRow w.heap.size 9 1 (.slice (some ⟨g, 0, none⟩) ls.length c) ls.length (strVs ls) ∧ Below w.heap.size w w'
theorem strs_news {w : World} {B g n c : Nat} {ls : List (List UInt8)} (h : w.ownsRow B 9 1 (.slice (some ⟨g, 0, none⟩) n c) n (strVs ls)) (hn : n = ls.length) : ∀ j u, (strVs ls)[j]? = some u → w.cell? ((⟨g, 0, none⟩ : Addr).add j) = some u := by
  intro j u hj
  rw [add_plainT, Nat.zero_add]
  obtain ⟨hjl, e⟩ := List.getElem?_eq_some_iff.1 hj
  have hjl' : j < ls.length := by simpa [strVs] using hjl
  rw [strs_cells h hn j hjl', ← e]
  simp [strVs]
theorem strs_one (ls : List (List UInt8)) : ∀ u ∈ strVs ls, u.oneCell' = true := by
  intro u hu
  simp only [strVs, List.mem_map] at hu
  obtain ⟨l, _, rfl⟩ := hu
  rfl
end Go.Proofs.Ytkdoghopbefjfaa

/- Words of which a word is the inventory: the model's taHeard, the program's wordsBehind. -/
namespace Go.Proofs.Ytkdoghopbefjfaa
open Go.RowKit Go.BigFrame
set_option linter.unusedSimpArgs false
set_option linter.unusedVariables false
set_option maxRecDepth 4000

theorem step_appV {P : Program} {w : World} {ops : Array Oper} {o : Oper} {a : Act} {K : Act → World → Prop} {Q : Exit → Act → World → Prop} {E : Prop} (hgd : o.guard = none) (s x : Operand) (t : TypeId)
    (ho : o.op = .call { callee := .builtin .append, args := #[s, x], argTypes := #[t, t] })
    (base : Nat) (e : TypeId) (i : TypeInfo) (z : Value) (bytes : Nat) (ht : P.underlying t = some (.slice e)) (hi : P.info? e = some i) (hz : i.zero = some z)
    (hsize : i.size = 1) (hby : i.bytes = bytes) (hzs : z.cells.size = 1)
    (v : Value) (n : Nat) (xs : List Value) (hs : a.eval s = v) (hown : w.ownsRow base e 1 v n xs)
    (ad : Addr) (m c : Nat) (news : List Value) (hx : a.eval x = .slice (some ad) m c) (hl : news.length = m) (hnews : ∀ j u, news[j]? = some u → w.cell? (ad.add j) = some u) (h1 : ∀ u ∈ news, u.oneCell' = true)
    (h63 : n + m ≤ maxLen) (hbytes : (n + m) * bytes ≤ 140737488355328) (hbase : base ≤ w.heap.size)
    (h : ∀ v' w', w'.ownsRow base e 1 v' (n + m) (xs ++ news) → w.grownBy w' v.ownBlock → (v'.ownBlock = v.ownBlock ∨ v'.ownBlock = some w.heap.size) → K (a.put o.dst v') w') :
    if Region.wanted o (yielded ops a.tmps) = true then Oper.wp P o a w K Q else E := by
  have hwt : Region.wanted o (yielded ops a.tmps) = true := by simp [Region.wanted, hgd]
  rw [if_pos hwt]
  obtain ⟨v', w', hr, h2, h3, h4⟩ := run_append_own (P := P) w base t o.type e i z 1 bytes ht hi hz hsize hby hzs (by decide) v n xs hown ad m c news (by omega) hnews h1 h63 hbytes hbase
  have hw := append_where w base t o.type e i z bytes ht hi hz hsize hby hzs v n xs hown ad m c news hl hnews h1 h63 hbytes v' w' hr
  unfold Oper.wp execOp
  simp only [ho, resolve, invoke, builtin, Sem.run_bind, Sem.run_pure, Result.andThen_ok, List.map_toArray, List.map_cons, List.map_nil, hs, hx, hr]
  exact h v' w' h2 h3 hw


set_option maxHeartbeats 4000000 in
theorem taHeard_loop (rec : List Nat → List UInt8 → List (List UInt8)) (ts : List Nat) (b : List UInt8) (w : World) (B : Nat) (v : Value) (h9 : ts.length = 9) (hle : ∀ n ∈ ts, n ≤ 9) (hb : b.length ≤ 20)
    (ha : IntsA w B v (ti ts)) (hlen : ∀ i m, ts[i]? = some (m + 1) → 0 < (rec (ts.set i m) (b ++ numL (i + 1))).length ∧ (rec (ts.set i m) (b ++ numL (i + 1))).length ≤ 5000000)
    (hrec : ∀ i m, i < 9 → ts[i]? = some (m + 1) → ∀ W B' u, IntsA W B' u (ti (ts.set i m)) → Calls Try.prog 79 #[u, .string (bs (b ++ numL (i + 1)))] W fun e w' => TextsOk (rec (ts.set i m) (b ++ numL (i + 1))) W w' e) :
    Calls Try.prog 79 #[v, .string (bs b)] w fun e w' => TextsOk (if ts.all (fun n => decide (n = 0)) = true then [b] else heardK rec ts b 9) w w' e := by
  obtain ⟨i0, hi, hz0, hz1, hz2⟩ := info_parts info_str
  have hown := fun W (hbW : Below w.heap.size w W) => l1OwnV_any W B v (ti ts) (intsA_below ha hbW) (by rw [ti_len]; omega) (by rw [ti_len]; omega)
  obtain ⟨g, cap, rfl, hc1, hc2, _, hg, hce⟩ := intsA_atV ha (by rw [ti_len]; omega)
  rw [ti_len, h9] at hown hc1
  rw [ti_len, h9]
  have hbsz : (bs b).size ≤ 20 := by rw [bs_size]; exact hb
  obtain ⟨R, hR⟩ : ∃ R, R = (if ts.all (fun n => decide (n = 0)) = true then [b] else heardK rec ts b 9) := ⟨_, rfl⟩
  rw [← hR]
  obtain ⟨M, hM⟩ : ∃ M : Nat, M = 5000000 := ⟨_, rfl⟩
  rw [← hM] at hlen
  have HM5 := Lib.hid hM; clear hM
  have HC := Lib.hid hce; have HL := Lib.hid hle; have HLEN := Lib.hid hlen; have HREC := Lib.hid hrec; have HOW := Lib.hid hown; have HR := Lib.hid hR
  clear ha hce hle hlen hrec hown hR
  go_enter Try.func79, Try.ntmps79
  go_wp2_with fail
  go_loopw [5, 6, 12] (fun o f iv wr => ∃ (k n : Nat) (q : Option Addr) (d : Nat) (y : Bool), k ≤ 9 ∧ iv = .int .i64 (k : Int) ∧ f = .bool y ∧ o = .slice q n d ∧ n ≤ k * M ∧ Hid (n = (heardK rec ts b k).length ∧ (y = !(ts.take k).all (fun n => decide (n = 0))) ∧ wr.ownsRow w.heap.size 9 1 (.slice q n d) n (strVs (heardK rec ts b k)) ∧ Below w.heap.size w wr)) (fun _ _ iv _ => 9 - (intOf iv).toNat)
  case atStart => exact ⟨0, 0, _, _, false, by omega, rfl, rfl, rfl, Nat.zero_le _, rfl, rfl, World.ownsRow_nil _ _ _ _, below_refl _⟩
  case round =>
    obtain ⟨k, n, q, d, y, hk, rfl, rfl, rfl, hn, HX⟩ := hrel
    have hnb : n ≤ 45000000 := by
      have h1 := Nat.mul_le_mul_right M hk
      have h2 := HM5.out
      omega
    have HN := Lib.hid hn; clear hn
    by_cases hlt : k < 9
    · obtain ⟨m, hm⟩ : ∃ m, ts[k]? = some m := ⟨_, List.getElem?_eq_getElem (by omega)⟩
      have hm9 : m ≤ 9 := HL.out m (List.mem_of_getElem? hm)
      have h1 : wr.cell? ⟨g, k, none⟩ = some (.int .i64 (m : Int)) := by
        rw [HX.out.2.2.2.cell (p := ⟨g, k, none⟩) hg, HC.out k (by rw [ti_len]; omega)]
        obtain ⟨hkl, e⟩ := List.getElem?_eq_some_iff.1 hm
        simp [ti, e]
      have hsu := heardK_succ rec ts b k m hm
      have htk : ts.take (k + 1) = ts.take k ++ [m] := by
        obtain ⟨hkl, e⟩ := List.getElem?_eq_some_iff.1 hm
        rw [List.take_succ_eq_append_getElem hkl, e]
      have HSU := Lib.hid hsu; have HTK := Lib.hid htk
      clear hsu htk
      by_cases h0 : m = 0
      · subst h0
        have e0 : heardK rec ts b (k + 1) = heardK rec ts b k := by rw [HSU.out]; simp
        have E0 := Lib.hid e0; clear e0 hm
        go_wp2_with fail
        go_roundw
        case rel =>
          refine ⟨k + 1, n, q, d, y, by omega, by go_num, rfl, rfl, by rw [Nat.succ_mul]; exact Nat.le_trans HN.out (Nat.le_add_right _ _), by rw [E0.out]; exact HX.out.1, ?_, by rw [E0.out]; exact HX.out.2.2.1, HX.out.2.2.2⟩
          rw [HTK.out, HX.out.2.1, List.all_append]; simp
        case measure => simp [intOf] <;> omega
      · obtain ⟨m', rfl⟩ : ∃ m', m = m' + 1 := ⟨m - 1, by omega⟩
        have e0 : heardK rec ts b (k + 1) = heardK rec ts b k ++ rec (ts.set k m') (b ++ numL (k + 1)) := by rw [HSU.out, if_neg (by omega), Nat.add_sub_cancel]
        obtain ⟨hl1, hl2⟩ := HLEN.out k m' hm
        have hrc := HREC.out k m' hlt hm
        obtain ⟨rs, hrs⟩ : ∃ rs, rs = rec (ts.set k m') (b ++ numL (k + 1)) := ⟨_, rfl⟩
        rw [← hrs] at hl1 hl2 hrc e0
        have hn2 := fun (W : World) => l1Num_any (k + 1) ((k : Int) + 1) W (by omega) (by omega) (by omega)
        rw [show ((k : Int) + 1).toNat = k + 1 from by omega] at hn2
        have hs2 : (bs (numL (k + 1))).size = 1 := by rw [bs_size, numL_small (k + 1) (by omega)]; rfl
        have hset : (ti ts).set k ((m' : Nat) : Int) = ti (ts.set k m') := by simp [ti, List.map_set]
        have hgetk : (ti ts)[k]? = some (((m' + 1 : Nat)) : Int) := by simp [ti, hm]
        have HL2 := Lib.hid hl2
        have hrb : rs.length ≤ 5000000 := by have := HM5.out; omega
        clear hl2
        have E0 := Lib.hid e0; have HRC := Lib.hid hrc; have HN2 := Lib.hid hn2; have HSET := Lib.hid hset; have HGK := Lib.hid hgetk; have HMM := Lib.hid hm; have HRS := Lib.hid hrs
        clear e0 hrc hn2 hset hgetk hm hrs
        go_wp2_with fail
        refine (HOW.out wr HX.out.2.2.2).mono ?_
        rintro e w2 ⟨g2, c2, rfl, ho2, hb2⟩
        obtain ⟨g3, c3, e3, hcc, _, hB3, hg3, hce2⟩ := intsA_atV ho2 (by rw [ti_len]; omega)
        have hgg : g2 = g3 ∧ c2 = c3 := by simp only [Value.slice.injEq, Option.some.injEq, Addr.mk.injEq] at e3; exact ⟨e3.1.1, e3.2.2⟩
        obtain ⟨rfl, rfl⟩ := hgg
        have h3 : w2.cell? ⟨g2, k, none⟩ = some (.int .i64 ((m' : Int) + 1)) := by
          obtain ⟨hkl, e⟩ := List.getElem?_eq_some_iff.1 HGK.out
          rw [hce2 k hkl, e]; congr 2
        have hfz : w2.frozen? ⟨g2, k, none⟩ = false := by
          rcases ho2 with ⟨e, _⟩ | ⟨gq, cq, Eq, rq, e, _, hrow, _⟩
          · cases e
          · have : g2 = gq := by simp only [Value.slice.injEq, Option.some.injEq, Addr.mk.injEq] at e; exact e.1.1
            subst this
            exact frozen_of_row w2 g2 k _ _ hrow
        have hnew : IntsA (w2.setCell ⟨g2, k, none⟩ (.int .i64 (m' : Int))) wr.heap.size (.slice (some ⟨g2, 0, none⟩) 9 c2) (ti (ts.set k m')) := by
          rw [← HSET.out]
          rcases ho2 with ⟨e, _⟩ | ⟨gq, cq, Eq, rq, e, hBq, hrow, hcq, hcm⟩
          · cases e
          · rw [ti_len] at e
            simp only [Value.slice.injEq, Option.some.injEq, Addr.mk.injEq] at e
            obtain ⟨⟨rfl, _⟩, _, rfl⟩ := e
            refine .inr ⟨g2, c2, Eq, rq, by rw [List.length_set, ti_len, h9], hBq, ?_, by rw [List.length_set]; exact hcq, hcm⟩
            rw [heap_setCell_same w2 g2 k _ _ _ hrow, List.setIfInBounds_toArray]
            congr 3
            rw [List.set_append_left _ _ (by simp [ivs, ti_len]; omega)]
            congr 1
            simp [ivs, List.map_set]
        have HNEW := Lib.hid hnew; have HB2 := Lib.hid hb2; have HBs := Lib.hid (hb2.setCell (p := ⟨g2, k, none⟩) hB3 (.int .i64 (m' : Int)))
        clear ho2 hb2 hce2 hnew e3
        go_wp2_with fail
        refine (HN2.out _).mono ?_
        rintro e w3 ⟨rfl, hb3⟩
        have HN3 := Lib.hid (intsA_below HNEW.out hb3); have HB3 := Lib.hid hb3; clear hb3
        go_wp2_with fail
        rw [bs_append]
        refine (HRC.out w3 _ _ HN3.out).mono ?_
        rintro e w4 ⟨g4, c4, rfl, ho4, hb4⟩
        have HBL : Hid (Below w.heap.size w w4) := by
          have h1 := HX.out.2.2.2.trans (HBs.out.mono HX.out.2.2.2.size)
          exact below_trans h1 (below_trans HB3.out hb4)
        have HO4 := Lib.hid ho4
        have HOX : Hid (w4.ownsRow w.heap.size 9 1 (.slice q n d) n (strVs (heardK rec ts b k))) := own_below HX.out.2.2.1 (HBs.out.trans ((below_trans HB3.out hb4).mono HBs.out.size))
        have HS4 := Lib.hid (strs_news ho4 rfl)
        clear ho4 hb4
        go_wp2_with (at_builtin; refine wpList_app _ rfl _ _ 27 rfl w.heap.size 9 i0 (.string ⟨#[]⟩) 16 Try.underlying27 hi hz0 hz1 hz2 rfl _ n _ rfl HOX.out ⟨g4, 0, none⟩ rs.length c4 (strVs rs) rfl (by simp [strVs]) HS4.out (strs_one rs) ?c3 ?c4 ?c5 ?_)
        case c3 => unfold maxLen; omega
        case c4 => omega
        case c5 => exact HBL.out.size
        intro v' w5 hown' hgrow _
        obtain ⟨av', cv', rfl⟩ := own_slice hown'
        have R1 := Lib.hid hown'
        have R2 := Lib.hid (HBL.out.grown hgrow HBL.out.size (fun z hz => (HOX.out.lt z hz).1))
        clear hown' hgrow
        go_wp2_with fail
        go_roundw
        case rel =>
          refine ⟨k + 1, n + rs.length, _, _, true, by omega, by go_num, rfl, rfl, by rw [Nat.succ_mul]; exact Nat.add_le_add HN.out HL2.out, ?_, ?_, ?_, R2.out⟩
          · rw [E0.out, List.length_append, ← HX.out.1]
          · rw [HTK.out, List.all_append]; simp
          · rw [E0.out]
            have := R1.out
            simpa [strVs] using this
        case measure => simp [intOf] <;> omega
    · obtain rfl : k = 9 := by omega
      have htk : ts.take 9 = ts := List.take_of_length_le (by omega)
      have hy := HX.out.2.1
      rw [htk] at hy
      cases hall : ts.all (fun n => decide (n = 0)) with
      | true =>
        rw [hall] at hy
        have hRR : R = [b] := by rw [HR.out, hall]; rfl
        have HRR := Lib.hid hRR; clear hall hRR htk
        simp only [Bool.not_true] at hy
        subst hy
        go_wp2_with fail
        go_ret
        rw [HRR.out]
        refine ⟨wr.heap.size, 1, rfl, ?_, below_trans HX.out.2.2.2 (below_alloc _ _)⟩
        have := own_lit wr w.heap.size 9 [.string (bs b)] HX.out.2.2.2.size (by simp [maxLen])
        exact this
      | false =>
        rw [hall] at hy
        have hRR : R = heardK rec ts b 9 := by rw [HR.out, hall]; rfl
        simp only [Bool.not_false] at hy
        subst hy
        have hpos : 0 < (heardK rec ts b 9).length := by
          have : ∃ i m, i < 9 ∧ ts[i]? = some (m + 1) := by
            have : ∃ x ∈ ts, ¬ x = 0 := by simpa using hall
            obtain ⟨x, hx, hx0⟩ := this
            obtain ⟨i, hi⟩ := List.mem_iff_getElem?.1 hx
            exact ⟨i, x - 1, by have := get_lt hi; omega, by rw [hi]; congr 1; omega⟩
          obtain ⟨i, m, hi9, hi⟩ := this
          exact heardK_pos rec ts b (fun i m h => (HLEN.out i m h).1) i m hi 9 hi9
        rcases own_open HX.out.2.2.1 with ⟨_, h0, _⟩ | ⟨gq, cq, e, _⟩
        · have := HX.out.1; omega
        simp only [Value.slice.injEq] at e
        obtain ⟨rfl, _, rfl⟩ := e
        have HRR := Lib.hid hRR; clear hall hRR htk hpos
        go_wp2_with fail
        go_ret
        rw [HRR.out]
        refine ⟨gq, d, by rw [← HX.out.1]; rfl, ?_, HX.out.2.2.2⟩
        rw [← HX.out.1]
        exact HX.out.2.2.1
end Go.Proofs.Ytkdoghopbefjfaa

/- Words of which a word is the inventory: the program's wordsBehind. -/
namespace Go.Proofs.Ytkdoghopbefjfaa
open Go.RowKit Go.BigFrame
set_option linter.unusedSimpArgs false
set_option linter.unusedVariables false
set_option maxRecDepth 4000

theorem run_convDigit (k : Nat) (hk : k < 9) (W : World) : (convert 5 9 (.int .u8 (48 + ((k : Int) + 1)))).run Try.prog W = .ok (.string (bs (numL (k + 1)))) W := by
  rw [numL_small (k + 1) (by omega)]
  match k, hk with
  | 0, _ => rfl
  | 1, _ => rfl
  | 2, _ => rfl
  | 3, _ => rfl
  | 4, _ => rfl
  | 5, _ => rfl
  | 6, _ => rfl
  | 7, _ => rfl
  | 8, _ => rfl
  | j + 9, hk => omega

set_option maxHeartbeats 4000000 in
theorem wordsBehind_loop (rec : List Nat → List UInt8 → List (List UInt8)) (ts : List Nat) (b : List UInt8) (w : World) (h9 : ts.length = 9) (hle : ∀ n ∈ ts, n ≤ 9) (hb : b.length ≤ 20)
    (hlen : ∀ i m, ts[i]? = some (m + 1) → 0 < (rec (ts.set i m) (b ++ numL (i + 1))).length ∧ (rec (ts.set i m) (b ++ numL (i + 1))).length ≤ 5000000)
    (hrec : ∀ i m, i < 9 → ts[i]? = some (m + 1) → ∀ W, Calls Try.prog 78 #[.agg (tvl (ts.set i m)).toArray, .string (bs (b ++ numL (i + 1)))] W fun e w' => TextsOk (rec (ts.set i m) (b ++ numL (i + 1))) W w' e) :
    Calls Try.prog 78 #[.agg (tvl ts).toArray, .string (bs b)] w fun e w' => TextsOk (if ts = zeros9 then [b] else heardK rec ts b 9) w w' e := by
  obtain ⟨i0, hi, hz0, hz1, hz2⟩ := info_parts info_str
  have hblk : ∀ W : World, W = w.alloc (.cells (tvl ts).toArray 65) → BlkT W w.heap.size ts := fun W h => by rw [h]; exact ⟨heap_alloc_new _ _, h9⟩
  have hbsz : (bs b).size ≤ 20 := by rw [bs_size]; exact hb
  by_cases hz : ts = zeros9
  · rw [if_pos hz]
    have heq : ∀ W, (binOp .eql 65 (.agg (tvA ts)) (.agg #[.int .i64 0, .int .i64 0, .int .i64 0, .int .i64 0, .int .i64 0, .int .i64 0, .int .i64 0, .int .i64 0, .int .i64 0])).run Try.prog W = .ok (.bool true) W := fun W => by
      have := run_eqlT W ts zeros9 h9 rfl
      rw [decide_eq_true hz] at this
      exact this
    have HBLK := Lib.hid hblk; have HEQ := Lib.hid heq
    clear hblk hlen hrec hz heq
    go_enter Try.func78, Try.ntmps78
    have heq := HEQ.out
    go_wp2_with (first | (refine wpList_getT rfl _ rfl w.heap.size rfl ts (HBLK.out _ rfl) ?_; unfold aggT))
    go_ret
    refine ⟨w.heap.size + 1, 1, by first | rfl | (simp; done), ?_, below_trans (below_alloc _ _) (below_alloc _ _)⟩
    have := own_lit (w.alloc (.cells (tvl ts).toArray 65)) w.heap.size 9 [.string (bs b)] (by simp) (by simp [maxLen])
    rw [Go.Deep.nblk_alloc] at this
    exact this
  · rw [if_neg hz]
    have heq : ∀ W, (binOp .eql 65 (.agg (tvA ts)) (.agg #[.int .i64 0, .int .i64 0, .int .i64 0, .int .i64 0, .int .i64 0, .int .i64 0, .int .i64 0, .int .i64 0, .int .i64 0])).run Try.prog W = .ok (.bool false) W := fun W => by
      have := run_eqlT W ts zeros9 h9 rfl
      rw [decide_eq_false hz] at this
      exact this
    have hpos : 0 < (heardK rec ts b 9).length := by
      have : ∃ i m, i < 9 ∧ ts[i]? = some (m + 1) := by
        apply Classical.byContradiction
        intro hh
        apply hz
        apply List.ext_getElem h9
        intro i h1 h2
        rw [show zeros9[i] = 0 from List.getElem_replicate _]
        apply Classical.byContradiction
        intro hne
        exact hh ⟨i, ts[i] - 1, by omega, by rw [List.getElem?_eq_getElem h1]; congr 1; omega⟩
      obtain ⟨i, m, hi9, hi⟩ := this
      exact heardK_pos rec ts b (fun i m h => (hlen i m h).1) i m hi 9 hi9
    have hix := fun (W : World) (k n : Nat) => run_indexT ts k n W h9
    have hu52 := under_tally
    obtain ⟨M, hM⟩ : ∃ M : Nat, M = 5000000 := ⟨_, rfl⟩
    rw [← hM] at hlen
    have HM5 := Lib.hid hM; have HL := Lib.hid hle; have HLEN := Lib.hid hlen; have HREC := Lib.hid hrec; have HBLK := Lib.hid hblk; have HEQ := Lib.hid heq; have HPOS := Lib.hid hpos; have HIX := Lib.hid hix
    clear hM hle hlen hrec hblk hz heq hpos hix
    go_enter Try.func78, Try.ntmps78
    have heq := HEQ.out
    go_wp2_with (first
      | (refine wpList_getT rfl _ rfl w.heap.size rfl ts (HBLK.out _ rfl) ?_; unfold aggT)
      | (refine wpList_getT rfl _ rfl w.heap.size rfl ts (blkT_below (HBLK.out _ rfl) (below_alloc _ _)) ?_; unfold aggT))
    clear heq
    go_loopw [5, 16] (fun o iv wr => ∃ (k n : Nat) (q : Option Addr) (d : Nat), k ≤ 9 ∧ iv = .int .i64 (k : Int) ∧ o = .slice q n d ∧ n ≤ k * M ∧ Hid (n = (heardK rec ts b k).length ∧ BlkT wr w.heap.size ts ∧ wr.ownsRow (w.heap.size + 1) 9 1 (.slice q n d) n (strVs (heardK rec ts b k)) ∧ Below w.heap.size w wr ∧ w.heap.size + 1 ≤ wr.heap.size)) (fun _ iv _ => 9 - (intOf iv).toNat)
    case atStart =>
      refine ⟨0, 0, _, _, by omega, rfl, rfl, Nat.zero_le _, rfl, blkT_below (HBLK.out _ rfl) (below_alloc _ _), ?_, below_trans (below_alloc _ _) (below_alloc _ _), by simp⟩
      have := own_lit (w.alloc (.cells (tvl ts).toArray 65)) (w.heap.size + 1) 9 [] (by simp) (by simp [maxLen])
      rw [Go.Deep.nblk_alloc] at this
      exact this
    case round =>
      obtain ⟨k, n, q, d, hk, rfl, rfl, hn, HX⟩ := hrel
      have hnb : n ≤ 45000000 := by
        have h1 := Nat.mul_le_mul_right M hk
        have h2 := HM5.out
        omega
      have HN := Lib.hid hn; clear hn
      by_cases hlt : k < 9
      · obtain ⟨m, hm⟩ : ∃ m, ts[k]? = some m := ⟨_, List.getElem?_eq_getElem (by omega)⟩
        have hm9 : m ≤ 9 := HL.out m (List.mem_of_getElem? hm)
        have hid : ∀ W, (Instr.index 65 (.agg (tvA ts)) (.int .i64 (k : Int))).run Try.prog W = .ok (.int .i64 (m : Int)) W := fun W => HIX.out W k m hm
        have hsu := heardK_succ rec ts b k m hm
        have HSU := Lib.hid hsu
        clear hsu
        by_cases h0 : m = 0
        · subst h0
          have e0 : heardK rec ts b (k + 1) = heardK rec ts b k := by rw [HSU.out]; simp
          have E0 := Lib.hid e0; clear e0 hm
          go_wp2_with fail
          go_roundw
          case rel =>
            exact ⟨k + 1, n, q, d, by omega, by go_num, rfl, by rw [Nat.succ_mul]; exact Nat.le_trans HN.out (Nat.le_add_right _ _), by rw [E0.out]; exact HX.out.1, HX.out.2.1, by rw [E0.out]; exact HX.out.2.2.1, HX.out.2.2.2⟩
          case measure => simp [intOf] <;> omega
        · obtain ⟨m', rfl⟩ : ∃ m', m = m' + 1 := ⟨m - 1, by omega⟩
          have e0 : heardK rec ts b (k + 1) = heardK rec ts b k ++ rec (ts.set k m') (b ++ numL (k + 1)) := by rw [HSU.out, if_neg (by omega), Nat.add_sub_cancel]
          obtain ⟨hl1, hl2⟩ := HLEN.out k m' hm
          have hrc := HREC.out k m' hlt hm
          obtain ⟨rs, hrs⟩ : ∃ rs, rs = rec (ts.set k m') (b ++ numL (k + 1)) := ⟨_, rfl⟩
          rw [← hrs] at hl1 hl2 hrc e0
          have hcv := run_convDigit k hlt
          have hs2 : (bs (numL (k + 1))).size = 1 := by rw [bs_size, numL_small (k + 1) (by omega)]; rfl
          have HL2 := Lib.hid hl2
          have hrb : rs.length ≤ 5000000 := by have := HM5.out; omega
          have hus9 : (ts.set k m').length = 9 := by simpa using h9
          have E0 := Lib.hid e0; have HRC := Lib.hid hrc; have HMM := Lib.hid hm; have HU9 := Lib.hid hus9
          clear e0 hrc hm hrs hl2 hus9
          go_wp2_with (first
            | (refine wpList_getT rfl _ rfl w.heap.size rfl ts HX.out.2.1 ?_; unfold aggT)
            | (refine wpList_putT rfl _ _ rfl wr.heap.size rfl zeros9 ts rfl ⟨heap_alloc_new _ _, rfl⟩ h9 ?_; intro w2 hB2 hoth hbb hsz2; have hc3 : w2.cell? ⟨wr.heap.size, k, none⟩ = some (.int .i64 ((m' : Int) + 1)) := (by have := blkT_cell hB2 HMM.out; rw [this]; congr 2); have hfz := blkT_frozen hB2 k))
          have hst := blkT_set hB2 k m'
          have hlt2 := blkT_lt hst
          have hbw : Below wr.heap.size wr w2 := (below_alloc wr _).trans (hbb _ (Nat.le_refl _))
          have HBW := Lib.hid hbw; have HST := Lib.hid hst
          have HBS := Lib.hid (hbw.setCell (p := ⟨wr.heap.size, k, none⟩) (Nat.le_refl _) (.int .i64 (m' : Int)))
          clear hB2 hoth hbb hst hbw
          generalize w2.setCell ⟨wr.heap.size, k, none⟩ (.int .i64 (m' : Int)) = w3 at *
          clear hc3 hfz hid
          have hi52 : (Try.prog.info? 65).map (·.size) = some (tvl (ts.set k m')).length := by rw [tvl_len, HU9.out]; exact info_tally
          have hrg : ∀ W, BlkT W wr.heap.size (ts.set k m') → W.rangeAt wr.heap.size 0 (tvl (ts.set k m')) := fun W h j v hv => by
            rw [Nat.zero_add, cell_of_row W _ j _ _ _ h.1]; simpa [tvA] using hv
          have hs0 : w3.drew.rangeAt wr.heap.size 0 (tvl (ts.set k m')) := hrg _ (blkT_below HST.out (below_drew _))
          have HRG := Lib.hid hrg; clear hrg
          refine wp_region_held_drew (S := fun w' => w'.rangeAt wr.heap.size 0 (tvl (ts.set k m'))) (by kernel_rfl) hs0 (fun hHeld => ?_)
          refine wpAnyH_take (i := 0) (v := .slice q n d) rfl (by kernel_rfl) (by kernel_rfl) (by kernel_rfl) (fun _ _ _ h => h) (Or.inl ⟨by rfl, fun w hw => by first | rfl | (go_simp; done) | (go_simp; rfl) | (go_simp; exact IntWalk.i64_in _ (by omega))⟩) hHeld ?_
          simp only [Act.put, List.setIfInBounds_toArray, List.set_cons_zero, List.set_cons_succ]
          refine wpAnyH_take (i := 1) (v := .agg (tvl (ts.set k m')).toArray) rfl (by kernel_rfl) (by kernel_rfl) (by kernel_rfl) (fun _ _ _ h => h) (yieldsIf_load_mid (by rfl) 65 _ rfl wr.heap.size 0 rfl (tvl (ts.set k m')) _ (fun w hw => hw) hu52 rfl hi52) hHeld ?_
          simp only [Act.put, List.setIfInBounds_toArray, List.set_cons_zero, List.set_cons_succ]
          refine wpAnyH_take (i := 2) (v := .string (bs b)) rfl (by kernel_rfl) (by kernel_rfl) (by kernel_rfl) (fun _ _ _ h => h) (Or.inl ⟨by rfl, fun w hw => by first | rfl | (go_simp; done) | (go_simp; rfl) | (go_simp; exact IntWalk.i64_in _ (by omega))⟩) hHeld ?_
          simp only [Act.put, List.setIfInBounds_toArray, List.set_cons_zero, List.set_cons_succ]
          refine wpAnyH_take (i := 3) (v := .int .i64 (k : Int)) rfl (by kernel_rfl) (by kernel_rfl) (by kernel_rfl) (fun _ _ _ h => h) (Or.inl ⟨by rfl, fun w hw => by first | rfl | (go_simp; done) | (go_simp; rfl) | (go_simp; exact IntWalk.i64_in _ (by omega))⟩) hHeld ?_
          simp only [Act.put, List.setIfInBounds_toArray, List.set_cons_zero, List.set_cons_succ]
          refine wpAnyH_take (i := 4) (v := .int .i64 ((k : Int) + 1)) rfl (by kernel_rfl) (by kernel_rfl) (by kernel_rfl) (fun _ _ _ h => h) (Or.inl ⟨by rfl, fun w hw => by first | rfl | (go_simp; done) | (go_simp; rfl) | (go_simp; exact IntWalk.i64_in _ (by omega))⟩) hHeld ?_
          simp only [Act.put, List.setIfInBounds_toArray, List.set_cons_zero, List.set_cons_succ]
          refine wpAnyH_ready (rs := [5]) (by kernel_rfl) (by simp) (AllReadyH.cons rfl (fun K hK => ?_) AllReadyH.nil)
          go_simp
          go_at_call 95
          refine (signOf_is _ _ (by omega) (by omega)).mono ?_
          rintro e w4 ⟨rfl, rfl⟩
          refine hK.out _ _ hHeld (fun _ => ?_)
          clear hK K
          try simp only [Act.put, List.setIfInBounds_toArray, List.set_cons_zero, List.set_cons_succ]
          refine wpAnyH_take (i := 6) (v := .string (bs (numL (k + 1)))) rfl (by kernel_rfl) (by kernel_rfl) (by kernel_rfl) (fun _ _ _ h => h) (Or.inl ⟨by rfl, fun w hw => by first | (go_simp; done) | (go_simp; exact hcv _)⟩) hHeld ?_
          simp only [Act.put, List.setIfInBounds_toArray, List.set_cons_zero, List.set_cons_succ]
          refine wpAnyH_take (i := 7) (v := .string (bs b ++ bs (numL (k + 1)))) rfl (by kernel_rfl) (by kernel_rfl) (by kernel_rfl) (fun _ _ _ h => h) (Or.inl ⟨by rfl, fun w hw => by go_simp; omega⟩) hHeld ?_
          simp only [Act.put, List.setIfInBounds_toArray, List.set_cons_zero, List.set_cons_succ]
          refine wpAnyH_ready (rs := [8]) (by kernel_rfl) (by simp) (AllReadyH.cons rfl (fun K hK => ?_) AllReadyH.nil)
          go_simp
          go_at_call 78
          rw [bs_append]
          refine (HRC.out _).mono ?_
          rintro e w4 ⟨g4, c4, rfl, ho4, hb4⟩
          have hb34 : Below w3.heap.size w3 w4 := below_trans (below_drew _) hb4
          have hHeld4 := HRG.out w4 (blkT_below HST.out hb34)
          have HO4 := Lib.hid ho4
          have HB34 := Lib.hid (HBS.out.trans (hb34.mono HBS.out.size))
          have HOX : Hid (w4.ownsRow (w.heap.size + 1) 9 1 (.slice q n d) n (strVs (heardK rec ts b k))) := own_below HX.out.2.2.1 HB34.out
          have HBL : Hid (Below w.heap.size w w4) := HX.out.2.2.2.1.trans (HB34.out.mono HX.out.2.2.2.1.size)
          have HS4 := Lib.hid (strs_news ho4 rfl)
          have HT4 := Lib.hid (blkT_below HX.out.2.1 HB34.out)
          clear ho4 hb4
          refine hK.out _ _ hHeld4 (fun _ => ?_)
          clear hK K
          try simp only [Act.put, List.setIfInBounds_toArray, List.set_cons_zero, List.set_cons_succ]
          refine wpAnyH_ready (rs := [9]) (by kernel_rfl) (by simp) (AllReadyH.cons rfl (fun K hK => ?_) AllReadyH.nil)
          refine step_appV rfl _ _ 27 rfl (w.heap.size + 1) 9 i0 (.string ⟨#[]⟩) 16 Try.underlying27 hi hz0 hz1 hz2 rfl (.slice q n d) n _ rfl HOX.out ⟨g4, 0, none⟩ rs.length c4 (strVs rs) rfl (by simp [strVs]) HS4.out (strs_one rs) (by unfold maxLen; omega) (by omega) (by have := HX.out.2.2.2.2; have := HB34.out.size; omega) ?_
          intro v' w5 hown' hgrow hwh
          obtain ⟨av', cv', rfl⟩ := own_slice hown'
          have hq : ∀ z, (Value.slice q n d).ownBlock = some z → w.heap.size + 1 ≤ z ∧ z < wr.heap.size := fun z hz => HX.out.2.2.1.lt z hz
          have hT5 : BlkT w5 wr.heap.size (ts.set k m') := by
            have h4 := blkT_below HST.out hb34
            refine ⟨(hgrow.block _ (blkT_lt h4) (fun e => ?_)).trans h4.1, h4.2⟩
            have := (hq _ e.symm).2
            omega
          have hT0 : BlkT w5 w.heap.size ts := ⟨(hgrow.block _ (blkT_lt HT4.out) (fun e => by have := (hq _ e.symm).1; omega)).trans HT4.out.1, h9⟩
          have HT0 := Lib.hid hT0
          have R1 := Lib.hid hown'
          have R2 := Lib.hid (HBL.out.grown hgrow HBL.out.size (fun z hz => by have := (hq z hz).1; omega))
          have hHeld5 := HRG.out w5 hT5
          have HS5 := Lib.hid hgrow.size
          clear hown' hgrow hT5 hT0 hwh hq
          refine hK.out _ _ hHeld5 (fun _ => ?_)
          clear hK K
          try simp only [Act.put, List.setIfInBounds_toArray, List.set_cons_zero, List.set_cons_succ]
          refine wpAnyH_ready (rs := [10]) (by kernel_rfl) (by simp) (AllReadyH.cons rfl (fun K hK => ?_) AllReadyH.nil)
          go_simp
          refine hK.out _ _ hHeld5 (fun _ => ?_)
          clear hK K
          try simp only [Act.put, List.setIfInBounds_toArray, List.set_cons_zero, List.set_cons_succ]
          refine wpAnyH_done (by kernel_rfl) ?_ _
          go_wp2_with fail
          go_roundw
          case rel =>
            refine ⟨k + 1, n + rs.length, _, _, by omega, by go_num, rfl, by rw [Nat.succ_mul]; exact Nat.add_le_add HN.out HL2.out, ?_, HT0.out, ?_, R2.out, ?_⟩
            · rw [E0.out, List.length_append, ← HX.out.1]
            · rw [E0.out]
              have := R1.out
              simpa [strVs] using this
            · have h1 := HX.out.2.2.2.2
              have h2 := HB34.out.size
              have h3 := HS5.out
              omega
          case measure => simp [intOf] <;> omega
      · obtain rfl : k = 9 := by omega
        rcases own_open HX.out.2.2.1 with ⟨_, h0, _⟩ | ⟨gq, cq, e, _⟩
        · have h1 := HX.out.1; have h2 := HPOS.out; omega
        simp only [Value.slice.injEq] at e
        obtain ⟨rfl, _, rfl⟩ := e
        go_wp2_with fail
        go_ret
        refine ⟨gq, d, by rw [← HX.out.1]; rfl, ?_, HX.out.2.2.2.1⟩
        rw [← HX.out.1]
        exact own_mono HX.out.2.2.1 (by omega)
end Go.Proofs.Ytkdoghopbefjfaa

/- HearInventory on both sides, and the law. -/
namespace Go.Proofs.Ytkdoghopbefjfaa
open Go.RowKit Go.BigFrame
set_option linter.unusedSimpArgs false
set_option linter.unusedVariables false
set_option maxRecDepth 4000

theorem zeros9_none {i m : Nat} (h : zeros9[i]? = some (m + 1)) : False := by
  have hi := get_lt h
  rw [zeros9_get i hi] at h
  cases h
theorem pow9_le : ∀ n, n ≤ 6 → 9 ^ n ≤ 531441
  | 0, _ => by decide
  | 1, _ => by decide
  | 2, _ => by decide
  | 3, _ => by decide
  | 4, _ => by decide
  | 5, _ => by decide
  | 6, _ => by decide
  | n + 7, h => by omega
theorem heard_hyps {n : Nat} {ts : List Nat} {b : List UInt8} (h9 : ts.length = 9) (hs : ts.sum = n + 1) (hn : n ≤ 6) :
    ∀ i m, ts[i]? = some (m + 1) → 0 < (heardL n (ts.set i m) (b ++ numL (i + 1))).length ∧ (heardL n (ts.set i m) (b ++ numL (i + 1))).length ≤ 5000000 := by
  intro i m h
  have := heardL_facts n (ts.set i m) (b ++ numL (i + 1)) (by simpa using h9) (by have := sum_set ts i m h; omega)
  have h2 := pow9_le n hn
  exact ⟨this.1, by omega⟩
theorem numL_len1 (i : Nat) (hi : i < 9) : (numL (i + 1)).length = 1 := by rw [numL_small (i + 1) (by omega)]; rfl
theorem all_ne {ts : List Nat} {n : Nat} (h9 : ts.length = 9) (hs : ts.sum = n + 1) : ts.all (fun n => decide (n = 0)) = false := by
  obtain ⟨i, m, _, hi⟩ := pos_of_sum h9 hs
  apply Bool.eq_false_iff.2
  intro h
  have := List.all_eq_true.1 h _ (List.mem_of_getElem? hi)
  simp at this

theorem taHeard_any : ∀ (n : Nat) (ts : List Nat) (b : List UInt8) (w : World) (B : Nat) (v : Value), ts.length = 9 → ts.sum = n → n ≤ 7 → b.length + n ≤ 7 → IntsA w B v (ti ts) →
    Calls Try.prog 79 #[v, .string (bs b)] w fun e w' => TextsOk (heardL n ts b) w w' e
  | 0, ts, b, w, B, v, h9, hs, hn, hb, ha => by
    have hz := (sum_zero h9).1 hs
    subst hz
    have := taHeard_loop (fun _ _ => []) zeros9 b w B v h9 (fun n hn => by simp [zeros9] at hn; omega) (by omega) ha (fun i m h => (zeros9_none h).elim) (fun i m _ h => (zeros9_none h).elim)
    rw [if_pos (by decide)] at this
    exact this
  | n + 1, ts, b, w, B, v, h9, hs, hn, hb, ha => by
    have := taHeard_loop (heardL n) ts b w B v h9 (fun m hm => by
        obtain ⟨i, hi⟩ := List.mem_iff_getElem?.1 hm
        have := le_sumT ts i m hi; omega) (by omega) ha (heard_hyps h9 hs (by omega)) (fun i m hi9 h W B' u hu => by
        refine taHeard_any n _ _ W B' u (by simpa using h9) (by have := sum_set ts i m h; omega) (by omega) ?_ hu
        rw [List.length_append, numL_len1 i hi9]; omega)
    rw [if_neg (by rw [all_ne h9 hs]; simp)] at this
    exact this

theorem wordsBehind_any : ∀ (n : Nat) (ts : List Nat) (b : List UInt8) (w : World), ts.length = 9 → ts.sum = n → n ≤ 7 → b.length + n ≤ 7 →
    Calls Try.prog 78 #[.agg (tvl ts).toArray, .string (bs b)] w fun e w' => TextsOk (heardL n ts b) w w' e
  | 0, ts, b, w, h9, hs, hn, hb => by
    have hz := (sum_zero h9).1 hs
    subst hz
    have := wordsBehind_loop (fun _ _ => []) zeros9 b w h9 (fun n hn => by simp [zeros9] at hn; omega) (by omega) (fun i m h => (zeros9_none h).elim) (fun i m _ h => (zeros9_none h).elim)
    rw [if_pos rfl] at this
    exact this
  | n + 1, ts, b, w, h9, hs, hn, hb => by
    have := wordsBehind_loop (heardL n) ts b w h9 (fun m hm => by
        obtain ⟨i, hi⟩ := List.mem_iff_getElem?.1 hm
        have := le_sumT ts i m hi; omega) (by omega) (heard_hyps h9 hs (by omega)) (fun i m hi9 h W => by
        refine wordsBehind_any n _ _ W (by simpa using h9) (by have := sum_set ts i m h; omega) (by omega) ?_
        rw [List.length_append, numL_len1 i hi9]; omega)
    rw [if_neg (fun e => by rw [(sum_zero h9).2 e] at hs; omega)] at this
    exact this

set_option maxHeartbeats 1000000 in
theorem sumV_any (ts : List Nat) (w : World) (h9 : ts.length = 9) (hle : ∀ n ∈ ts, n ≤ 9) :
    Calls Try.prog 77 #[aggT ts] w fun e w' => e = .returned (.int .i64 (ts.sum : Nat)) ∧ Below w.heap.size w w' := by
  have hix := fun (W : World) (k n : Nat) => run_indexT ts k n W h9
  have hsum : ∀ k, k ≤ 9 → (ts.take k).sum ≤ 9 * k := by
    intro k
    induction k with
    | zero => intro _; simp
    | succ k ih =>
      intro hk
      have hkl : k < ts.length := by omega
      rw [List.take_succ_eq_append_getElem hkl, List.sum_append]
      have := ih (by omega)
      have := hle ts[k] (List.getElem_mem _)
      simp; omega
  have HIX := Lib.hid hix; have HS := Lib.hid hsum; have HL := Lib.hid hle
  clear hix hsum hle
  have hagg : aggT ts = .agg (tvA ts) := rfl
  rw [hagg]
  go_enter Try.func77, Try.ntmps77
  go_wp2_with (refine wpList_getT rfl _ rfl w.heap.size rfl ts ⟨heap_alloc_new _ _, h9⟩ ?_; unfold aggT)
  go_loopw [3, 7] (fun sv iv wr => ∃ k m : Nat, k ≤ 9 ∧ iv = .int .i64 (k : Int) ∧ sv = .int .i64 (m : Int) ∧ m ≤ 9 * k ∧ Hid (m = (ts.take k).sum ∧ Below w.heap.size w wr)) (fun _ iv _ => 9 - (intOf iv).toNat)
  case atStart => exact ⟨0, 0, by omega, rfl, rfl, by omega, rfl, below_alloc _ _⟩
  case round =>
    obtain ⟨k, m, hk, rfl, rfl, hm, HX⟩ := hrel
    by_cases hlt : k < 9
    · obtain ⟨n, hn⟩ : ∃ n, ts[k]? = some n := ⟨_, List.getElem?_eq_getElem (by omega)⟩
      have hn9 : n ≤ 9 := HL.out n (List.mem_of_getElem? hn)
      have hid : ∀ W, (Instr.index 65 (.agg (tvA ts)) (.int .i64 (k : Int))).run Try.prog W = .ok (.int .i64 (n : Int)) W := fun W => HIX.out W k n hn
      have htk : (ts.take (k + 1)).sum = (ts.take k).sum + n := by
        obtain ⟨hkl, e⟩ := List.getElem?_eq_some_iff.1 hn
        rw [List.take_succ_eq_append_getElem hkl, List.sum_append, e]; simp
      have HTK := Lib.hid htk; clear htk hn
      go_wp2_with fail
      go_roundw
      case rel => exact ⟨k + 1, m + n, by omega, by go_num, by go_num, by omega, by rw [HTK.out, ← HX.out.1], HX.out.2⟩
      case measure => simp [intOf] <;> omega
    · obtain rfl : k = 9 := by omega
      go_wp2_with fail
      go_ret
      refine ⟨?_, HX.out.2⟩
      have := HX.out.1
      rw [List.take_of_length_le (by omega)] at this
      rw [this]; rfl

/-- All words of which a word is the inventory, if they are asked. -/
def hearLO (l : List UInt8) : Option (List (List UInt8)) := match toldL l with
  | some ts => if l.length ≤ 6 ∧ ts.sum ≤ 7 then some (heardL ts.sum ts []) else none
  | none => none
theorem toldL_facts {l : List UInt8} {ts : List Nat} (h : toldL l = some ts) : goodL l = true ∧ ts.length = 9 ∧ (∀ n ∈ ts, n ≤ 9) := by
  unfold toldL at h
  split at h
  · rename_i hg
    have hd : l.all digB = true := by unfold goodL at hg; simp only [Bool.and_eq_true] at hg; exact hg.2
    obtain ⟨h1, _, h3, _⟩ := pr_of_told l 0 zeros9 ts hd rfl (by omega) (fun i _ hi => zeros9_get i hi) h
    refine ⟨hg, h1, fun n hn => ?_⟩
    obtain ⟨i, hi⟩ := List.mem_iff_getElem?.1 hn
    exact h3 i n (Nat.zero_le _) hi
  · cases h
/-- Texts and true, or nil and false. -/
def HeardOk (o : Option (List (List UInt8))) (w w' : World) (e : Ending) : Prop :=
  ∃ v, e = .returned (.tuple #[v, .bool o.isSome]) ∧ StrsO w' w.heap.size v (o.getD []) ∧ Below w.heap.size w w'
theorem textsOk_O {ls : List (List UInt8)} {w w' : World} {B g c : Nat} (h : w'.ownsRow B 9 1 (.slice (some ⟨g, 0, none⟩) ls.length c) ls.length (strVs ls)) : StrsO w' B (.slice (some ⟨g, 0, none⟩) ls.length c) ls := strsO_of h

theorem nine {ts : List Nat} (h : ts.length = 9) : ∃ a0 a1 a2 a3 a4 a5 a6 a7 a8, ts = [a0, a1, a2, a3, a4, a5, a6, a7, a8] := by
  match ts, h with
  | [a0, a1, a2, a3, a4, a5, a6, a7, a8], _ => exact ⟨a0, a1, a2, a3, a4, a5, a6, a7, a8, rfl⟩
set_option maxHeartbeats 2000000 in
theorem implHearInventory_any (s : ByteArray) (w : World) (hs : s.size ≤ maxLen) :
    Calls Try.prog 31 #[.string s] w fun e w' => HeardOk (hearLO s.data.toList) w w' e := by
  have h1 := toldBy_any s w hs
  have hlen : s.data.toList.length = s.size := by simp
  unfold maxLen at hs
  cases ht : toldL s.data.toList with
  | none =>
    have hO : hearLO s.data.toList = none := by unfold hearLO; rw [ht]
    rw [ht] at h1
    simp only [Option.isSome_none, Option.getD_none] at h1
    rw [hO]
    have H1 := Lib.hid h1; clear h1 ht hO hlen
    go_enter Try.func31, Try.ntmps31
    go_wp2_with fail
    refine H1.out.mono ?_
    rintro e w1 ⟨rfl, hb⟩
    have HB := Lib.hid hb; clear hb
    go_wp2_with (refine wpList_putT rfl _ _ rfl w1.heap.size rfl zeros9 zeros9 rfl ⟨heap_alloc_new _ _, rfl⟩ rfl ?_; intro w2 hB2 _ hbb _; have HB2 := Lib.hid ((below_alloc w1 _).trans (hbb _ (Nat.le_refl _))); clear hbb)
    go_ret2
    exact ⟨_, rfl, .inl ⟨rfl, rfl⟩, below_trans HB.out HB2.out⟩
  | some ts =>
    obtain ⟨hg, h9, hle⟩ := toldL_facts ht
    rw [ht] at h1
    simp only [Option.isSome_some, Option.getD_some] at h1
    by_cases h6 : s.size ≤ 6
    · have hsm := fun W => sumV_any ts W h9 hle
      have hs81 : ts.sum ≤ 81 := by
        match ts, h9 with
        | [a0, a1, a2, a3, a4, a5, a6, a7, a8], _ =>
          have := hle a0 (by simp); have := hle a1 (by simp); have := hle a2 (by simp); have := hle a3 (by simp); have := hle a4 (by simp); have := hle a5 (by simp); have := hle a6 (by simp); have := hle a7 (by simp); have := hle a8 (by simp)
          simp; omega
      obtain ⟨S, hS⟩ : ∃ S, S = ts.sum := ⟨_, rfl⟩
      rw [← hS] at hsm hs81
      by_cases h7 : S ≤ 7
      · have hO : hearLO s.data.toList = some (heardL S ts []) := by unfold hearLO; rw [ht]; dsimp only; rw [if_pos ⟨by omega, by omega⟩, hS]
        have hwb := fun W => wordsBehind_any S ts [] W h9 hS.symm h7 (by simpa using h7)
        obtain ⟨ls, hls⟩ : ∃ ls, ls = heardL S ts [] := ⟨_, rfl⟩
        rw [← hls] at hO hwb
        rw [hO]
        have hwb2 : ∀ W, Calls Try.prog 78 #[aggT ts, .string { data := #[] }] W fun e w' => TextsOk ls W w' e := hwb
        obtain ⟨a0, a1, a2, a3, a4, a5, a6, a7, a8, rfl⟩ := nine h9
        have H1 := Lib.hid h1; have HSM := Lib.hid hsm; have HWB := Lib.hid hwb2; clear h1 ht hO hlen hsm hwb hwb2 hls hS hle hg
        go_enter Try.func31, Try.ntmps31
        go_wp2_with fail
        refine H1.out.mono ?_
        rintro e w1 ⟨rfl, hb⟩
        have HB := Lib.hid hb; clear hb
        go_wp2_with (first
          | (refine wpList_putT rfl _ _ rfl w1.heap.size rfl zeros9 [a0, a1, a2, a3, a4, a5, a6, a7, a8] rfl ⟨heap_alloc_new _ _, rfl⟩ h9 ?_; intro w2 hB2 _ hbb _; have HB2 := Lib.hid ((below_alloc w1 _).trans (hbb _ (Nat.le_refl _))); clear hbb; have c0 := blkT_cell (i := 0) hB2 rfl; have c1 := blkT_cell (i := 1) hB2 rfl; have c2 := blkT_cell (i := 2) hB2 rfl; have c3 := blkT_cell (i := 3) hB2 rfl; have c4 := blkT_cell (i := 4) hB2 rfl; have c5 := blkT_cell (i := 5) hB2 rfl; have c6 := blkT_cell (i := 6) hB2 rfl; have c7 := blkT_cell (i := 7) hB2 rfl; have c8 := blkT_cell (i := 8) hB2 rfl)
          | fail)
        refine (HSM.out w2).mono ?_
        rintro e w3 ⟨rfl, hb⟩
        have HB3 := Lib.hid hb; have hB3 := blkT_below hB2 hb; clear hb
        go_wp2_with (refine wpList_getT rfl _ rfl w1.heap.size rfl [a0, a1, a2, a3, a4, a5, a6, a7, a8] hB3 ?_)
        refine (HWB.out w3).mono ?_
        rintro e w4 ⟨g, c, rfl, ho, hb⟩
        have HO := Lib.hid ho; have HB4 := Lib.hid hb; clear ho hb
        go_wp2_with fail
        go_ret2
        have hbb := below_trans HB.out (below_trans HB2.out HB3.out)
        exact ⟨_, rfl, textsOk_O (w := w) (own_mono HO.out hbb.size), below_trans hbb HB4.out⟩
      · have hO : hearLO s.data.toList = none := by unfold hearLO; rw [ht]; dsimp only; rw [if_neg (fun h => h7 (by omega))]
        rw [hO]
        obtain ⟨a0, a1, a2, a3, a4, a5, a6, a7, a8, rfl⟩ := nine h9
        have H1 := Lib.hid h1; have HSM := Lib.hid hsm; clear h1 ht hO hlen hsm hS hle hg
        go_enter Try.func31, Try.ntmps31
        go_wp2_with fail
        refine H1.out.mono ?_
        rintro e w1 ⟨rfl, hb⟩
        have HB := Lib.hid hb; clear hb
        go_wp2_with (first
          | (refine wpList_putT rfl _ _ rfl w1.heap.size rfl zeros9 [a0, a1, a2, a3, a4, a5, a6, a7, a8] rfl ⟨heap_alloc_new _ _, rfl⟩ h9 ?_; intro w2 hB2 _ hbb _; have HB2 := Lib.hid ((below_alloc w1 _).trans (hbb _ (Nat.le_refl _))); clear hbb; have c0 := blkT_cell (i := 0) hB2 rfl; have c1 := blkT_cell (i := 1) hB2 rfl; have c2 := blkT_cell (i := 2) hB2 rfl; have c3 := blkT_cell (i := 3) hB2 rfl; have c4 := blkT_cell (i := 4) hB2 rfl; have c5 := blkT_cell (i := 5) hB2 rfl; have c6 := blkT_cell (i := 6) hB2 rfl; have c7 := blkT_cell (i := 7) hB2 rfl; have c8 := blkT_cell (i := 8) hB2 rfl)
          | fail)
        refine (HSM.out w2).mono ?_
        rintro e w3 ⟨rfl, hb⟩
        have HB3 := Lib.hid hb; clear hb
        go_wp2_with fail
        go_ret2
        exact ⟨_, rfl, .inl ⟨rfl, rfl⟩, below_trans HB.out (below_trans HB2.out HB3.out)⟩
    · have hO : hearLO s.data.toList = none := by unfold hearLO; rw [ht]; dsimp only; rw [if_neg (fun h => h6 (by omega))]
      rw [hO]
      have H1 := Lib.hid h1; clear h1 ht hO hlen hle hg
      go_enter Try.func31, Try.ntmps31
      go_wp2_with fail
      refine H1.out.mono ?_
      rintro e w1 ⟨rfl, hb⟩
      have HB := Lib.hid hb; clear hb
      go_wp2_with (refine wpList_putT rfl _ _ rfl w1.heap.size rfl zeros9 ts rfl ⟨heap_alloc_new _ _, rfl⟩ h9 ?_; intro w2 hB2 _ hbb _; have HB2 := Lib.hid ((below_alloc w1 _).trans (hbb _ (Nat.le_refl _))); clear hbb)
      go_ret2
      exact ⟨_, rfl, .inl ⟨rfl, rfl⟩, below_trans HB.out HB2.out⟩
end Go.Proofs.Ytkdoghopbefjfaa

/- HearInventory: the model's side, and the law. -/
namespace Go.Proofs.Ytkdoghopbefjfaa
open Go.RowKit Go.BigFrame
set_option linter.unusedSimpArgs false
set_option linter.unusedVariables false
set_option maxRecDepth 4000

theorem sum_set0 : ∀ (ts : List Nat) (i x : Nat), ts[i]? = some 0 → (ts.set i x).sum = ts.sum + x
  | [], i, x, h => by simp at h
  | a :: r, 0, x, h => by simp at h; subst h; simp; omega
  | a :: r, i + 1, x, h => by
    have := sum_set0 r i x (by simpa using h)
    simp; omega
theorem toldL_none_iff {l : List UInt8} (h : isInvL l = false) : toldL l = none := by
  have := toldL_isSome l
  rw [h] at this
  cases ht : toldL l with
  | none => rfl
  | some ts => rw [ht] at this; cases this
theorem toldL_some_of {l : List UInt8} (h : isInvL l = true) : ∃ ts, toldL l = some ts := by
  have := toldL_isSome l
  rw [h] at this
  exact Option.isSome_iff_exists.1 this

set_option maxHeartbeats 4000000 in
theorem specHearInventory_any (s : ByteArray) (w : World) (hs : s.size ≤ maxLen) :
    Calls Try.prog 32 #[.string s] w fun e w' => HeardOk (hearLO s.data.toList) w w' e := by
  have h1 := taIs_any s w hs
  have hlen : s.data.toList.length = s.size := by simp
  unfold maxLen at hs
  cases hin : isInvL s.data.toList with
  | false =>
    have ht := toldL_none_iff hin
    have hO : hearLO s.data.toList = none := by unfold hearLO; rw [ht]
    rw [hin] at h1
    rw [hO]
    have H1 := Lib.hid h1; clear h1 ht hO hlen hin
    go_enter Try.func32, Try.ntmps32
    go_wp2_with fail
    refine H1.out.mono ?_
    rintro e w1 ⟨rfl, hb⟩
    have HB := Lib.hid hb; clear hb
    go_wp2_with fail
    go_ret2
    exact ⟨_, rfl, .inl ⟨rfl, rfl⟩, HB.out⟩
  | true =>
    obtain ⟨ts, ht⟩ := toldL_some_of hin
    obtain ⟨hg, h9, hle⟩ := toldL_facts ht
    rw [hin] at h1
    by_cases h6 : s.size ≤ 6
    · obtain ⟨i0, hi, hz0, hz1, hz2⟩ := info_parts info_intT
      obtain ⟨hg1, hg2, hd⟩ := goodL_parts (s := s) hg
      have hT : toldF 0 zeros9 s.data.toList = some ts := by have := ht; unfold toldL at this; rw [if_pos hg] at this; exact this
      have hev : s.size % 2 = 0 := by
        by_cases he : s.size % 2 = 0
        · exact he
        · have := toldF_odd s.data.toList 0 zeros9 (by omega)
          rw [hT] at this; cases this
      obtain ⟨o, ho⟩ : ∃ o, o = hearLO s.data.toList := ⟨_, rfl⟩
      rw [← ho]
      have hO : o = if ts.sum ≤ 7 then some (heardL ts.sum ts []) else none := by
        rw [ho]; unfold hearLO; rw [ht]; dsimp only
        by_cases h7 : ts.sum ≤ 7
        · rw [if_pos ⟨by omega, h7⟩, if_pos h7]
        · rw [if_neg (fun h => h7 h.2), if_neg h7]
      have H1 := Lib.hid h1; have HD := Lib.hid hd; have HT := Lib.hid hT; have HEV := Lib.hid hev; have HO := Lib.hid hO; have H9 := Lib.hid h9; have HLE := Lib.hid hle
      clear h1 hd hT hev hO ho ht hg hin hlen h9 hle
      go_enter Try.func32, Try.ntmps32
      go_wp2_with fail
      refine H1.out.mono ?_
      rintro e w1 ⟨rfl, hb⟩
      have HB := Lib.hid hb; clear hb
      go_wp2_with (refine wpList_make_full _ rfl _ _ 32 rfl w1.heap.size 3 i0 (.int .i64 0) 1 Try.underlying32 hi hz0 hz1 .i64 .i64 9 9 9 rfl rfl rfl rfl (by rw [hz2]; omega) (by unfold maxLen; omega) (Nat.le_refl _) ?_; intro w2 hown hgr; have HOW := Lib.hid hown; have HB2 := Lib.hid ((Below.refl w1.heap.size w1).grown hgr (Nat.le_refl _) (fun k h => by cases h)); clear hown hgr)
      go_loopw [5, 6] (fun lv iv wr => ∃ (j b m : Nat) (acc : List Nat), j % 2 = 0 ∧ j ≤ s.size ∧ b ≤ 9 ∧ m ≤ 9 * j ∧ iv = .int .i64 (j : Int) ∧ lv = .int .i64 (m : Int) ∧ Hid (m = acc.sum ∧ acc.length = 9 ∧ (∀ i, b ≤ i → i < 9 → acc[i]? = some 0) ∧ toldF b acc (s.data.toList.drop j) = some ts ∧ wr.ownsRow w1.heap.size 3 1 (.slice (some ⟨w1.heap.size, 0, none⟩) 9 9) 9 (tvl acc) ∧ Below w1.heap.size w1 wr)) (fun _ i _ => s.size - (intOf i).toNat)
      case atStart =>
        refine ⟨0, 0, 0, zeros9, rfl, Nat.zero_le _, by omega, by omega, rfl, rfl, rfl, rfl, fun i _ hi => zeros9_get i hi, HT.out, ?_, HB2.out⟩
        have e : (madeCells (Value.int .i64 0).cells (9 * 1)).toList = tvl zeros9 := by rw [Nat.mul_one]; exact toList_madeCells_one _ _
        exact e ▸ HOW.out
      case round =>
        obtain ⟨j, b, m, acc, hj, hjs, hb, hm, rfl, rfl, HX⟩ := hrel
        by_cases hlt : j + 1 < s.size
        · have hlt0 : j < s.size := by omega
          obtain ⟨a1, a2⟩ := digs_at HD.out (j + 1) hlt
          obtain ⟨b1, b2⟩ := digs_at HD.out j hlt0
          have hst := HX.out.2.2.2.1
          rw [drop2 s j hlt] at hst
          unfold toldF at hst
          obtain ⟨d, hdd⟩ : ∃ d, s[j + 1].toNat = d + 49 := ⟨s[j + 1].toNat - 49, by omega⟩
          obtain ⟨n, hnn⟩ : ∃ n, s[j].toNat = n + 48 := ⟨s[j].toNat - 48, by omega⟩
          have hi0 : s[j + 1].toNat - 49 = d := by omega
          rw [show s[j + 1].toNat - 48 = d + 1 from by omega, show s[j].toNat - 48 = n from by omega, hi0] at hst
          have hc : ¬ d + 1 ≤ b := by
            intro hc
            rw [if_pos hc] at hst
            cases hst
          rw [if_neg hc] at hst
          have hd9 : d < 9 := by omega
          have hn9 : n ≤ 9 := by omega
          have hac := HX.out.2.2.1 d (by omega) hd9
          have h1 : wr.cell? ⟨w1.heap.size, d, none⟩ = some (.int .i64 0) := by
            rw [HX.out.2.2.2.2.1.cellAt d (by omega)]; simp [tvl, hac]
          have h2 : wr.frozen? ⟨w1.heap.size, d, none⟩ = false := HX.out.2.2.2.2.1.frozenAt d
          have hsd : (s[j + 1].toNat : Int) = (d : Int) + 49 := by omega
          have hsn : (s[j].toNat : Int) = (n : Int) + 48 := by omega
          have t3 : ((j : Int) + 1).toNat = j + 1 := by omega
          have g3 : (0 : Int) ≤ (j : Int) + 1 := by omega
          have g5 : IntKind.i64.wrap ((j : Int) + 1) = (j : Int) + 1 := IntWalk.i64_in _ (by omega)
          have i2 : (j : Int) < (s.size : Int) := by omega
          have i3 : (j : Int) + 1 < (s.size : Int) := by omega
          have z1 : IntKind.u8.wrap ((d : Int) + 49 - 49) = (d : Int) := by rw [show (d : Int) + 49 - 49 = d from by omega]; exact IntWalk.u8_in _ (by omega)
          have z2 : IntKind.u8.wrap ((n : Int) + 48 - 48) = (n : Int) := by rw [show (n : Int) + 48 - 48 = n from by omega]; exact IntWalk.u8_in _ (by omega)
          have z3 : IntKind.u8.wrap (d : Int) = (d : Int) := IntWalk.u8_in _ (by omega)
          have z4 : IntKind.u8.wrap (n : Int) = (n : Int) := IntWalk.u8_in _ (by omega)
          have z5 : IntKind.i64.wrap (n : Int) = (n : Int) := IntWalk.i64_in _ (by omega)
          have d0 : (0 : Int) ≤ (d : Int) := by omega
          have d9 : (d : Int) < 9 := by omega
          have HST := Lib.hid hst; have HJ := Lib.hid hj; have HAC := Lib.hid hac; have HC := Lib.hid hc
          clear hst hdd hnn hi0 a1 a2 b1 b2 hj hac hc
          go_wp2_with fail
          go_region_with (fail)
          all_goals
            go_wp2_with fail
            go_roundw
            case rel =>
              have hst' := (own_below HX.out.2.2.2.2.1 (below_drew wr)).stored d (.int .i64 (n : Int))
              refine ⟨j + 2, d + 1, m + n, acc.set d n, by have := HJ.out; omega, by omega, by omega, by omega, by go_num, by go_num, ?_, by simpa using HX.out.2.1, ?_, HST.out, ?_, ?_⟩
              · rw [sum_set0 acc d n HAC.out, ← HX.out.1]
              · intro i h1 h2
                rw [List.getElem?_set_ne (by omega)]
                exact HX.out.2.2.1 i (by
                  have : d + 1 ≤ i := h1
                  have hb' : b ≤ d := by
                    apply Classical.byContradiction
                    intro hh
                    exact HC.out (by omega)
                  omega) h2
              · rw [tvl, List.map_set]
                exact hst'.1
              · exact (HX.out.2.2.2.2.2.drew).setCell (p := ⟨w1.heap.size, d, none⟩) (Nat.le_refl _) _
            case measure => simp [intOf] <;> omega
        · have hend : j = s.size := by have := HEV.out; omega
          subst hend
          have hst := HX.out.2.2.2.1
          rw [List.drop_of_length_le (by simp)] at hst
          simp only [toldF, Option.some.injEq] at hst
          subst hst
          have hm' := HX.out.1
          have hrow : IntsA wr w1.heap.size (.slice (some ⟨w1.heap.size, 0, none⟩) 9 9) (ti acc) := intsA_of (by
            have := HX.out.2.2.2.2.1
            rw [tvl_ti] at this
            unfold Ints
            simpa [ti_len, HX.out.2.1] using this)
          by_cases h7 : m ≤ 7
          · have hoo : o = some (heardL m acc []) := by rw [HO.out, if_pos (by omega), hm']
            have hth := taHeard_any m acc [] wr _ _ HX.out.2.1 hm'.symm h7 (by simpa using h7) hrow
            obtain ⟨ls, hls⟩ : ∃ ls, ls = heardL m acc [] := ⟨_, rfl⟩
            rw [← hls] at hoo hth
            have hth2 : Calls Try.prog 79 #[.slice (some ⟨w1.heap.size, 0, none⟩) 9 9, .string { data := #[] }] wr fun e w' => TextsOk ls wr w' e := hth
            have HTH := Lib.hid hth2; have HOO := Lib.hid hoo
            clear hth hth2 hoo hls hrow hm'
            go_wp2_with fail
            refine HTH.out.mono ?_
            rintro e w3 ⟨g, c, rfl, ho3, hb3⟩
            have HO3 := Lib.hid ho3; have HB3 := Lib.hid hb3; clear ho3 hb3
            have HBB := Lib.hid (below_trans HB.out HX.out.2.2.2.2.2)
            go_wp2_with fail
            go_ret2
            rw [HOO.out]
            exact ⟨_, rfl, textsOk_O (w := w) (own_mono HO3.out HBB.out.size), below_trans HBB.out HB3.out⟩
          · have hoo : o = none := by rw [HO.out, if_neg (by omega)]
            have HOO := Lib.hid hoo
            clear hoo hrow hm'
            go_wp2_with fail
            go_ret2
            rw [HOO.out]
            exact ⟨_, rfl, .inl ⟨rfl, rfl⟩, below_trans HB.out HX.out.2.2.2.2.2⟩
    · have hO : hearLO s.data.toList = none := by unfold hearLO; rw [ht]; dsimp only; rw [if_neg (fun h => h6 (by omega))]
      rw [hO]
      have H1 := Lib.hid h1; clear h1 ht hO hlen hin hle hg
      go_enter Try.func32, Try.ntmps32
      go_wp2_with fail
      refine H1.out.mono ?_
      rintro e w1 ⟨rfl, hb⟩
      have HB := Lib.hid hb; clear hb
      go_wp2_with fail
      go_ret2
      exact ⟨_, rfl, .inl ⟨rfl, rfl⟩, HB.out⟩

theorem hearLO_len (l : List UInt8) : ((hearLO l).getD []).length ≤ 2000000000 := by
  unfold hearLO
  cases ht : toldL l with
  | none => simp
  | some ts =>
    dsimp only
    split
    · rename_i h
      have h9 := (toldL_facts ht).2.1
      have h1 := (heardL_facts ts.sum ts [] h9 rfl).2
      have h2 : 9 ^ ts.sum ≤ 9 ^ 7 := Nat.pow_le_pow_right (by omega) h.2
      have h3 : 9 ^ 7 = 4782969 := by decide
      rw [Option.getD_some]
      omega
    · simp

end Go.Proofs.Ytkdoghopbefjfaa
