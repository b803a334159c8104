/- What is said of a word: the program's sayText, asWord, SayWord. -/
import Derived.Test.YtclifchdkcidgaaI1
namespace Go.Proofs.Ytclifchdkcidgaa
open Go.RowKit Go.BigFrame
set_option linter.unusedSimpArgs false
set_option linter.unusedVariables false

theorem info_byte : (Try.prog.info? 5).map (fun i => (i.zero, i.size, i.bytes)) = some (some (.int .u8 0), 1, 1) := by kernel_rfl

/-- A captured variable, and the row of bytes that its value owns; nothing below B is touched but these. -/
structure Kept (w w' : World) (c : Nat) (old : Option Nat) : Prop where
  os : w'.os = w.os
  tape : w'.tape = w.tape
  output : w'.output = w.output
  size : w.heap.size ≤ w'.heap.size
  block : ∀ k, k < w.heap.size → k ≠ c → some k ≠ old → w'.heap[k]? = w.heap[k]?
theorem Kept.below {w w' : World} {c : Nat} {old : Option Nat} (h : Kept w w' c old) {B : Nat} (hB : B ≤ c) (hs : B ≤ w.heap.size) (ho : ∀ g, old = some g → B ≤ g) : Below B w w' :=
  ⟨h.os, h.tape, h.output, h.size, fun k hk => h.block k (by omega) (by omega) (fun e => by have := ho k e.symm; omega)⟩

theorem Kept.cell {w w' : World} {c : Nat} {old : Option Nat} (h : Kept w w' c old) {p : Addr} {u : Value} (hp : w.cell? p = some u) (hc : p.block ≠ c) (ho : old ≠ some p.block) : w'.cell? p = some u :=
  (World.cell?_of_block (w := w) (h.block p.block (World.block_lt_of_cell? w p hp) hc (fun e => ho e.symm))).trans hp
theorem Kept.trans {w w1 w2 : World} {c : Nat} {o o1 : Option Nat} (h : Kept w w1 c o) (k : Kept w1 w2 c o1) (ho : o1 = o ∨ ∃ g, o1 = some g ∧ w.heap.size ≤ g) : Kept w w2 c o :=
  ⟨k.os.trans h.os, k.tape.trans h.tape, k.output.trans h.output, Nat.le_trans h.size k.size, fun i hi h1 h2 => by
    refine (k.block i (Nat.lt_of_lt_of_le hi h.size) h1 ?_).trans (h.block i hi h1 h2)
    rcases ho with rfl | ⟨g, rfl, hg⟩
    · exact h2
    · intro e; cases e; omega⟩
/-- A row's block is not that of a variable of another type. -/
theorem own_ne_var {w : World} {B : Nat} {E T : TypeId} {v : Value} {n c : Nat} {xs : List Value} {cs : Array Value} {f : Nat × Nat} (h : w.ownsRow B E 1 v n xs) (hc : w.heap[c]? = some (.cells cs T f)) (hTE : T ≠ E) : v.ownBlock ≠ some c := by
  intro e
  rcases h.2 with ⟨rfl, _⟩ | ⟨g1, _, c1, rfl, _, e1, _⟩
  · cases e
  · cases e
    rw [e1] at hc
    simp only [Option.some.injEq, Obj.cells.injEq] at hc
    exact hTE hc.2.1.symm
/-- An append to a captured variable. -/
theorem step_join {w w1 : World} {B c n : Nat} {v v1 u : Value} {xs : List Value} (hc : w.heap[c]? = some (.cells #[v] 50 (0, 0))) (hv : w.ownsRow B 5 1 v n xs)
    (h1 : w1.ownsRow B 5 1 v1 (n + 1) (xs ++ [u])) (hg : w.grownBy w1 v.ownBlock) :
    (w1.setCell ⟨c, 0, none⟩ v1).heap[c]? = some (.cells #[v1] 50 (0, 0)) ∧ (w1.setCell ⟨c, 0, none⟩ v1).ownsRow B 5 1 v1 (n + 1) (xs ++ [u]) ∧ Kept w (w1.setCell ⟨c, 0, none⟩ v1) c v.ownBlock ∧
      w1.cell? ⟨c, 0, none⟩ = some v ∧ w1.frozen? ⟨c, 0, none⟩ = false := by
  have hlt : c < w.heap.size := (Array.getElem?_eq_some_iff.1 hc).1
  have hne := own_ne_var hv hc (by decide)
  have hc1 : w1.heap[c]? = some (.cells #[v] 50 (0, 0)) := (hg.block c hlt (fun e => hne e.symm)).trans hc
  have hne1 := own_ne_var h1 hc1 (by decide)
  refine ⟨?_, ?_, ⟨hg.os, hg.tape, hg.output, by rw [show (w1.setCell ⟨c, 0, none⟩ v1).heap.size = w1.heap.size from Go.Deep.nblk_setCell _ _ _]; exact hg.size, fun k hk h2 h3 => ?_⟩, by simp [World.cell?, hc1], by simp [World.frozen?, hc1]⟩
  · have := heap_setCell_same w1 c 0 #[v] 50 v1 hc1
    simpa using this
  · exact own_block h1 (fun g hg' => Below.heap_setCell _ _ _ _ (fun e => hne1 (by rw [hg']; exact congrArg some e)))
  · rw [Below.heap_setCell _ _ _ _ h2]
    exact hg.block k hk h3

set_option maxHeartbeats 2000000 in
theorem join2 (w : World) (B c bp x y o : Nat) (v : Value) (acc : List Value) (b1 b2 : Int) (hc : w.heap[c]? = some (.cells #[v] 50 (0, 0)))
    (hv : w.ownsRow B 5 1 v acc.length acc) (hacc : acc.length ≤ 100000) (hB : B ≤ w.heap.size)
    (h1 : w.cell? ⟨bp, 0, none⟩ = some (.slice (some ⟨x, 0, none⟩) 1 1)) (h2 : w.cell? ⟨bp, 1, none⟩ = some (.slice (some ⟨y, o, none⟩) 1 1))
    (h3 : w.cell? ⟨x, 0, none⟩ = some (.int .u8 b1)) (h4 : w.cell? ⟨y, o, none⟩ = some (.int .u8 b2))
    (hbp : bp ≠ c) (hx : x ≠ c) (hy : y ≠ c) (gbp : v.ownBlock ≠ some bp) (gy : v.ownBlock ≠ some y) :
    Calls Try.prog 81 #[.slice (some ⟨bp, 0, none⟩) 2 2, .pointer (some ⟨c, 0, none⟩)] w fun e w' => e = .returned (.tuple #[]) ∧
      ∃ v', w'.heap[c]? = some (.cells #[v'] 50 (0, 0)) ∧ w'.ownsRow B 5 1 v' (acc.length + 2) (acc ++ [.int .u8 b1, .int .u8 b2]) ∧
        (v'.ownBlock = v.ownBlock ∨ ∃ g, v'.ownBlock = some g ∧ w.heap.size ≤ g) ∧ Kept w w' c v.ownBlock := by
  obtain ⟨i0, hi, hz0, hz1, hz2⟩ := info_parts info_byte
  go_enter Try.func81, Try.ntmps81
  go_wp2_with fail
  refine wp_loop_rounds 3 ?_
  rw [rounds_succ]
  have hcv : w.cell? ⟨c, 0, none⟩ = some v := by simp [World.cell?, hc]
  have HC := Lib.hid hc; clear hc
  go_wp2_with (at_builtin; refine wpList_app _ rfl _ _ 50 rfl B 5 i0 (.int .u8 0) 1 Try.underlying50 hi hz0 hz1 hz2 rfl v acc.length acc rfl hv ⟨x, 0, none⟩ 1 1 [.int .u8 b1] rfl rfl ?c1 ?c2 ?c3 ?c4 ?c5 ?_)
  case c1 =>
    intro j u hj
    match j, hj with
    | 0, hj => simp at hj; subst hj; simpa [Addr.add] using h3
  case c2 => intro u hu; simp at hu; subst hu; rfl
  case c3 => unfold maxLen; omega
  case c4 => omega
  case c5 => exact hB
  intro v1 w1 ho1 hg1 hw1
  obtain ⟨av, cv, hv1⟩ := own_slice ho1
  subst hv1
  obtain ⟨s1, s2, s3, s4, s5⟩ := step_join HC.out hv ho1 hg1
  have S1 := Lib.hid s1; have S2 := Lib.hid s2; have S3 := Lib.hid s3
  have t2 : (w1.setCell ⟨c, 0, none⟩ (.slice av (acc.length + 1) cv)).cell? ⟨bp, 1, none⟩ = some (.slice (some ⟨y, o, none⟩) 1 1) := s3.cell h2 hbp gbp
  have t4 : (w1.setCell ⟨c, 0, none⟩ (.slice av (acc.length + 1) cv)).cell? ⟨y, o, none⟩ = some (.int .u8 b2) := s3.cell h4 hy gy
  have t5 : (w1.setCell ⟨c, 0, none⟩ (.slice av (acc.length + 1) cv)).cell? ⟨c, 0, none⟩ = some (.slice av (acc.length + 1) cv) := by simp [World.cell?, s1]
  have T2 := Lib.hid t2; have T4 := Lib.hid t4; have T5 := Lib.hid t5; have HG := Lib.hid hg1
  clear s1 s2 s3 t2 t4 t5 hg1
  go_wp2_with fail
  rw [rounds_succ]
  generalize w1.setCell ⟨c, 0, none⟩ (.slice av (acc.length + 1) cv) = ws at *
  have t2 := T2.out; have t4 := T4.out; have t5 := T5.out
  clear s4 s5 hcv h1 h2 h3 h4
  go_wp2_with (at_builtin; refine wpList_app _ rfl _ _ 50 rfl B 5 i0 (.int .u8 0) 1 Try.underlying50 hi hz0 hz1 hz2 rfl _ (acc.length + 1) _ rfl S2.out ⟨y, o, none⟩ 1 1 [.int .u8 b2] rfl rfl ?d1 ?d2 ?d3 ?d4 ?d5 ?_)
  case d1 =>
    intro j u hj
    match j, hj with
    | 0, hj => simp at hj; subst hj; simpa [Addr.add] using t4
  case d2 => intro u hu; simp at hu; subst hu; rfl
  case d3 => unfold maxLen; omega
  case d4 => omega
  case d5 => have := S3.out.size; omega
  intro v2 w2 ho2 hg2 hw2
  obtain ⟨av2, cv2, hv2⟩ := own_slice ho2
  subst hv2
  obtain ⟨r1, r2, r3, r4, r5⟩ := step_join (u := .int .u8 b2) S1.out S2.out (by simpa using ho2) hg2
  have hloc : (Value.slice av2 (acc.length + 1 + 1) cv2).ownBlock = v.ownBlock ∨ ∃ g, (Value.slice av2 (acc.length + 1 + 1) cv2).ownBlock = some g ∧ w.heap.size ≤ g := by
    rcases hw2 with h | h
    · rw [h]
      rcases hw1 with h' | h'
      · exact .inl h'
      · exact .inr ⟨_, h', Nat.le_refl _⟩
    · exact .inr ⟨_, h, S3.out.size⟩
  have hk := S3.out.trans r3 (by
    rcases hw1 with h' | h'
    · exact .inl h'
    · exact .inr ⟨_, h', Nat.le_refl _⟩)
  have R1 := Lib.hid r1; have R2 := Lib.hid r2; have HL := Lib.hid hloc; have HK := Lib.hid hk
  clear r1 r2 r3 hloc hk hw1 hw2
  go_wp2_with fail
  rw [rounds_succ]
  clear r4 r5 t2 t4 t5
  go_wp2_with fail
  go_end0
  refine ⟨rfl, _, R1.out, ?_, HL.out, HK.out⟩
  have := R2.out
  simpa using this

theorem signOf_is (n : Int) (w : World) (h0 : 0 ≤ n) (h1 : n ≤ 200) :
    Calls Try.prog 63 #[.int .i64 n] w fun e w' => e = .returned (.int .u8 (48 + n)) ∧ w = w' := by
  go_enter Try.func63, Try.ntmps63
  go_wp2
  go_ret
  exact ⟨rfl, rfl⟩

theorem le_longR (rs : List (UInt8 × Nat)) (p : UInt8 × Nat) (h : p ∈ rs) : p.2 ≤ longR rs := by
  induction h2 : rs.length generalizing rs with
  | zero => have : rs = [] := List.eq_nil_of_length_eq_zero h2; subst this; simp at h
  | succ n ih =>
    have hne : rs ≠ [] := by intro e; simp [e] at h
    have hd := List.dropLast_concat_getLast hne
    rw [← hd, longR_snoc]
    rw [← hd, List.mem_append] at h
    rcases h with h | h
    · have := ih rs.dropLast h (by simp [h2]); omega
    · simp at h; subst h; omega
def u8s (l : List UInt8) : List Value := l.map (fun c => .int .u8 (c.toNat : Int))
theorem u8s_len (l : List UInt8) : (u8s l).length = l.length := by simp [u8s]
/-- 'string(b)' of a row of bytes that is owned. -/
theorem conv_own {w : World} {B : Nat} {v : Value} {l : List UInt8} (h : w.ownsRow B 5 1 v l.length (u8s l)) : (convert 50 9 v).run Try.prog w = .ok (.string (bs l)) w := by
  rcases own_open h with ⟨rfl, h0, _⟩ | ⟨g, cap, rfl, _, _, _, _, _, hc, _⟩
  · have : l = [] := List.eq_nil_of_length_eq_zero h0
    subst this
    exact run_convert_bytes_nil (P := Try.prog) w 50 5 Try.underlying50 Try.underlying5 0 0 9 Try.underlying9
  · have := run_convert_bytes_arg (P := Try.prog) w 50 5 Try.underlying50 Try.underlying5 g 0 l.length cap (l.map (fun c => (c.toNat : Int))) (by simp) (fun i hi => by
      rw [Nat.zero_add, hc i (by rw [u8s_len]; exact hi)]
      simp [u8s, List.getD, hi]) 9 Try.underlying9
    rw [this]
    congr 2
    apply bs_eq
    rw [strOfNums_data, List.map_map]
    conv => rhs; rw [← List.map_id l]
    apply List.map_congr_left
    intro c _
    simp
/-- What the loop over the runs keeps. -/
structure SayInv (w w2 : World) (c g b : Nat) (l : List UInt8) (wr : World) (v : Value) : Prop where
  var : wr.heap[c]? = some (.cells #[v] 50 (0, 0))
  own : wr.ownsRow w.heap.size 5 1 v l.length (u8s l)
  below : Below w.heap.size w wr
  size : w2.heap.size ≤ wr.heap.size
  loc : v.ownBlock = some w.heap.size ∨ ∃ q, v.ownBlock = some q ∧ w2.heap.size ≤ q
  keepg : wr.heap[g]? = w2.heap[g]?
  keepb : wr.heap[b]? = w2.heap[b]?
theorem say_call {w w2 wr W : World} {c g b bp x o : Nat} {l : List UInt8} {v : Value} (c1 c2 : UInt8) (inv : SayInv w w2 c g b l wr v) (hl : l.length ≤ 50000)
    (hW : Below wr.heap.size wr W) (h1 : W.cell? ⟨bp, 0, none⟩ = some (.slice (some ⟨x, 0, none⟩) 1 1)) (h2 : W.cell? ⟨bp, 1, none⟩ = some (.slice (some ⟨b, o, none⟩) 1 1))
    (h3 : W.cell? ⟨x, 0, none⟩ = some (.int .u8 (c1.toNat : Int))) (h4 : W.cell? ⟨b, o, none⟩ = some (.int .u8 (c2.toNat : Int)))
    (hbp : wr.heap.size ≤ bp) (hx : wr.heap.size ≤ x) (hwc : w.heap.size < c) (hcb : c ≠ b) (hcg : c ≠ g) (hb : b < w2.heap.size) (hg : g < w2.heap.size) (hwb : w.heap.size ≠ b) (hwg : w.heap.size ≠ g) :
    Calls Try.prog 81 #[.slice (some ⟨bp, 0, none⟩) 2 2, .pointer (some ⟨c, 0, none⟩)] W fun e w' => e = .returned (.tuple #[]) ∧ ∃ v', SayInv w w2 c g b (l ++ [c1, c2]) w' v' := by
  have hc : c < wr.heap.size := (Array.getElem?_eq_some_iff.1 inv.var).1
  have hlt : ∀ q, v.ownBlock = some q → q < wr.heap.size := fun q hq => (inv.own.lt q hq).2
  have hne : ∀ q, q < w2.heap.size → w.heap.size ≠ q → v.ownBlock ≠ some q := by
    intro q hq hw e
    rcases inv.loc with h | ⟨q', h, h'⟩
    · rw [e] at h; cases h; exact hw rfl
    · rw [e] at h; cases h; omega
  refine (join2 W w.heap.size c bp x b o v (u8s l) (c1.toNat : Int) (c2.toNat : Int) ((hW.block c hc).trans inv.var) (own_below (by rw [u8s_len]; exact inv.own) hW) (by rw [u8s_len]; omega)
    (Nat.le_trans inv.below.size hW.size) h1 h2 h3 h4 (by omega) (by omega) (fun e => hcb e.symm) (fun e => by have := hlt bp e; omega) (hne b hb hwb)).mono ?_
  rintro e w' ⟨rfl, v', a1, a2, a3, a4⟩
  refine ⟨rfl, v', ⟨a1, ?_, ?_, Nat.le_trans inv.size (Nat.le_trans hW.size a4.size), ?_, ?_, ?_⟩⟩
  · rw [u8s_len] at a2
    simpa [u8s] using a2
  · refine (inv.below.trans (hW.mono inv.below.size)).trans (a4.below (by omega) (Nat.le_trans inv.below.size hW.size) (fun q hq => ?_))
    exact (inv.own.lt q hq).1
  · rcases a3 with h | ⟨q, h, h'⟩
    · rw [h]; exact inv.loc
    · exact .inr ⟨q, h, Nat.le_trans inv.size (Nat.le_trans hW.size h')⟩
  · have hgr : g < wr.heap.size := Nat.lt_of_lt_of_le hg inv.size
    exact ((a4.block g (Nat.lt_of_lt_of_le hgr hW.size) (fun e => hcg e.symm) (fun e => hne g hg hwg e.symm)).trans (hW.block g hgr)).trans inv.keepg
  · have hbr : b < wr.heap.size := Nat.lt_of_lt_of_le hb inv.size
    exact ((a4.block b (Nat.lt_of_lt_of_le hbr hW.size) (fun e => hcb e.symm) (fun e => hne b hb hwb e.symm)).trans (hW.block b hbr)).trans inv.keepb

set_option maxHeartbeats 2000000 in
theorem sayText_any (s : ByteArray) (w : World) (hsp : speakL s.data.toList = true) :
    Calls Try.prog 66 #[.string s] w fun e w' => e = .returned (.string (bs (sayL s.data.toList))) ∧ Below w.heap.size w w' := by
  have hg : goodL s.data.toList = true := by unfold speakL at hsp; simp at hsp; exact hsp.1
  have hlg : longL s.data.toList ≤ 9 := by unfold speakL at hsp; simp at hsp; exact hsp.2
  obtain ⟨h1, h2, h3⟩ := goodL_parts hg
  have hs : s.size ≤ maxLen := by unfold maxLen; omega
  obtain ⟨i0, hi, hz0, hz1, hz2⟩ := info_parts info_byte
  clear hg hsp
  go_enter Try.func66, Try.ntmps66
  go_wp2_with (first
    | (refine wpList_make_own _ rfl _ _ 50 rfl w.heap.size 5 i0 (.int .u8 0) 1 Try.underlying50 hi hz0 hz1 .i64 .i64 (2 * (s.size : Int)) (2 * s.size) rfl rfl (by omega) (by rw [hz2]; omega) (by unfold maxLen; omega) (Nat.le_refl _) ?_; intro w1 hown hgr)
    | (refine wpList_bytes _ rfl 9 50 _ rfl 5 Try.underlying9 Try.underlying50 Try.underlying5 s rfl hs ?_; intro w2 cap hb hsz hcap hcm hcell hfr))
  have hz : s.size = s.data.toList.length := by simp
  have hcell2 : ∀ i (h : i < s.data.toList.length), w2.cell? ⟨w1.heap.size + 1, i, none⟩ = some (.int .u8 (s.data.toList[i].toNat : Int)) := by
    intro i h
    have := hcell i (by rw [hz]; exact h)
    rw [Go.Deep.nblk_alloc] at this
    exact this
  have hsz1 : w1.heap.size + 1 < w2.heap.size := by simpa using hsz
  have hp := runParts_any s.data.toList (w1.heap.size + 1) cap w2 (by rw [← hz]; exact h2) (by rw [← hz]; exact hcap) hcm hsz1 hcell2
  rw [← hz] at hp
  have hlt1 : w.heap.size < w1.heap.size := (hown.lt w.heap.size rfl).2
  have hvar2 : w2.heap[w1.heap.size]? = some (.cells #[.slice (some ⟨w.heap.size, 0, none⟩) 0 (2 * s.size)] 50 (0, 0)) := (hb.block w1.heap.size (by simp)).trans (Go.Deep.blk_alloc_new _ _)
  have hown2 := own_below (own_below hown (below_alloc w1 _)) hb
  have hb1 := (Below.refl w.heap.size w).grown hgr (Nat.le_refl _) (fun k h => by cases h)
  have hb2 := hb1.trans ((below_trans (below_alloc w1 _) hb).mono (Nat.le_of_lt hlt1))
  have HP := Lib.hid hp; have HC := Lib.hid hcell2; have HV := Lib.hid hvar2; have HO := Lib.hid hown2; have HB := Lib.hid hb2
  clear hp hcell hcell2 hfr hb hz hsz hown hgr hvar2 hown2 hb1 hb2
  go_wp2_with fail
  refine HP.out.mono ?_
  rintro e w3 ⟨v, rfl, hown, hb3⟩
  have HB3 := Lib.hid hb3
  obtain ⟨rs, hrs⟩ : ∃ rs, rs = runsL s.data.toList := ⟨_, rfl⟩
  have hsay : sayL s.data.toList = sayR rs := by rw [hrs]; rfl
  have hbd : ∀ k (h : k < rs.length), 49 ≤ rs[k].1.toNat ∧ rs[k].1.toNat ≤ 57 ∧ 1 ≤ rs[k].2 ∧ rs[k].2 ≤ 9 ∧ s.data.toList[cntR (rs.take k)]? = some rs[k].1 := by
    subst hrs; intro k h
    refine ⟨(runs_dig h3 h).1, (runs_dig h3 h).2, runs_pos _ _ (List.getElem_mem h), ?_, runs_get _ _ h⟩
    exact Nat.le_trans (le_longR _ _ (List.getElem_mem h)) hlg
  rw [← hrs] at hown
  have hN4 : rs.length ≤ 400 := by rw [hrs]; exact Nat.le_trans (runsL_len _) (by simpa using h2)
  obtain ⟨N, hN⟩ : ∃ N, N = rs.length := ⟨_, rfl⟩
  have hsz3 := HB3.out.size
  rcases own_open hown with ⟨_, h0, _⟩ | ⟨g, cp, rfl, hg2, hg, hc1, hc2, _, hcell, _⟩
  · exact absurd h0 (by rw [hrs]; intro e; exact runsL_ne (by simpa using h1) (List.eq_nil_of_length_eq_zero e))
  · have hat : ∀ k (h : k < rs.length), w3.cell? ⟨g, k, none⟩ = some (.slice (some ⟨w1.heap.size + 1, 0 + cntR (rs.take k), none⟩) rs[k].2 rs[k].2) := by
      intro k h
      rw [hcell k (by rw [partsV_len]; exact h)]
      have := partsV_at (w1.heap.size + 1) 0 rs k h
      rw [List.getElem?_eq_getElem (by rw [partsV_len]; exact h)] at this
      exact this
    have HA := Lib.hid hat; have HL := Lib.hid hsay; have HD := Lib.hid hbd
    rw [← hN] at hN4 hc1 ⊢
    have HN := Lib.hid hN
    unfold maxLen at hc2
    have inv0 : SayInv w w3 w1.heap.size g (w1.heap.size + 1) [] w3 (.slice (some ⟨w.heap.size, 0, none⟩) 0 (2 * s.size)) :=
      ⟨(HB3.out.block _ (by omega)).trans HV.out, own_below HO.out HB3.out, HB.out.trans (HB3.out.mono HB.out.size), Nat.le_refl _, .inl rfl, rfl, rfl⟩
    have HI := Lib.hid inv0
    clear hown hb3 hrs hsay hbd hcell hat hN inv0
    go_wp2_with fail
    go_loopw [16] (fun i wr => ∃ k : Nat, k ≤ N ∧ i = .int .i64 k ∧ Hid (∃ v, SayInv w w3 w1.heap.size g (w1.heap.size + 1) (sayR (rs.take k)) wr v)) (fun i _ => N - (intOf i).toNat)
    case atStart => exact ⟨0, Nat.zero_le _, rfl, _, HI.out⟩
    case round =>
      obtain ⟨k, hk, rfl, HX⟩ := hrel
      obtain ⟨v, inv⟩ := HX.out
      have hszr := inv.size
      by_cases hlt : k < N
      · have hlt' : k < rs.length := by rw [← HN.out]; exact hlt
        obtain ⟨hd1, hd2, hd3, hd4, hd5⟩ := HD.out k hlt'
        have hlo : cntR (rs.take k) < s.data.toList.length := get_lt hd5
        have hc0 : wr.cell? ⟨g, k, none⟩ = some (.slice (some ⟨w1.heap.size + 1, 0 + cntR (rs.take k), none⟩) rs[k].2 rs[k].2) := (World.cell?_of_block (w := w3) inv.keepg).trans (HA.out k hlt')
        have hcb : wr.cell? ⟨w1.heap.size + 1, 0 + cntR (rs.take k), none⟩ = some (.int .u8 (rs[k].1.toNat : Int)) := by
          refine (World.cell?_of_block (w := w3) inv.keepb).trans ((HB3.out.cell (p := ⟨w1.heap.size + 1, 0 + cntR (rs.take k), none⟩) (by exact hsz1)).trans ?_)
          have := HC.out (cntR (rs.take k)) hlo
          rw [Nat.zero_add, this]
          rw [List.getElem?_eq_getElem hlo] at hd5
          rw [Option.some.inj hd5]
        have hsn := sayR_snoc rs k hlt'
        have hlen : (sayR (rs.take k)).length ≤ 40 * k := by
          refine Nat.le_trans (sayR_len _ (fun p hp => ?_)) (by simp; omega)
          obtain ⟨j, hj, rfl⟩ := List.getElem_of_mem (List.mem_of_mem_take hp)
          have := (HD.out j hj).2.2.2.1; omega
        obtain ⟨q, hq⟩ : ∃ q, q = rs[k].2 := ⟨_, rfl⟩
        obtain ⟨d, hd⟩ : ∃ d, d = rs[k].1 := ⟨_, rfl⟩
        obtain ⟨o, ho⟩ : ∃ o, o = 0 + cntR (rs.take k) := ⟨_, rfl⟩
        obtain ⟨t, ht⟩ : ∃ t, t = sayR (rs.take k) := ⟨_, rfl⟩
        rw [← ho, ← hq] at hc0
        rw [← ho, ← hd] at hcb
        rw [← hd] at hd1 hd2
        rw [← hq] at hd3 hd4
        rw [← ht] at inv hlen
        have hsay : sayR (rs.take (k + 1)) = t ++ [UInt8.ofNat (48 + q), d] := by
          rw [hsn, ← ht, ← hq, ← hd, numL_one q (by omega), numL_one _ (by omega)]
          have : UInt8.ofNat (48 + (d.toNat - 48)) = d := by rw [show 48 + (d.toNat - 48) = d.toNat by omega]; exact UInt8.ofNat_toNat
          rw [this]; rfl
        have hq8 : ((UInt8.ofNat (48 + q)).toNat : Int) = 48 + (q : Int) := by
          rw [UInt8.toNat_ofNat', Nat.mod_eq_of_lt (by omega)]; omega
        have HS := Lib.hid hsay; have HV8 := Lib.hid hq8; have HI2 := Lib.hid inv
        have hcall := say_call (W := ((wr.alloc (.cells #[.int .u8 (48 + (q : Int))] 5)).alloc (.cells #[.slice (some ⟨wr.heap.size, 0, none⟩) 1 1, .slice (some ⟨w1.heap.size + 1, o, none⟩) 1 1] 50)).drew)
          (bp := wr.heap.size + 1) (x := wr.heap.size) (o := o) (UInt8.ofNat (48 + q)) d inv (by omega) (below_trans (below_trans (below_alloc _ _) (below_alloc _ _)) (below_drew _)) (by simp [go_sem]) (by simp [go_sem]) (by rw [hq8]; simp [go_sem])
          (by have h8 : w1.heap.size + 1 < wr.heap.size := by omega
              have e1 := (below_trans (below_alloc wr (.cells #[.int .u8 (48 + (q : Int))] 5)) (below_alloc _ (.cells #[.slice (some ⟨wr.heap.size, 0, none⟩) 1 1, .slice (some ⟨w1.heap.size + 1, o, none⟩) 1 1] 50))).drew.cell (p := ⟨w1.heap.size + 1, o, none⟩) h8
              exact e1.trans hcb) (by omega) (by omega) hlt1 (by omega) (by omega) (by omega) (by omega) (by omega) (by omega)
        have HCALL := Lib.hid hcall
        clear hsay hq8 hd5 hlo hsn ho hq hd ht inv hcall
        go_wp2_with fail
        go_region_with (first
          | (go_at_call 63; refine (signOf_is _ _ (by omega) (by omega)).mono ?_; rintro e w' ⟨rfl, rfl⟩)
          | (go_at_call 81; ((with_reducible refine HCALL.out.mono ?_); rintro e w5 ⟨rfl, v5, inv5⟩; have HI5 := Lib.hid inv5; clear inv5)))
        all_goals
          go_wp2_with fail
          go_roundw
          case rel => exact ⟨k + 1, by omega, by go_num, v5, by rw [HS.out]; exact HI5.out⟩
          case measure => simp [intOf] <;> omega
      · obtain rfl : k = N := by omega
        have hcv := inv.var
        obtain ⟨av, cv, rfl⟩ := own_slice inv.own
        have hc0 : wr.cell? ⟨w1.heap.size, 0, none⟩ = some (.slice av (sayR (rs.take k)).length cv) := by simp [World.cell?, hcv]
        have hconv := conv_own inv.own
        have HI2 := Lib.hid inv.below
        clear hcv inv
        go_wp2_with fail
        go_ret
        exact ⟨ret_str (by rw [HL.out, List.take_of_length_le (by rw [← HN.out]; exact Nat.le_refl _)]), HI2.out⟩
end Go.Proofs.Ytclifchdkcidgaa
