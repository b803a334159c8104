/- What is said of a word: the program's sayText, asWord, SayWord. -/
import Derived.Test.YtmlghonidheidaaI1
import Derived.Laws.EntriesVeiled
namespace Go.Proofs.Ytmlghonidheidaa
open Go.RowKit Go.BigFrame Go.Shelf
set_option linter.unusedSimpArgs false
set_option linter.unusedVariables false
set_option maxRecDepth 4000
attribute [local go_sem] Oper.semAt_some

theorem info_byte : (Try.prog.info? 5).map (fun i => (i.zero, i.size, i.bytes)) = some (some (.int .u8 0), 1, 1) := by kernel_rfl

/-- A captured variable, and the row of bytes that its value owns; nothing below B is touched but these. -/
structure Kept (w w' : World) (c : Nat) (old : Option Nat) : Prop where
  os : w'.os = w.os
  tape : w'.tape = w.tape
  output : w'.output = w.output
  size : w.heap.size ≤ w'.heap.size
  block : ∀ k, k < w.heap.size → k ≠ c → some k ≠ old → w'.heap[k]? = w.heap[k]?
theorem Kept.below {w w' : World} {c : Nat} {old : Option Nat} (h : Kept w w' c old) {B : Nat} (hB : B ≤ c) (hs : B ≤ w.heap.size) (ho : ∀ g, old = some g → B ≤ g) : Below B w w' :=
  ⟨h.os, h.tape, h.output, h.size, fun k hk => h.block k (by omega) (by omega) (fun e => by have := ho k e.symm; omega)⟩

theorem Kept.cell {w w' : World} {c : Nat} {old : Option Nat} (h : Kept w w' c old) {p : Addr} {u : Value} (hp : w.cell? p = some u) (hc : p.block ≠ c) (ho : old ≠ some p.block) : w'.cell? p = some u :=
  (World.cell?_of_block (w := w) (h.block p.block (World.block_lt_of_cell? w p hp) hc (fun e => ho e.symm))).trans hp
theorem Kept.trans {w w1 w2 : World} {c : Nat} {o o1 : Option Nat} (h : Kept w w1 c o) (k : Kept w1 w2 c o1) (ho : o1 = o ∨ ∃ g, o1 = some g ∧ w.heap.size ≤ g) : Kept w w2 c o :=
  ⟨k.os.trans h.os, k.tape.trans h.tape, k.output.trans h.output, Nat.le_trans h.size k.size, fun i hi h1 h2 => by
    refine (k.block i (Nat.lt_of_lt_of_le hi h.size) h1 ?_).trans (h.block i hi h1 h2)
    rcases ho with rfl | ⟨g, rfl, hg⟩
    · exact h2
    · intro e; cases e; omega⟩
/-- A row's block is not that of a variable of another type. -/
theorem own_ne_var {w : World} {B : Nat} {E T : TypeId} {v : Value} {n c : Nat} {xs : List Value} {cs : Array Value} {f : Nat × Nat} (h : w.ownsRow B E 1 v n xs) (hc : w.heap[c]? = some (.cells cs T f)) (hTE : T ≠ E) : v.ownBlock ≠ some c := by
  intro e
  rcases h.2 with ⟨rfl, _⟩ | ⟨g1, _, c1, rfl, _, e1, _⟩
  · cases e
  · cases e
    rw [e1] at hc
    simp only [Option.some.injEq, Obj.cells.injEq] at hc
    exact hTE hc.2.1.symm
/-- An append to a captured variable. -/
theorem step_join {w w1 : World} {B c n : Nat} {v v1 u : Value} {xs : List Value} (hc : w.heap[c]? = some (.cells #[v] 22 (0, 0))) (hv : w.ownsRow B 5 1 v n xs)
    (h1 : w1.ownsRow B 5 1 v1 (n + 1) (xs ++ [u])) (hg : w.grownBy w1 v.ownBlock) :
    (w1.setCell ⟨c, 0, none⟩ v1).heap[c]? = some (.cells #[v1] 22 (0, 0)) ∧ (w1.setCell ⟨c, 0, none⟩ v1).ownsRow B 5 1 v1 (n + 1) (xs ++ [u]) ∧ Kept w (w1.setCell ⟨c, 0, none⟩ v1) c v.ownBlock ∧
      w1.cell? ⟨c, 0, none⟩ = some v ∧ w1.frozen? ⟨c, 0, none⟩ = false := by
  have hlt : c < w.heap.size := (Array.getElem?_eq_some_iff.1 hc).1
  have hne := own_ne_var hv hc (by decide)
  have hc1 : w1.heap[c]? = some (.cells #[v] 22 (0, 0)) := (hg.block c hlt (fun e => hne e.symm)).trans hc
  have hne1 := own_ne_var h1 hc1 (by decide)
  refine ⟨?_, ?_, ⟨hg.os, hg.tape, hg.output, by rw [show (w1.setCell ⟨c, 0, none⟩ v1).heap.size = w1.heap.size from Go.Deep.nblk_setCell _ _ _]; exact hg.size, fun k hk h2 h3 => ?_⟩, by simp [World.cell?, hc1], by simp [World.frozen?, hc1]⟩
  · have := heap_setCell_same w1 c 0 #[v] 22 v1 hc1
    simpa using this
  · exact own_block h1 (fun g hg' => Below.heap_setCell _ _ _ _ (fun e => hne1 (by rw [hg']; exact congrArg some e)))
  · rw [Below.heap_setCell _ _ _ _ h2]
    exact hg.block k hk h3

set_option maxHeartbeats 2000000 in
theorem join2 (w : World) (B c bp x y o : Nat) (v : Value) (acc : List Value) (b1 b2 : Int) (hc : w.heap[c]? = some (.cells #[v] 22 (0, 0)))
    (hv : w.ownsRow B 5 1 v acc.length acc) (hacc : acc.length ≤ 400000) (hB : B ≤ w.heap.size)
    (h1 : w.cell? ⟨bp, 0, none⟩ = some (.slice (some ⟨x, 0, none⟩) 1 1)) (h2 : w.cell? ⟨bp, 1, none⟩ = some (.slice (some ⟨y, o, none⟩) 1 1))
    (h3 : w.cell? ⟨x, 0, none⟩ = some (.int .u8 b1)) (h4 : w.cell? ⟨y, o, none⟩ = some (.int .u8 b2))
    (hbp : bp ≠ c) (hx : x ≠ c) (hy : y ≠ c) (gbp : v.ownBlock ≠ some bp) (gy : v.ownBlock ≠ some y) :
    Calls Try.prog 61 #[.slice (some ⟨bp, 0, none⟩) 2 2, .pointer (some ⟨c, 0, none⟩)] w fun e w' => e = .returned (.tuple #[]) ∧
      ∃ v', w'.heap[c]? = some (.cells #[v'] 22 (0, 0)) ∧ w'.ownsRow B 5 1 v' (acc.length + 2) (acc ++ [.int .u8 b1, .int .u8 b2]) ∧
        (v'.ownBlock = v.ownBlock ∨ ∃ g, v'.ownBlock = some g ∧ w.heap.size ≤ g) ∧ Kept w w' c v.ownBlock := by
  obtain ⟨i0, hi, hz0, hz1, hz2⟩ := info_parts info_byte
  go_enter Try.func61, Try.ntmps61
  go_wp2_with fail
  refine wp_loop_rounds 3 ?_
  rw [rounds_succ]
  have hcv : w.cell? ⟨c, 0, none⟩ = some v := by simp [World.cell?, hc]
  have HC := Lib.hid hc; clear hc
  go_wp2_with (at_builtin; refine wpList_app _ rfl _ _ 22 rfl B 5 i0 (.int .u8 0) 1 Try.underlying22 hi hz0 hz1 hz2 rfl v acc.length acc rfl hv ⟨x, 0, none⟩ 1 1 [.int .u8 b1] rfl rfl ?c1 ?c2 ?c3 ?c4 ?c5 ?_)
  case c1 =>
    intro j u hj
    match j, hj with
    | 0, hj => simp at hj; subst hj; simpa [Addr.add] using h3
  case c2 => intro u hu; simp at hu; subst hu; rfl
  case c3 => unfold maxLen; omega
  case c4 => omega
  case c5 => exact hB
  intro v1 w1 ho1 hg1 hw1
  obtain ⟨av, cv, hv1⟩ := own_slice ho1
  subst hv1
  obtain ⟨s1, s2, s3, s4, s5⟩ := step_join HC.out hv ho1 hg1
  have S1 := Lib.hid s1; have S2 := Lib.hid s2; have S3 := Lib.hid s3
  have t2 : (w1.setCell ⟨c, 0, none⟩ (.slice av (acc.length + 1) cv)).cell? ⟨bp, 1, none⟩ = some (.slice (some ⟨y, o, none⟩) 1 1) := s3.cell h2 hbp gbp
  have t4 : (w1.setCell ⟨c, 0, none⟩ (.slice av (acc.length + 1) cv)).cell? ⟨y, o, none⟩ = some (.int .u8 b2) := s3.cell h4 hy gy
  have t5 : (w1.setCell ⟨c, 0, none⟩ (.slice av (acc.length + 1) cv)).cell? ⟨c, 0, none⟩ = some (.slice av (acc.length + 1) cv) := by simp [World.cell?, s1]
  have T2 := Lib.hid t2; have T4 := Lib.hid t4; have T5 := Lib.hid t5; have HG := Lib.hid hg1
  clear s1 s2 s3 t2 t4 t5 hg1
  go_wp2_with fail
  rw [rounds_succ]
  generalize w1.setCell ⟨c, 0, none⟩ (.slice av (acc.length + 1) cv) = ws at *
  have t2 := T2.out; have t4 := T4.out; have t5 := T5.out
  clear s4 s5 hcv h1 h2 h3 h4
  go_wp2_with (at_builtin; refine wpList_app _ rfl _ _ 22 rfl B 5 i0 (.int .u8 0) 1 Try.underlying22 hi hz0 hz1 hz2 rfl _ (acc.length + 1) _ rfl S2.out ⟨y, o, none⟩ 1 1 [.int .u8 b2] rfl rfl ?d1 ?d2 ?d3 ?d4 ?d5 ?_)
  case d1 =>
    intro j u hj
    match j, hj with
    | 0, hj => simp at hj; subst hj; simpa [Addr.add] using t4
  case d2 => intro u hu; simp at hu; subst hu; rfl
  case d3 => unfold maxLen; omega
  case d4 => omega
  case d5 => have := S3.out.size; omega
  intro v2 w2 ho2 hg2 hw2
  obtain ⟨av2, cv2, hv2⟩ := own_slice ho2
  subst hv2
  obtain ⟨r1, r2, r3, r4, r5⟩ := step_join (u := .int .u8 b2) S1.out S2.out (by simpa using ho2) hg2
  have hloc : (Value.slice av2 (acc.length + 1 + 1) cv2).ownBlock = v.ownBlock ∨ ∃ g, (Value.slice av2 (acc.length + 1 + 1) cv2).ownBlock = some g ∧ w.heap.size ≤ g := by
    rcases hw2 with h | h
    · rw [h]
      rcases hw1 with h' | h'
      · exact .inl h'
      · exact .inr ⟨_, h', Nat.le_refl _⟩
    · exact .inr ⟨_, h, S3.out.size⟩
  have hk := S3.out.trans r3 (by
    rcases hw1 with h' | h'
    · exact .inl h'
    · exact .inr ⟨_, h', Nat.le_refl _⟩)
  have R1 := Lib.hid r1; have R2 := Lib.hid r2; have HL := Lib.hid hloc; have HK := Lib.hid hk
  clear r1 r2 r3 hloc hk hw1 hw2
  go_wp2_with fail
  rw [rounds_succ]
  clear r4 r5 t2 t4 t5
  go_wp2_with fail
  go_end0
  refine ⟨rfl, _, R1.out, ?_, HL.out, HK.out⟩
  have := R2.out
  simpa using this

theorem signOf_is (n : Int) (w : World) (h0 : 0 ≤ n) (h1 : n ≤ 200) :
    Calls Try.prog 51 #[.int .i64 n] w fun e w' => e = .returned (.int .u8 (48 + n)) ∧ w = w' := by
  go_enter Try.func51, Try.ntmps51
  go_wp2
  go_ret
  exact ⟨rfl, rfl⟩

theorem le_longR (rs : List (UInt8 × Nat)) (p : UInt8 × Nat) (h : p ∈ rs) : p.2 ≤ longR rs := by
  induction h2 : rs.length generalizing rs with
  | zero => have : rs = [] := List.eq_nil_of_length_eq_zero h2; subst this; simp at h
  | succ n ih =>
    have hne : rs ≠ [] := by intro e; simp [e] at h
    have hd := List.dropLast_concat_getLast hne
    rw [← hd, longR_snoc]
    rw [← hd, List.mem_append] at h
    rcases h with h | h
    · have := ih rs.dropLast h (by simp [h2]); omega
    · simp at h; subst h; omega
def u8s (l : List UInt8) : List Value := l.map (fun c => .int .u8 (c.toNat : Int))
theorem u8s_len (l : List UInt8) : (u8s l).length = l.length := by simp [u8s]
/-- 'string(b)' of a row of bytes that is owned. -/
theorem conv_own {w : World} {B : Nat} {v : Value} {l : List UInt8} (h : w.ownsRow B 5 1 v l.length (u8s l)) : (convert 22 9 v).run Try.prog w = .ok (.string (bs l)) w := by
  rcases own_open h with ⟨rfl, h0, _⟩ | ⟨g, cap, rfl, _, _, _, _, _, hc, _⟩
  · have : l = [] := List.eq_nil_of_length_eq_zero h0
    subst this
    exact run_convert_bytes_nil (P := Try.prog) w 22 5 Try.underlying22 Try.underlying5 0 0 9 Try.underlying9
  · have := run_convert_bytes_arg (P := Try.prog) w 22 5 Try.underlying22 Try.underlying5 g 0 l.length cap (l.map (fun c => (c.toNat : Int))) (by simp) (fun i hi => by
      rw [Nat.zero_add, hc i (by rw [u8s_len]; exact hi)]
      simp [u8s, List.getD, hi]) 9 Try.underlying9
    rw [this]
    congr 2
    apply bs_eq
    rw [strOfNums_data, List.map_map]
    conv => rhs; rw [← List.map_id l]
    apply List.map_congr_left
    intro c _
    simp
/-- What the loop over the runs keeps. -/
structure SayInv (w W0 : World) (c : Nat) (l : List UInt8) (wr : World) (v : Value) : Prop where
  var : wr.heap[c]? = some (.cells #[v] 22 (0, 0))
  own : wr.ownsRow w.heap.size 5 1 v l.length (u8s l)
  below : Below w.heap.size w wr
  size : W0.heap.size ≤ wr.heap.size
  loc : v.ownBlock = some w.heap.size ∨ ∃ q, v.ownBlock = some q ∧ W0.heap.size ≤ q
  keep : ∀ k, k < W0.heap.size → k ≠ c → k ≠ w.heap.size → wr.heap[k]? = W0.heap[k]?
theorem own_cells {w : World} {B : Nat} {E : TypeId} {v : Value} {n : Nat} {xs : List Value} (h : w.ownsRow B E 1 v n xs) {g : Nat} (hg : v.ownBlock = some g) : ∃ cs f, w.heap[g]? = some (.cells cs E f) := by
  rcases h.2 with ⟨rfl, _⟩ | ⟨g1, _, c1, rfl, _, e1, _⟩
  · cases hg
  · cases hg; exact ⟨_, _, e1⟩
theorem sayInv_own {β : Type} (w W0 : World) (c : Nat) (f : β → List UInt8) (hc : c < W0.heap.size) (hw : w.heap.size ≤ W0.heap.size) : OwnFrom W0.heap.size (fun (s : β) W => ∃ v, SayInv w W0 c (f s) W v) := by
  rintro s X Y row ⟨v, hv⟩ hg hr
  refine ⟨v, (hg.block c (Array.getElem?_eq_some_iff.1 hv.var).1 (fun e => by have := (hr c e.symm).1; omega)).trans hv.var, own_block hv.own (fun g hgo => ?_), hv.below.grown hg hv.below.size (fun k e => by have := (hr k e).1; omega), Nat.le_trans hv.size hg.size, hv.loc, fun k hk h1 h2 => ?_⟩
  · obtain ⟨cs, fz, hcs⟩ := own_cells hv.own hgo
    refine hg.block g (Array.getElem?_eq_some_iff.1 hcs).1 (fun e => ?_)
    obtain ⟨o, ho, hco⟩ := (hr g e.symm).2
    rw [hcs] at ho; cases ho; cases hco
  · exact (hg.block k (Nat.lt_of_lt_of_le hk hv.size) (fun e => by have := (hr k e.symm).1; omega)).trans (hv.keep k hk h1 h2)
theorem say_call {w W0 wr W : World} {c b bp x o : Nat} {l : List UInt8} {v : Value} (c1 c2 : UInt8) (inv : SayInv w W0 c l wr v) (hl : l.length ≤ 300000)
    (hW : Below wr.heap.size wr W) (h1 : W.cell? ⟨bp, 0, none⟩ = some (.slice (some ⟨x, 0, none⟩) 1 1)) (h2 : W.cell? ⟨bp, 1, none⟩ = some (.slice (some ⟨b, o, none⟩) 1 1))
    (h3 : W.cell? ⟨x, 0, none⟩ = some (.int .u8 (c1.toNat : Int))) (h4 : W.cell? ⟨b, o, none⟩ = some (.int .u8 (c2.toNat : Int)))
    (hbp : wr.heap.size ≤ bp) (hx : wr.heap.size ≤ x) (hwc : w.heap.size < c) (hcb : c ≠ b) (hb : b < W0.heap.size) (hwb : w.heap.size ≠ b) (hc0 : c < W0.heap.size) :
    Calls Try.prog 61 #[.slice (some ⟨bp, 0, none⟩) 2 2, .pointer (some ⟨c, 0, none⟩)] W fun e w' => e = .returned (.tuple #[]) ∧ (∃ v', SayInv w W0 c (l ++ [c1, c2]) w' v') ∧ KeepsFrom W0.heap.size wr w' ∧
      ∀ k, k < W0.heap.size → k ≠ c → k ≠ w.heap.size → w'.heap[k]? = wr.heap[k]? := by
  have hc : c < wr.heap.size := (Array.getElem?_eq_some_iff.1 inv.var).1
  have hlt : ∀ q, v.ownBlock = some q → q < wr.heap.size := fun q hq => (inv.own.lt q hq).2
  have hne : ∀ q, q < W0.heap.size → w.heap.size ≠ q → v.ownBlock ≠ some q := by
    intro q hq hw e
    rcases inv.loc with h | ⟨q', h, h'⟩
    · rw [e] at h; cases h; exact hw rfl
    · rw [e] at h; cases h; omega
  refine (join2 W w.heap.size c bp x b o v (u8s l) (c1.toNat : Int) (c2.toNat : Int) ((hW.block c hc).trans inv.var) (own_below (by rw [u8s_len]; exact inv.own) hW) (by rw [u8s_len]; omega)
    (Nat.le_trans inv.below.size hW.size) h1 h2 h3 h4 (by omega) (by omega) (fun e => hcb e.symm) (fun e => by have := hlt bp e; omega) (hne b hb hwb)).mono ?_
  rintro e w' ⟨rfl, v', a1, a2, a3, a4⟩
  have hall : ∀ k, k < wr.heap.size → k ≠ c → some k ≠ v.ownBlock → w'.heap[k]? = wr.heap[k]? := fun k hk h1 h2 => (a4.block k (Nat.lt_of_lt_of_le hk hW.size) h1 h2).trans (hW.block k hk)
  have hold : ∀ k, k < W0.heap.size → k ≠ c → k ≠ w.heap.size → w'.heap[k]? = wr.heap[k]? := fun k hk h1 h2 => hall k (Nat.lt_of_lt_of_le hk inv.size) h1 (fun e => hne k hk (fun e' => h2 e'.symm) e.symm)
  refine ⟨rfl, ⟨v', ⟨a1, ?_, ?_, Nat.le_trans inv.size (Nat.le_trans hW.size a4.size), ?_, fun k hk h1 h2 => (hold k hk h1 h2).trans (inv.keep k hk h1 h2)⟩⟩, ⟨Nat.le_trans hW.size a4.size, fun k ob hB hk ho => ?_⟩, hold⟩
  · rw [u8s_len] at a2
    simpa [u8s] using a2
  · refine (inv.below.trans (hW.mono inv.below.size)).trans (a4.below (by omega) (Nat.le_trans inv.below.size hW.size) (fun q hq => ?_))
    exact (inv.own.lt q hq).1
  · rcases a3 with h | ⟨q, h, h'⟩
    · rw [h]; exact inv.loc
    · exact .inr ⟨q, h, Nat.le_trans inv.size (Nat.le_trans hW.size h')⟩
  · refine (hall k (Array.getElem?_eq_some_iff.1 hk).1 (by omega) (fun e => ?_)).trans hk
    obtain ⟨cs, fz, hcs⟩ := own_cells inv.own e.symm
    rw [hcs] at hk; cases hk; cases ho

theorem mixed : Try.prog.follows .mixedOrders = true := by kernel_rfl
theorem sayB_speak {l : List UInt8} (h : speakL l = true) : sayB l = true := by
  unfold speakL goodL at h
  simp only [Bool.and_eq_true, decide_eq_true_eq] at h
  refine sayB_iff.2 ⟨?_, h.1.2, h.2⟩
  intro e; rw [e] at h; simp at h

set_option maxRecDepth 100000 in
set_option maxHeartbeats 1000000 in
theorem sayText_long (s : ByteArray) (w : World) (hsp : sayB s.data.toList = true) (hlen : s.size ≤ 100000) :
    Calls Try.prog 37 #[.string s] w fun e w' => e = .returned (.string (bs (sayL s.data.toList))) ∧ Below w.heap.size w w' := by
  obtain ⟨h0, h3, h9⟩ := sayB_iff.1 hsp
  have h1 : 1 ≤ s.data.toList.length := Nat.pos_of_ne_zero (fun e => h0 (List.eq_nil_of_length_eq_zero e))
  have hs : s.size ≤ maxLen := by unfold maxLen; omega
  obtain ⟨i0, hi, hz0, hz1, hz2⟩ := info_parts info_byte
  have HSP := Lib.hid hsp
  clear h0 h3 h9 hsp
  refine calls_marks Try.func37 rfl fun Q hQ => ?_
  simp only [Try.ntmps37, List.size_toArray, List.length_cons, List.length_nil, Nat.reduceAdd, Nat.reduceSub, Array.replicate_succ, Array.replicate_zero, List.push_toArray, List.append_toArray, List.nil_append, List.cons_append]
  go_wp2_with (first
    | (refine wpList_make_own _ rfl _ _ 22 rfl w.heap.size 5 i0 (.int .u8 0) 1 Try.underlying22 hi hz0 hz1 .i64 .i64 (2 * (s.size : Int)) (2 * s.size) rfl rfl (by omega) (by rw [hz2]; omega) (by unfold maxLen; omega) (Nat.le_refl _) ?_; intro w1 hown hgr)
    | (refine wpList_bytes _ rfl 9 22 _ rfl 5 Try.underlying9 Try.underlying22 Try.underlying5 s rfl hs ?_; intro w2 cap hb hsz hcap hcm hcell hfr))
  have hlt1 : w.heap.size < w1.heap.size := (hown.lt w.heap.size rfl).2
  have hsz1 : w1.heap.size + 1 + 1 < w2.heap.size := by simpa using hsz
  have hb1 := (Below.refl w.heap.size w).grown hgr (Nat.le_refl _) (fun k h => by cases h)
  have hbx : Below w1.heap.size w1 w2 := by
    have h2 := hb.mono (show w1.heap.size ≤ _ by simp; omega)
    exact ((((Below.refl _ w1).alloc (Nat.le_refl _) _).alloc (by simp) _).trans h2)
  have hvar : w2.heap[w1.heap.size]? = some (.cells #[.slice (some ⟨w.heap.size, 0, none⟩) 0 (2 * s.size)] 22 (0, 0)) := by
    refine (hb.block w1.heap.size (by simp; omega)).trans ?_
    exact ((below_alloc _ _).block w1.heap.size (by simp <;> omega)).trans (Go.Deep.blk_alloc_new _ _)
  have hjoin : w2.cell? ⟨w1.heap.size + 1, 0, none⟩ = some (.func (.func 61) #[] #[.pointer (some ⟨w1.heap.size, 0, none⟩)]) := by
    refine (hb.cell (p := ⟨w1.heap.size + 1, 0, none⟩) (by simp)).trans ?_
    simp [go_sem]
  have hz : s.size = s.data.toList.length := by simp
  have hcell2 : ∀ i (h : i < s.data.toList.length), w2.cell? ⟨w1.heap.size + 1 + 1, i, none⟩ = some (.int .u8 (s.data.toList[i].toNat : Int)) := by
    intro i h
    have := hcell i (by rw [hz]; exact h)
    rw [Go.Deep.nblk_alloc, Go.Deep.nblk_alloc] at this
    exact this
  have HV := Lib.hid hvar; have HJ := Lib.hid hjoin; have HC := Lib.hid hcell2; have HO := Lib.hid (own_below hown hbx); have HB := Lib.hid (hb1.trans (hbx.mono (Nat.le_of_lt hlt1))); have HZ := Lib.hid hz
  clear hcell hfr hb hown hgr hb1 hbx hvar hjoin hcell2 hz hsz
  go_wp2_with fail
  refine (runParts_is _ _ _ _).mono ?_
  rintro e w3 ⟨rfl, hw3⟩
  have hs3 : w3.heap.size = w2.heap.size + 1 := by rw [hw3]; simp
  have hb3 : Below w2.heap.size w2 w3 := by rw [hw3]; exact below_alloc _ _
  have hbox : w3.cell? ⟨w2.heap.size, 0, none⟩ = some (.slice (some ⟨w1.heap.size + 1 + 1, 0, none⟩) s.size cap) := by rw [hw3]; simp [go_sem]
  have HS3 := Lib.hid hs3; have HB3 := Lib.hid hb3; have HX := Lib.hid hbox
  clear hw3 hs3 hb3 hbox
  obtain ⟨rs, hrs⟩ : ∃ rs, rs = runsL s.data.toList := ⟨_, rfl⟩
  have HRS := Lib.hid hrs; clear hrs
  have HOK : Hid (∀ p ∈ rs, RunOk p) := by rw [HRS.out]; exact runs_ok HSP.out
  have HRL : Hid (rs.length ≤ 100000) := by rw [HRS.out]; exact Nat.le_trans (runs_len_le _) (by rw [← HZ.out]; exact hlen)
  have h1b : w1.heap.size < w3.heap.size := by rw [HS3.out]; omega
  have h2b : w1.heap.size + 1 + 1 < w3.heap.size := by rw [HS3.out]; omega
  have inv0 : Hid (SayInv w w3 w1.heap.size [] w3 (.slice (some ⟨w.heap.size, 0, none⟩) 0 (2 * s.size))) :=
    ⟨(HB3.out.block _ (by omega)).trans HV.out, own_below HO.out HB3.out, HB.out.trans (HB3.out.mono HB.out.size), Nat.le_refl _, .inl rfl, fun _ _ _ _ => rfl⟩
  go_wp2_with fail
  refine wp_parts s.data.toList rs HRS.out w2.heap.size (w1.heap.size + 1 + 1) cap h1 (by have := HZ.out; omega) (by rw [← HZ.out]; exact hcap) hcm (by rw [HS3.out]; omega) h2b (by rw [← HZ.out]; exact HX.out)
    (fun i h => (HB3.out.cell (p := ⟨w1.heap.size + 1 + 1, i, none⟩) hsz1).trans (HC.out i h)) rfl
    (fun got W => (∃ v, SayInv w w3 w1.heap.size (sayR got) W v) ∧ (∀ p ∈ got, p ∈ rs) ∧ got.length ≤ rs.length)
    (OwnFrom.and (sayInv_own w w3 w1.heap.size sayR h1b (by omega)) (fun _ _ _ _ h _ _ => h))
    ⟨⟨_, inv0.out⟩, fun p h => by simp at h, Nat.zero_le _⟩
    (fun x => { tmps := #[.string s, undef, .string ⟨#[]⟩, .pointer (some ⟨w1.heap.size, 0, none⟩), .pointer (some ⟨w1.heap.size + 1, 0, none⟩), .slice (some ⟨w1.heap.size + 1 + 1, cntR (rs.take x), none⟩) rs[x].2 rs[x].2, .string s, .int .i64 (s.size : Int), .int .i64 (2 * (s.size : Int)), .slice (some ⟨w.heap.size, 0, none⟩) 0 (2 * s.size), .func (.func 61) #[] #[.pointer (some ⟨w1.heap.size, 0, none⟩)], .string s, .slice (some ⟨w1.heap.size + 1 + 1, 0, none⟩) s.size cap, .func (.func 63) #[] #[.pointer (some ⟨w2.heap.size, 0, none⟩)], .slice (some ⟨w1.heap.size + 1 + 1, cntR (rs.take x), none⟩) rs[x].2 rs[x].2, undef, undef, undef, undef, undef, undef, undef, undef, undef, undef, undef], defers := [] }) ?assign ?body ?done
  case assign =>
    intro lp x W K hK
    simp only [List.setIfInBounds_toArray, List.set_cons_succ, List.set_cons_zero]
    gi_wp2
    exact hK
  case body =>
    rintro lp pre x W Q2 hno hQ2 ⟨⟨v, inv⟩, hmem, hlen2⟩ hlt
    have hok := HOK.out rs[x] (List.getElem_mem _)
    obtain ⟨hd1, hd2, hd3, hd4⟩ := hok
    have hlen3 : (gotR rs pre).length = pre.length := by simp [gotR]
    have hsl : (sayR (gotR rs pre)).length ≤ 200000 := by
      rw [sayR_len2 (fun p hp => HOK.out p (hmem p hp))]; have := HRL.out; omega
    have hIN := Lib.hid (show (∀ p ∈ gotR rs pre ++ [rs[x]], p ∈ rs) ∧ (gotR rs pre ++ [rs[x]]).length ≤ rs.length from ⟨fun p hp => by
      rw [List.mem_append] at hp
      rcases hp with hp | hp
      · exact hmem p hp
      · simp at hp; subst hp; exact List.getElem_mem _, by simp; omega⟩)
    have hsnoc := Lib.hid (sayR_snoc2 (qs := gotR rs pre) (HOK.out rs[x] (List.getElem_mem _)))
    have hcb : W.cell? ⟨w1.heap.size + 1 + 1, cntR (rs.take x), none⟩ = some (.int .u8 (rs[x].1.toNat : Int)) := by
      have hg : s.data.toList[cntR (rs.take x)]? = some rs[x].1 := by
        have hk : (x : Nat) < (runsL s.data.toList).length := by rw [← HRS.out]; exact x.2
        have := runs_get s.data.toList x hk
        have e := HRS.out
        subst e
        exact this
      have hlo := get_lt hg
      refine (World.cell?_of_block (w := w3) (inv.keep (w1.heap.size + 1 + 1) h2b (by omega) (by omega))).trans ((HB3.out.cell (p := ⟨w1.heap.size + 1 + 1, cntR (rs.take x), none⟩) hsz1).trans ?_)
      rw [HC.out _ hlo]
      rw [List.getElem?_eq_getElem hlo] at hg
      rw [Option.some.inj hg]
    have hjc : W.cell? ⟨w1.heap.size + 1, 0, none⟩ = some (.func (.func 61) #[] #[.pointer (some ⟨w1.heap.size, 0, none⟩)]) :=
      (World.cell?_of_block (w := w3) (inv.keep (w1.heap.size + 1) (by omega) (by omega) (by omega))).trans ((HB3.out.cell (p := ⟨w1.heap.size + 1, 0, none⟩) (by show w1.heap.size + 1 < _; omega)).trans HJ.out)
    have hnd : ((nDig rs[x].2).toNat : Int) = 48 + (rs[x].2 : Int) := by rw [nDig_nat hd4]; omega
    have HI := Lib.hid inv; have HSL := Lib.hid hsl
    have hszw := inv.size
    clear hmem hlen2 hlen3 inv
    generalize sayR (gotR rs pre ++ [rs[x]]) = said at *
    generalize hgot : sayR (gotR rs pre) = t at *
    have HND := Lib.hid hnd; clear hnd hgot
    generalize rs[x].2 = q at *
    generalize rs[x].1 = d at *
    generalize cntR (rs.take x) = o at *
    have hcall := say_call (W := ((W.alloc (.cells #[.int .u8 (48 + (q : Int))] 5)).alloc (.cells #[.slice (some ⟨W.heap.size, 0, none⟩) 1 1, .slice (some ⟨w1.heap.size + 1 + 1, o, none⟩) 1 1] 22)).drew)
      (bp := W.heap.size + 1) (x := W.heap.size) (o := o) (b := w1.heap.size + 1 + 1) (nDig q) d HI.out (by omega) (below_trans (below_trans (below_alloc _ _) (below_alloc _ _)) (below_drew _)) (by simp [go_sem]) (by simp [go_sem]) (by rw [HND.out]; simp [go_sem])
      (by have h8 : w1.heap.size + 1 + 1 < W.heap.size := by omega
          have e1 := (below_trans (below_alloc W (.cells #[.int .u8 (48 + (q : Int))] 5)) (below_alloc _ (.cells #[.slice (some ⟨W.heap.size, 0, none⟩) 1 1, .slice (some ⟨w1.heap.size + 1 + 1, o, none⟩) 1 1] 22))).drew.cell (p := ⟨w1.heap.size + 1 + 1, o, none⟩) h8
          exact e1.trans hcb) (by omega) (by omega) hlt1 (by omega) h2b (by omega) h1b
    have HCALL := Lib.hid hcall
    have h3b : w1.heap.size + 1 < W.heap.size := by omega
    have h4b : w1.heap.size + 1 < W.heap.size + 1 := by omega
    clear hcall
    gi_wp2_with fail
    refine region_round (by kernel_rfl) (fun ⟨a, w, h⟩ => hno.1 ⟨a, w, h⟩) ?_
    refine wpAny_take (i := 1) (v := .slice (some ⟨w1.heap.size + 1 + 1, o, none⟩) q q) rfl (by kernel_rfl) (by kernel_rfl) (by kernel_rfl) (fun _ _ _ h => (hno.2 _ _ _ h).elim) (Or.inl ⟨by rfl, fun w => by first | rfl | (go_simp; done) | (go_simp; rfl) | (go_simp; intro hx; exact absurd hx (by omega))⟩) ?_
    refine wpAny_take (i := 2) (v := .int .i64 (q : Int)) rfl (by kernel_rfl) (by kernel_rfl) (by kernel_rfl) (fun _ _ _ h => (hno.2 _ _ _ h).elim) (Or.inl ⟨by rfl, fun w => by first | rfl | (go_simp; done) | (go_simp; rfl) | (go_simp; intro hx; exact absurd hx (by omega))⟩) ?_
    refine wpAny_take (i := 5) (v := .slice (some ⟨w1.heap.size + 1 + 1, o, none⟩) q q) rfl (by kernel_rfl) (by kernel_rfl) (by kernel_rfl) (fun _ _ _ h => (hno.2 _ _ _ h).elim) (Or.inl ⟨by rfl, fun w => by first | rfl | (go_simp; done) | (go_simp; rfl) | (go_simp; intro hx; exact absurd hx (by omega))⟩) ?_
    refine wpAny_take (i := 6) (v := .slice (some ⟨w1.heap.size + 1 + 1, o, none⟩) 1 1) rfl (by kernel_rfl) (by kernel_rfl) (by kernel_rfl) (fun _ _ _ h => (hno.2 _ _ _ h).elim) (Or.inl ⟨by rfl, fun w => by first | rfl | (go_simp; done) | (go_simp; rfl) | (go_simp; intro hx; exact absurd hx (by omega))⟩) ?_
    refine wpAny_ready (rs := [0, 3]) (by kernel_rfl) (by simp) (AllReady.cons rfl (fun K hK => ?_) (AllReady.cons rfl (fun K hK => ?_) AllReady.nil))
    · go_simp
      (first | (refine hK _ _ ?_; clear hK K) | skip)
      refine wpAny_ready (rs := [3]) (by kernel_rfl) (by simp) (AllReady.cons rfl (fun K hK => ?_) AllReady.nil)
      go_simp
      go_wp2_with (go_at_call 51; refine (signOf_is _ _ (by omega) (by omega)).mono ?_; rintro e w' ⟨rfl, rfl⟩)
      (first | (refine hK _ _ ?_; clear hK K) | skip)
      refine wpAny_ready (rs := [4]) (by kernel_rfl) (by simp) (AllReady.cons rfl (fun K hK => ?_) AllReady.nil)
      go_simp
      (first | (refine hK _ _ ?_; clear hK K) | skip)
      refine wpAny_ready (rs := [7]) (by kernel_rfl) (by simp) (AllReady.cons rfl (fun K hK => ?_) AllReady.nil)
      go_simp
      (first | (refine hK _ _ ?_; clear hK K) | skip)
      refine wpAny_ready (rs := [8]) (by kernel_rfl) (by simp) (AllReady.cons rfl (fun K hK => ?_) AllReady.nil)
      go_simp
      go_wp2_with (go_at_call 61; ((with_reducible refine HCALL.out.mono ?_); rintro e w5 ⟨rfl, inv5, hk5, hold5⟩; have HI5 := Lib.hid inv5; have HK5 := Lib.hid hk5; have HO5 := Lib.hid hold5; clear inv5 hk5 hold5))
      (first | (refine hK _ _ ?_; clear hK K) | skip)
      refine wpAny_done (by kernel_rfl) ?_ _
      simp only [Exit.inBlock]
      exact hQ2 _ _ HK5.out ⟨HO5.out w2.heap.size (by rw [HS3.out]; omega) (by omega) (by omega), HO5.out (w1.heap.size + 1 + 1) h2b (by omega) (by omega)⟩ ⟨by rw [hsnoc.out, List.append_assoc]; exact HI5.out, hIN.out⟩
    · go_simp
      go_wp2_with (go_at_call 51; refine (signOf_is _ _ (by omega) (by omega)).mono ?_; rintro e w' ⟨rfl, rfl⟩)
      (first | (refine hK _ _ ?_; clear hK K) | skip)
      refine wpAny_ready (rs := [0, 4]) (by kernel_rfl) (by simp) (AllReady.cons rfl (fun K hK => ?_) (AllReady.cons rfl (fun K hK => ?_) AllReady.nil))
      · go_simp
        (first | (refine hK _ _ ?_; clear hK K) | skip)
        refine wpAny_ready (rs := [4]) (by kernel_rfl) (by simp) (AllReady.cons rfl (fun K hK => ?_) AllReady.nil)
        go_simp
        (first | (refine hK _ _ ?_; clear hK K) | skip)
        refine wpAny_ready (rs := [7]) (by kernel_rfl) (by simp) (AllReady.cons rfl (fun K hK => ?_) AllReady.nil)
        go_simp
        (first | (refine hK _ _ ?_; clear hK K) | skip)
        refine wpAny_ready (rs := [8]) (by kernel_rfl) (by simp) (AllReady.cons rfl (fun K hK => ?_) AllReady.nil)
        go_simp
        go_wp2_with (go_at_call 61; ((with_reducible refine HCALL.out.mono ?_); rintro e w5 ⟨rfl, inv5, hk5, hold5⟩; have HI5 := Lib.hid inv5; have HK5 := Lib.hid hk5; have HO5 := Lib.hid hold5; clear inv5 hk5 hold5))
        (first | (refine hK _ _ ?_; clear hK K) | skip)
        refine wpAny_done (by kernel_rfl) ?_ _
        simp only [Exit.inBlock]
        exact hQ2 _ _ HK5.out ⟨HO5.out w2.heap.size (by rw [HS3.out]; omega) (by omega) (by omega), HO5.out (w1.heap.size + 1 + 1) h2b (by omega) (by omega)⟩ ⟨by rw [hsnoc.out, List.append_assoc]; exact HI5.out, hIN.out⟩
      · go_simp
        (first | (refine hK _ _ ?_; clear hK K) | skip)
        refine wpAny_ready (rs := [0, 7]) (by kernel_rfl) (by simp) (AllReady.cons rfl (fun K hK => ?_) (AllReady.cons rfl (fun K hK => ?_) AllReady.nil))
        · go_simp
          (first | (refine hK _ _ ?_; clear hK K) | skip)
          refine wpAny_ready (rs := [7]) (by kernel_rfl) (by simp) (AllReady.cons rfl (fun K hK => ?_) AllReady.nil)
          go_simp
          (first | (refine hK _ _ ?_; clear hK K) | skip)
          refine wpAny_ready (rs := [8]) (by kernel_rfl) (by simp) (AllReady.cons rfl (fun K hK => ?_) AllReady.nil)
          go_simp
          go_wp2_with (go_at_call 61; ((with_reducible refine HCALL.out.mono ?_); rintro e w5 ⟨rfl, inv5, hk5, hold5⟩; have HI5 := Lib.hid inv5; have HK5 := Lib.hid hk5; have HO5 := Lib.hid hold5; clear inv5 hk5 hold5))
          (first | (refine hK _ _ ?_; clear hK K) | skip)
          refine wpAny_done (by kernel_rfl) ?_ _
          simp only [Exit.inBlock]
          exact hQ2 _ _ HK5.out ⟨HO5.out w2.heap.size (by rw [HS3.out]; omega) (by omega) (by omega), HO5.out (w1.heap.size + 1 + 1) h2b (by omega) (by omega)⟩ ⟨by rw [hsnoc.out, List.append_assoc]; exact HI5.out, hIN.out⟩
        · go_simp
          (first | (refine hK _ _ ?_; clear hK K) | skip)
          refine wpAny_ready (rs := [0]) (by kernel_rfl) (by simp) (AllReady.cons rfl (fun K hK => ?_) AllReady.nil)
          go_simp
          (first | (refine hK _ _ ?_; clear hK K) | skip)
          refine wpAny_ready (rs := [8]) (by kernel_rfl) (by simp) (AllReady.cons rfl (fun K hK => ?_) AllReady.nil)
          go_simp
          go_wp2_with (go_at_call 61; ((with_reducible refine HCALL.out.mono ?_); rintro e w5 ⟨rfl, inv5, hk5, hold5⟩; have HI5 := Lib.hid inv5; have HK5 := Lib.hid hk5; have HO5 := Lib.hid hold5; clear inv5 hk5 hold5))
          (first | (refine hK _ _ ?_; clear hK K) | skip)
          refine wpAny_done (by kernel_rfl) ?_ _
          simp only [Exit.inBlock]
          exact hQ2 _ _ HK5.out ⟨HO5.out w2.heap.size (by rw [HS3.out]; omega) (by omega) (by omega), HO5.out (w1.heap.size + 1 + 1) h2b (by omega) (by omega)⟩ ⟨by rw [hsnoc.out, List.append_assoc]; exact HI5.out, hIN.out⟩
  case done =>
    rintro D W hD ⟨⟨v, inv⟩, _⟩ hK
    have HK := Lib.hid hK; have HI := Lib.hid inv.below
    have hcv := inv.var
    obtain ⟨av, cv, rfl⟩ := own_slice inv.own
    have hc0 : W.cell? ⟨w1.heap.size, 0, none⟩ = some (.slice av (sayR rs).length cv) := by simp [World.cell?, hcv]
    have hconv := conv_own inv.own
    have HSAY : Hid (sayL s.data.toList = sayR rs) := by rw [HRS.out]; rfl
    clear hcv inv hK
    go_wp2_with fail
    (try simp only [Exit.inBlock, Exit.then])
    have hD2 : w.heap.size ≤ D := by have := HS3.out; omega
    refine hQ.marked _ _ D _ rfl HK.out (results_tmp rfl _ _ _) ⟨?_, below_mark HI.out hD2 HK.out⟩
    rw [HSAY.out]; rfl

theorem sayText_any (s : ByteArray) (w : World) (hsp : speakL s.data.toList = true) :
    Calls Try.prog 37 #[.string s] w fun e w' => e = .returned (.string (bs (sayL s.data.toList))) ∧ Below w.heap.size w w' := by
  refine sayText_long s w (sayB_speak hsp) ?_
  have h : goodL s.data.toList = true := by unfold speakL at hsp; simp at hsp; exact hsp.1
  have := (goodL_parts h).2.1
  omega
end Go.Proofs.Ytmlghonidheidaa
