/- What is said of a word: the program's sayText, asWord, SayWord. -/
import Derived.Test.YtkdoghopbefjfaaI1
import Derived.Laws.EntriesVeiled
namespace Go.Proofs.Ytkdoghopbefjfaa
open Go.RowKit Go.BigFrame Go.Shelf
set_option linter.unusedSimpArgs false
set_option linter.unusedVariables false
set_option maxRecDepth 4000
attribute [local go_sem] Oper.semAt_some

theorem info_byte : (Try.prog.info? 5).map (fun i => (i.zero, i.size, i.bytes)) = some (some (.int .u8 0), 1, 1) := by kernel_rfl

/-- A captured variable, and the row of bytes that its value owns; nothing below B is touched but these. -/
structure Kept (w w' : World) (c : Nat) (old : Option Nat) : Prop where
  os : w'.os = w.os
  tape : w'.tape = w.tape
  output : w'.output = w.output
  size : w.heap.size ≤ w'.heap.size
  block : ∀ k, k < w.heap.size → k ≠ c → some k ≠ old → w'.heap[k]? = w.heap[k]?
theorem Kept.below {w w' : World} {c : Nat} {old : Option Nat} (h : Kept w w' c old) {B : Nat} (hB : B ≤ c) (hs : B ≤ w.heap.size) (ho : ∀ g, old = some g → B ≤ g) : Below B w w' :=
  ⟨h.os, h.tape, h.output, h.size, fun k hk => h.block k (by omega) (by omega) (fun e => by have := ho k e.symm; omega)⟩

theorem Kept.cell {w w' : World} {c : Nat} {old : Option Nat} (h : Kept w w' c old) {p : Addr} {u : Value} (hp : w.cell? p = some u) (hc : p.block ≠ c) (ho : old ≠ some p.block) : w'.cell? p = some u :=
  (World.cell?_of_block (w := w) (h.block p.block (World.block_lt_of_cell? w p hp) hc (fun e => ho e.symm))).trans hp
theorem Kept.trans {w w1 w2 : World} {c : Nat} {o o1 : Option Nat} (h : Kept w w1 c o) (k : Kept w1 w2 c o1) (ho : o1 = o ∨ ∃ g, o1 = some g ∧ w.heap.size ≤ g) : Kept w w2 c o :=
  ⟨k.os.trans h.os, k.tape.trans h.tape, k.output.trans h.output, Nat.le_trans h.size k.size, fun i hi h1 h2 => by
    refine (k.block i (Nat.lt_of_lt_of_le hi h.size) h1 ?_).trans (h.block i hi h1 h2)
    rcases ho with rfl | ⟨g, rfl, hg⟩
    · exact h2
    · intro e; cases e; omega⟩
/-- A row's block is not that of a variable of another type. -/
theorem own_ne_var {w : World} {B : Nat} {E T : TypeId} {v : Value} {n c : Nat} {xs : List Value} {cs : Array Value} {f : Nat × Nat} (h : w.ownsRow B E 1 v n xs) (hc : w.heap[c]? = some (.cells cs T f)) (hTE : T ≠ E) : v.ownBlock ≠ some c := by
  intro e
  rcases h.2 with ⟨rfl, _⟩ | ⟨g1, _, c1, rfl, _, e1, _⟩
  · cases e
  · cases e
    rw [e1] at hc
    simp only [Option.some.injEq, Obj.cells.injEq] at hc
    exact hTE hc.2.1.symm
/-- An append to a captured variable. -/
theorem step_join {w w1 : World} {B c n : Nat} {v v1 u : Value} {xs : List Value} (hc : w.heap[c]? = some (.cells #[v] 22 (0, 0))) (hv : w.ownsRow B 5 1 v n xs)
    (h1 : w1.ownsRow B 5 1 v1 (n + 1) (xs ++ [u])) (hg : w.grownBy w1 v.ownBlock) :
    (w1.setCell ⟨c, 0, none⟩ v1).heap[c]? = some (.cells #[v1] 22 (0, 0)) ∧ (w1.setCell ⟨c, 0, none⟩ v1).ownsRow B 5 1 v1 (n + 1) (xs ++ [u]) ∧ Kept w (w1.setCell ⟨c, 0, none⟩ v1) c v.ownBlock ∧
      w1.cell? ⟨c, 0, none⟩ = some v ∧ w1.frozen? ⟨c, 0, none⟩ = false := by
  have hlt : c < w.heap.size := (Array.getElem?_eq_some_iff.1 hc).1
  have hne := own_ne_var hv hc (by decide)
  have hc1 : w1.heap[c]? = some (.cells #[v] 22 (0, 0)) := (hg.block c hlt (fun e => hne e.symm)).trans hc
  have hne1 := own_ne_var h1 hc1 (by decide)
  refine ⟨?_, ?_, ⟨hg.os, hg.tape, hg.output, by rw [show (w1.setCell ⟨c, 0, none⟩ v1).heap.size = w1.heap.size from Go.Deep.nblk_setCell _ _ _]; exact hg.size, fun k hk h2 h3 => ?_⟩, by simp [World.cell?, hc1], by simp [World.frozen?, hc1]⟩
  · have := heap_setCell_same w1 c 0 #[v] 22 v1 hc1
    simpa using this
  · exact own_block h1 (fun g hg' => Below.heap_setCell _ _ _ _ (fun e => hne1 (by rw [hg']; exact congrArg some e)))
  · rw [Below.heap_setCell _ _ _ _ h2]
    exact hg.block k hk h3

theorem signOf_is (n : Int) (w : World) (h0 : 0 ≤ n) (h1 : n ≤ 200) :
    Calls Try.prog 95 #[.int .i64 n] w fun e w' => e = .returned (.int .u8 (48 + n)) ∧ w = w' := by
  go_enter Try.func95, Try.ntmps95
  go_wp2
  go_ret
  exact ⟨rfl, rfl⟩

theorem le_longR (rs : List (UInt8 × Nat)) (p : UInt8 × Nat) (h : p ∈ rs) : p.2 ≤ longR rs := by
  induction h2 : rs.length generalizing rs with
  | zero => have : rs = [] := List.eq_nil_of_length_eq_zero h2; subst this; simp at h
  | succ n ih =>
    have hne : rs ≠ [] := by intro e; simp [e] at h
    have hd := List.dropLast_concat_getLast hne
    rw [← hd, longR_snoc]
    rw [← hd, List.mem_append] at h
    rcases h with h | h
    · have := ih rs.dropLast h (by simp [h2]); omega
    · simp at h; subst h; omega
def u8s (l : List UInt8) : List Value := l.map (fun c => .int .u8 (c.toNat : Int))
theorem u8s_len (l : List UInt8) : (u8s l).length = l.length := by simp [u8s]
/-- 'string(b)' of a row of bytes that is owned. -/
theorem conv_own {w : World} {B : Nat} {v : Value} {l : List UInt8} (h : w.ownsRow B 5 1 v l.length (u8s l)) : (convert 22 9 v).run Try.prog w = .ok (.string (bs l)) w := by
  rcases own_open h with ⟨rfl, h0, _⟩ | ⟨g, cap, rfl, _, _, _, _, _, hc, _⟩
  · have : l = [] := List.eq_nil_of_length_eq_zero h0
    subst this
    exact run_convert_bytes_nil (P := Try.prog) w 22 5 Try.underlying22 Try.underlying5 0 0 9 Try.underlying9
  · have := run_convert_bytes_arg (P := Try.prog) w 22 5 Try.underlying22 Try.underlying5 g 0 l.length cap (l.map (fun c => (c.toNat : Int))) (by simp) (fun i hi => by
      rw [Nat.zero_add, hc i (by rw [u8s_len]; exact hi)]
      simp [u8s, List.getD, hi]) 9 Try.underlying9
    rw [this]
    congr 2
    apply bs_eq
    rw [strOfNums_data, List.map_map]
    conv => rhs; rw [← List.map_id l]
    apply List.map_congr_left
    intro c _
    simp
/-- What the loop over the runs keeps. -/
structure SayInv (w W0 : World) (c : Nat) (l : List UInt8) (wr : World) (v : Value) : Prop where
  var : wr.heap[c]? = some (.cells #[v] 22 (0, 0))
  own : wr.ownsRow w.heap.size 5 1 v l.length (u8s l)
  below : Below w.heap.size w wr
  size : W0.heap.size ≤ wr.heap.size
  loc : v.ownBlock = some w.heap.size ∨ ∃ q, v.ownBlock = some q ∧ W0.heap.size ≤ q
  keep : ∀ k, k < W0.heap.size → k ≠ c → k ≠ w.heap.size → wr.heap[k]? = W0.heap[k]?
theorem own_cells {w : World} {B : Nat} {E : TypeId} {v : Value} {n : Nat} {xs : List Value} (h : w.ownsRow B E 1 v n xs) {g : Nat} (hg : v.ownBlock = some g) : ∃ cs f, w.heap[g]? = some (.cells cs E f) := by
  rcases h.2 with ⟨rfl, _⟩ | ⟨g1, _, c1, rfl, _, e1, _⟩
  · cases hg
  · cases hg; exact ⟨_, _, e1⟩
theorem sayInv_own {β : Type} (w W0 : World) (c : Nat) (f : β → List UInt8) (hc : c < W0.heap.size) (hw : w.heap.size ≤ W0.heap.size) : OwnFrom W0.heap.size (fun (s : β) W => ∃ v, SayInv w W0 c (f s) W v) := by
  rintro s X Y row ⟨v, hv⟩ hg hr
  refine ⟨v, (hg.block c (Array.getElem?_eq_some_iff.1 hv.var).1 (fun e => by have := (hr c e.symm).1; omega)).trans hv.var, own_block hv.own (fun g hgo => ?_), hv.below.grown hg hv.below.size (fun k e => by have := (hr k e).1; omega), Nat.le_trans hv.size hg.size, hv.loc, fun k hk h1 h2 => ?_⟩
  · obtain ⟨cs, fz, hcs⟩ := own_cells hv.own hgo
    refine hg.block g (Array.getElem?_eq_some_iff.1 hcs).1 (fun e => ?_)
    obtain ⟨o, ho, hco⟩ := (hr g e.symm).2
    rw [hcs] at ho; cases ho; cases hco
  · exact (hg.block k (Nat.lt_of_lt_of_le hk hv.size) (fun e => by have := (hr k e.symm).1; omega)).trans (hv.keep k hk h1 h2)
theorem mixed : Try.prog.follows .mixedOrders = true := by kernel_rfl
theorem sayB_speak {l : List UInt8} (h : speakL l = true) : sayB l = true := by
  unfold speakL goodL at h
  simp only [Bool.and_eq_true, decide_eq_true_eq] at h
  refine sayB_iff.2 ⟨?_, h.1.2, h.2⟩
  intro e; rw [e] at h; simp at h

end Go.Proofs.Ytkdoghopbefjfaa
