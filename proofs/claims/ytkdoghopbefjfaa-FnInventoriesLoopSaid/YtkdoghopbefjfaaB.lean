/- Plain lemmas on owned rows, rows of rows, and texts. No condition: a library for the other texts. -/
import Derived.Test.YtkdoghopbefjfaaRows
import Derived.WalkKit
import Derived.Lib.Hide
import Derived.Deep.OwnRows
import Derived.Deep.Draws
namespace Go.Proofs.Ytkdoghopbefjfaa
open Go.RowKit
set_option linter.unusedSimpArgs false
set_option linter.unusedVariables false
set_option maxRecDepth 4000

theorem ret_bool {a b : Bool} (h : a = b) : Ending.returned (.bool a) = .returned (.bool b) := by rw [h]
theorem ret_int {k : IntKind} {a b : Int} (h : a = b) : Ending.returned (.int k a) = .returned (.int k b) := by rw [h]
theorem ret_str {a b : ByteArray} (h : a = b) : Ending.returned (.string a) = .returned (.string b) := by rw [h]
theorem bcell {W w1 : World} (hb : Below W.heap.size W w1) : (∀ b o, b < W.heap.size → w1.cell? ⟨b, o, none⟩ = W.cell? ⟨b, o, none⟩) ∧ (∀ b o, b < W.heap.size → w1.frozen? ⟨b, o, none⟩ = W.frozen? ⟨b, o, none⟩) :=
  ⟨fun b o h => hb.cell (p := ⟨b, o, none⟩) h, fun b o h => hb.frozen (p := ⟨b, o, none⟩) h⟩
theorem below_trans {a b c : World} (h : Below a.heap.size a b) (k : Below b.heap.size b c) : Below a.heap.size a c :=
  h.trans (k.mono h.size)
theorem below_refl (w : World) : Below w.heap.size w w := Below.refl _ _
theorem below_alloc (w : World) (o : Obj) : Below w.heap.size w (w.alloc o) := (Below.refl _ _).alloc (Nat.le_refl _) o
theorem belowN (B : Nat) (w : World) (n : Nat) : Below B w (w.drewN n) := ⟨rfl, rfl, rfl, Nat.le_refl _, fun _ _ => rfl⟩
theorem below_drew (w : World) : Below w.heap.size w w.drew := (Below.refl _ _).drew

/-! ### Texts -/
/-- The text of a list of bytes. -/
def bs (l : List UInt8) : ByteArray := ⟨l.toArray⟩
theorem bs_size (l : List UInt8) : (bs l).size = l.length := by simp [bs, ByteArray.size]
theorem bs_list (l : List UInt8) : (bs l).data.toList = l := by simp [bs]
theorem bs_eq {t : ByteArray} {l : List UInt8} (h : t.data.toList = l) : t = bs l := by
  apply ByteArray.ext; subst h; simp [bs]
theorem bs_inj {a b : List UInt8} (h : bs a = bs b) : a = b := by rw [← bs_list a, h, bs_list]
theorem bs_append (a b : List UInt8) : bs a ++ bs b = bs (a ++ b) := by
  apply ByteArray.ext; simp [bs]
theorem size_list (s : ByteArray) : s.data.toList.length = s.size := by simp
theorem list_append (a b : ByteArray) : (a ++ b).data.toList = a.data.toList ++ b.data.toList := by simp
theorem list_extract (s : ByteArray) (i j : Nat) : (s.extract i j).data.toList = (s.data.toList.drop i).take (j - i) := by simp [ByteArray.data_extract]
theorem list_at (s : ByteArray) (m : Nat) (h : m < s.size) : (s.extract m (m + 1)).data.toList = [s[m]] := by
  rw [list_extract, List.drop_eq_getElem_cons (by simpa using h)]
  simp; rfl
theorem drop_at (s : ByteArray) (m : Nat) (h : m < s.size) : s.data.toList.drop m = s[m] :: s.data.toList.drop (m + 1) := by
  rw [List.drop_eq_getElem_cons (by simpa using h)]; rfl

theorem _root_.Go.World.grownBy.trans {w w1 w2 : World} {row : Option Nat} (h : w.grownBy w1 row) (k : w1.grownBy w2 row) : w.grownBy w2 row :=
  ⟨k.os.trans h.os, k.tape.trans h.tape, k.output.trans h.output, Nat.le_trans h.size k.size, fun i hi hne => (k.block i (Nat.lt_of_lt_of_le hi h.size) hne).trans (h.block i hi hne)⟩
-- grownBy_trans

/-! ### One owned row -/
section
variable {w w' : World} {B : Nat} {E : TypeId} {v : Value} {n : Nat} {xs : List Value}

/-- An owned row, taken apart: nil and empty, or a row of a block of its own. -/
theorem own_open (h : w.ownsRow B E 1 v n xs) : (v = .slice none 0 0 ∧ n = 0 ∧ xs = []) ∨
    ∃ g cap, v = .slice (some ⟨g, 0, none⟩) n cap ∧ B ≤ g ∧ g < w.heap.size ∧ n ≤ cap ∧ cap ≤ maxLen ∧ xs.length = n ∧
      (∀ i (hi : i < xs.length), w.cell? ⟨g, i, none⟩ = some xs[i]) ∧ (∀ i, w.frozen? ⟨g, i, none⟩ = false) := by
  have h0 := h
  obtain ⟨hl, h2⟩ := h
  rcases h2 with ⟨rfl, rfl⟩ | ⟨g, cap, cur, rfl, hB, hg, hn, hm, hs, ht⟩
  · exact .inl ⟨rfl, rfl, List.eq_nil_of_length_eq_zero (by simpa using hl)⟩
  · refine .inr ⟨g, cap, rfl, hB, (Array.getElem?_eq_some_iff.1 hg).1, hn, hm, by simpa using hl, fun i hi => ?_, fun i => h0.frozenAt i⟩
    rw [h0.cellAt i (by omega)]
    exact List.getElem?_eq_getElem hi
theorem own_slice (h : w.ownsRow B E 1 v n xs) : ∃ a cap, v = .slice a n cap := by
  rcases own_open h with ⟨rfl, rfl, _⟩ | ⟨g, cap, rfl, _⟩
  · exact ⟨_, _, rfl⟩
  · exact ⟨_, _, rfl⟩
theorem own_cell_some {g cap : Nat} (h : w.ownsRow B E 1 (.slice (some ⟨g, 0, none⟩) n cap) n xs) (i : Nat) (hi : i < n) : ∃ x, w.cell? ⟨g, i, none⟩ = some x := by
  have hl : xs.length = n := by simpa using h.1
  exact ⟨_, (h.cellAt i (by omega)).trans (List.getElem?_eq_getElem (by omega))⟩
theorem own_len (h : w.ownsRow B E 1 v n xs) : xs.length = n := by simpa using h.1
theorem own_le (h : w.ownsRow B E 1 v n xs) : n ≤ maxLen := by
  rcases own_open h with ⟨_, rfl, _⟩ | ⟨g, cap, _, _, _, h1, h2, _⟩
  · exact Nat.zero_le _
  · exact Nat.le_trans h1 h2
theorem own_below (h : w.ownsRow B E 1 v n xs) (hb : Below w.heap.size w w') : w'.ownsRow B E 1 v n xs := by
  refine ⟨h.1, ?_⟩
  rcases h.2 with hn | ⟨g, cap, cur, rfl, hB, hg, rest⟩
  · exact .inl hn
  · exact .inr ⟨g, cap, cur, rfl, hB, by rw [hb.block g (Array.getElem?_eq_some_iff.1 hg).1]; exact hg, rest⟩
/-- Kept where its own block is as it was. -/
theorem own_block (h : w.ownsRow B E 1 v n xs) (hb : ∀ g, v.ownBlock = some g → w'.heap[g]? = w.heap[g]?) : w'.ownsRow B E 1 v n xs := by
  refine ⟨h.1, ?_⟩
  rcases h.2 with hn | ⟨g, cap, cur, rfl, hB, hg, rest⟩
  · exact .inl hn
  · exact .inr ⟨g, cap, cur, rfl, hB, by rw [hb g rfl]; exact hg, rest⟩
theorem own_mono (h : w.ownsRow B E 1 v n xs) {B' : Nat} (hB : B' ≤ B) : w.ownsRow B' E 1 v n xs := by
  refine ⟨h.1, ?_⟩
  rcases h.2 with hn | ⟨g, cap, cur, rfl, hg, rest⟩
  · exact .inl hn
  · exact .inr ⟨g, cap, cur, rfl, Nat.le_trans hB hg, rest⟩
/-- A row made by a literal. -/
theorem own_lit (w : World) (B : Nat) (E : TypeId) (xs : List Value) (hB : B ≤ w.heap.size) (hm : xs.length ≤ maxLen) :
    (w.alloc (.cells xs.toArray E)).ownsRow B E 1 (.slice (some ⟨w.heap.size, 0, none⟩) xs.length xs.length) xs.length xs := by
  refine ⟨by simp, .inr ⟨w.heap.size, xs.length, xs.toArray, rfl, hB, heap_alloc_new w _, Nat.le_refl _, hm, by simp, by simp⟩⟩
end

/-- Where the value of an append lies: in its first argument's own block, or in a new one. -/
theorem append_where {P : Program} (w : World) (base : Nat) (t ty e : TypeId) (i : TypeInfo) (z : Value) (bytes : Nat) (ht : P.underlying t = some (.slice e)) (hi : P.info? e = some i) (hz : i.zero = some z)
    (hsize : i.size = 1) (hby : i.bytes = bytes) (hzs : z.cells.size = 1)
    (v : Value) (n : Nat) (xs : List Value) (hown : w.ownsRow base e 1 v n xs)
    (a : Addr) (m c : Nat) (news : List Value) (hl : news.length = m) (hnews : ∀ j u, news[j]? = some u → w.cell? (a.add j) = some u) (h1 : ∀ u ∈ news, u.oneCell' = true)
    (h63 : n + m ≤ maxLen) (hbytes : (n + m) * bytes ≤ 140737488355328) (v' : Value) (w' : World)
    (hr : (Builtin.append_ #[t, t] ty #[v, .slice (some a) m c]).run P w = .ok v' w') : v'.ownBlock = v.ownBlock ∨ v'.ownBlock = some w.heap.size := by
  have hsmall : n + m ≤ 9223372036854775807 := by unfold maxLen at h63; omega
  subst hby
  rcases hown.2 with ⟨rfl, rfl⟩ | ⟨g, cap, cur, rfl, hbg, hg, hnc, hcm, hcs, htake⟩
  · by_cases hm : m = 0
    · subst hm
      have hn : news = [] := List.eq_nil_of_length_eq_zero hl
      have : (Builtin.append_ #[t, t] ty #[.slice none 0 0, .slice (some a) 0 c]).run P w = .ok (.slice none 0 0) w := by
        simp [Builtin.append_, run_underlying ht, sizeOf, typeInfo, hi, Builtin.lenOf, Builtin.firstCells, loadCells, loadCellsFrom]
      rw [this] at hr
      simp only [Result.ok.injEq] at hr
      rw [← hr.1]; exact .inl rfl
    · have := run_append_nil (P := P) w t ty e i z ht hi hz a m c news (by rw [hsize]; omega) hnews (by omega) (by omega) (by have hb := hbytes; simp only [Nat.zero_add] at hb; omega)
      rw [this] at hr
      simp only [Result.ok.injEq] at hr
      rw [← hr.1]; exact .inr rfl
  · by_cases hroom : n + m ≤ cap
    · have := run_append_room (P := P) w t ty e i ht hi g n cap cur hg a m c news (by rw [hsize]; omega) hnews h1 hroom (by rw [hsize]; omega)
      rw [this] at hr
      simp only [Result.ok.injEq] at hr
      rw [← hr.1]; exact .inl rfl
    · have holds : ∀ j u, xs[j]? = some u → w.cell? ((⟨g, 0, none⟩ : Addr).add j) = some u := hown.cells (g := g) rfl
      have := run_append_grow (P := P) w t ty e i z ht hi hz ⟨g, 0, none⟩ n cap xs (by rw [hsize]; exact hown.1) holds a m c news (by rw [hsize]; omega) hnews (by omega) (by omega) (growslice_fits (by omega) hbytes)
      rw [this] at hr
      simp only [Result.ok.injEq] at hr
      rw [← hr.1]; exact .inr rfl
/-- The law on append, with where the value lies. -/
theorem wpList_app {P : Program} (w : World) {ops : Array Oper} {rest : List Oper} {o : Oper} {a : Act} {Q : Exit → Act → World → Prop} (hgd : o.guard = none) (s x : Operand) (t : TypeId)
    (ho : o.op = .call { callee := .builtin .append, args := #[s, x], argTypes := #[t, t] })
    (base : Nat) (e : TypeId) (i : TypeInfo) (z : Value) (bytes : Nat) (ht : P.underlying t = some (.slice e)) (hi : P.info? e = some i) (hz : i.zero = some z)
    (hsize : i.size = 1) (hby : i.bytes = bytes) (hzs : z.cells.size = 1)
    (v : Value) (n : Nat) (xs : List Value) (hs : a.eval s = v) (hown : w.ownsRow base e 1 v n xs)
    (ad : Addr) (m c : Nat) (news : List Value) (hx : a.eval x = .slice (some ad) m c) (hl : news.length = m) (hnews : ∀ j u, news[j]? = some u → w.cell? (ad.add j) = some u) (h1 : ∀ u ∈ news, u.oneCell' = true)
    (h63 : n + m ≤ maxLen) (hbytes : (n + m) * bytes ≤ 140737488355328) (hbase : base ≤ w.heap.size)
    (h : ∀ v' w', w'.ownsRow base e 1 v' (n + m) (xs ++ news) → w.grownBy w' v.ownBlock → (v'.ownBlock = v.ownBlock ∨ v'.ownBlock = some w.heap.size) → wpList P ops Q rest (a.put o.dst v') w') : wpList P ops Q (o :: rest) a w := by
  refine wpList_plain hgd fun K hK => ?_
  obtain ⟨v', w', hr, h2, h3, h4⟩ := run_append_own (P := P) w base t o.type e i z 1 bytes ht hi hz hsize hby hzs (by decide) v n xs hown ad m c news (by omega) hnews h1 h63 hbytes hbase
  have hw := append_where w base t o.type e i z bytes ht hi hz hsize hby hzs v n xs hown ad m c news hl hnews h1 h63 hbytes v' w' hr
  unfold Oper.wp execOp
  simp only [ho, resolve, invoke, builtin, Sem.run_bind, Sem.run_pure, Result.andThen_ok, List.map_toArray, List.map_cons, List.map_nil, hs, hx, hr]
  exact hK _ _ (h v' w' h2 h3 hw)
/-- '[]byte(s)' as a law of the walk: a new row of the text's bytes, none of them frozen; what was there is as it was. -/
theorem wpList_bytes {P : Program} (w : World) {ops : Array Oper} {rest : List Oper} {o : Oper} {a : Act} {Q : Exit → Act → World → Prop}
    (hg : o.guard = none) (src dst : TypeId) (x : Operand) (hop : o.op = Op.convert src dst x) (e : TypeId) (hs : P.underlying src = some .string) (hd : P.underlying dst = some (.slice e)) (he : P.underlying e = some (.int .u8))
    (s : ByteArray) (hx : a.eval x = .string s) (hm : s.size ≤ maxLen)
    (hK : ∀ w1 cap, Below w.heap.size w w1 → w.heap.size < w1.heap.size → s.size ≤ cap → cap ≤ maxLen → (∀ i (h : i < s.size), w1.cell? ⟨w.heap.size, i, none⟩ = some (.int .u8 (s[i].toNat : Int))) → (∀ i, i < cap → w1.frozen? ⟨w.heap.size, i, none⟩ = false) →
      wpList P ops Q rest (a.put o.dst (.slice (some ⟨w.heap.size, 0, none⟩) s.size cap)) w1) : wpList P ops Q (o :: rest) a w := by
  refine wpList_plain hg fun K hK' => ?_
  have hrun := run_bytes_of_string (P := P) w src dst e s hs hd he
  have hcap := grownCap_ge w s.size 0 e
  have hcap2 := grownCap_le_maxLen w s.size 0 e hm
  generalize hC : grownCap w s.size 0 e = C at hrun hcap hcap2
  have hrow : (bytesRow s C).size = C := by simp [bytesRow]; have : s.data.size = s.size := rfl; omega
  rw [hrow] at hrun
  have hnew : (w.drew.alloc (.cells (bytesRow s C) e (C, C + 1))).heap[w.heap.size]? = some (.cells (bytesRow s C) e (C, C + 1)) := heap_alloc_new w.drew _
  unfold Oper.wp
  simp only [execOp, hop, hx, hrun, Sem.run_bind, Sem.run_pure, Result.andThen_ok, Oper.upon_value]
  refine hK' _ _ (hK _ C ?_ ?_ hcap hcap2 ?_ ?_)
  · exact below_trans (below_drew w) (below_alloc _ _)
  · show w.heap.size < (w.heap.push _).size
    simp
  · intro i h
    unfold World.cell?
    rw [hnew]
    have h2 : (bytesRow s C)[i]? = some (.int .u8 (s[i].toNat : Int)) := by
      unfold bytesRow
      rw [Array.getElem?_append_left (by simpa using h)]
      rw [Array.getElem?_map, Array.getElem?_eq_getElem (by simpa using h)]
      rfl
    simp [h2]
  · intro i h
    unfold World.frozen?
    rw [hnew]
    simp; omega

/-! ### A row of rows -/
/-- Two slice values share no block of their own. -/
def Apart (u v : Value) : Prop := ∀ g, u.ownBlock = some g → v.ownBlock = some g → False
theorem Apart.symm {u v : Value} (h : Apart u v) : Apart v u := fun g h1 h2 => h g h2 h1
theorem apart_or {u v : Value} (h : Apart u v) : u.ownBlock = none ∨ u.ownBlock ≠ v.ownBlock := by
  cases hu : u.ownBlock with
  | none => exact .inl rfl
  | some g => exact .inr (fun e => h g hu e.symm)
/-- A value whose block is new is apart from one that was owned before. -/
theorem apart_new {w : World} {B : Nat} {E : TypeId} {u v : Value} {n : Nat} {xs : List Value} (h : w.ownsRow B E 1 u n xs) (hv : ∀ g, v.ownBlock = some g → w.heap.size ≤ g) : Apart u v := by
  intro g h1 h2
  have := (h.lt g h1).2
  have := hv g h2
  omega
/-- Rows of two element types are apart. -/
theorem apart_types {w : World} {B B' : Nat} {T E : TypeId} {u v : Value} {n m : Nat} {xs ys : List Value} (h : w.ownsRow B E 1 u n xs) (k : w.ownsRow B' T 1 v m ys) (hTE : T ≠ E) : Apart u v := by
  intro g h1 h2
  rcases h.2 with ⟨rfl, _⟩ | ⟨g1, _, c1, rfl, _, e1, _⟩
  · cases h1
  rcases k.2 with ⟨rfl, _⟩ | ⟨g2, _, c2, rfl, _, e2, _⟩
  · cases h2
  cases h1; cases h2
  rw [e1] at e2
  simp only [Option.some.injEq, Obj.cells.injEq] at e2
  exact hTE e2.2.1.symm
theorem snoc_get {α : Type} {l : List α} {a : α} {i : Nat} {x : α} (hx : (l ++ [a])[i]? = some x) : l[i]? = some x ∨ (i = l.length ∧ x = a) := by
  rw [List.getElem?_append] at hx
  split at hx
  · exact .inl hx
  · rename_i hi
    have hi' : i = l.length := by
      by_cases e : i = l.length
      · exact e
      · rw [List.getElem?_eq_none (by simp; omega)] at hx; cases hx
    subst hi'
    simp at hx
    exact .inr ⟨rfl, hx.symm⟩
theorem get_lt {α : Type} {l : List α} {i : Nat} {x : α} (hx : l[i]? = some x) : i < l.length := (List.getElem?_eq_some_iff.1 hx).1

/-- The slice value v owns the row vs of slice values, each of which owns a row of its own; no two share a block. -/
structure OwnsRR (w : World) (B : Nat) (T E : TypeId) (v : Value) (vs : List Value) (xss : List (List Value)) : Prop where
  outer : w.ownsRow B T 1 v vs.length vs
  len : xss.length = vs.length
  inner : ∀ (i : Nat) (u : Value) (xs : List Value), vs[i]? = some u → xss[i]? = some xs → w.ownsRow B E 1 u xs.length xs
  apart : ∀ (i j : Nat) (u u' : Value), i ≠ j → vs[i]? = some u → vs[j]? = some u' → Apart u u'
  alone : ∀ (i : Nat) (u : Value), vs[i]? = some u → Apart u v

section
variable {w w' : World} {B : Nat} {T E : TypeId} {v : Value} {vs : List Value} {xss : List (List Value)}

theorem ownsRR_nil (w : World) (B : Nat) (T E : TypeId) : OwnsRR w B T E (.slice none 0 0) [] [] :=
  ⟨World.ownsRow_nil _ _ _ _, rfl, fun i u xs h => by simp at h, fun i j u u' _ h => by simp at h, fun i u h => by simp at h⟩
theorem ownsRR_below (h : OwnsRR w B T E v vs xss) (hb : Below w.heap.size w w') : OwnsRR w' B T E v vs xss :=
  ⟨own_below h.outer hb, h.len, fun i u xs h1 h2 => own_below (h.inner i u xs h1 h2) hb, h.apart, h.alone⟩
theorem ownsRR_mono (h : OwnsRR w B T E v vs xss) {B' : Nat} (hB : B' ≤ B) : OwnsRR w B' T E v vs xss :=
  ⟨own_mono h.outer hB, h.len, fun i u xs h1 h2 => own_mono (h.inner i u xs h1 h2) hB, h.apart, h.alone⟩
theorem ownsRR_row (h : OwnsRR w B T E v vs xss) (i : Nat) (hi : i < vs.length) : ∃ u xs, vs[i]? = some u ∧ xss[i]? = some xs ∧ w.ownsRow B E 1 u xs.length xs := by
  have hx : xss[i]? = some (xss[i]'(by rw [h.len]; exact hi)) := List.getElem?_eq_getElem _
  have hu : vs[i]? = some vs[i] := List.getElem?_eq_getElem _
  exact ⟨_, _, hu, hx, h.inner i _ _ hu hx⟩
/-- A new row behind the others: by a law on append. -/
theorem ownsRR_snoc (h : OwnsRR w B T E v vs xss) {v' u : Value} {xs : List Value} (hu : w.ownsRow B E 1 u xs.length xs)
    (hfar : ∀ (i : Nat) (u' : Value), vs[i]? = some u' → Apart u' u) (hfar' : Apart u v)
    (hown : w'.ownsRow B T 1 v' (vs.length + 1) (vs ++ [u])) (hg : w.grownBy w' v.ownBlock)
    (hTE : T ≠ E) : OwnsRR w' B T E v' (vs ++ [u]) (xss ++ [xs]) := by
  have far : ∀ u xs, w.ownsRow B E 1 u xs.length xs → Apart u v → Apart u v' := by
    intro u xs h1 h2
    exact apart_types (h1.kept hg (apart_or h2)) hown hTE
  refine ⟨by simpa using hown, by simp [h.len], ?_, ?_, ?_⟩
  · intro i x ys h1 h2
    rcases snoc_get h1 with h1 | ⟨e1, rfl⟩ <;> rcases snoc_get h2 with h2 | ⟨e2, rfl⟩
    · exact (h.inner i x ys h1 h2).kept hg (apart_or (h.alone i x h1))
    · have := get_lt h1; have := h.len; omega
    · have := get_lt h2; have := h.len; omega
    · exact hu.kept hg (apart_or hfar')
  · intro i j x x' hij h1 h2
    rcases snoc_get h1 with h1 | ⟨e1, e⟩ <;> rcases snoc_get h2 with h2 | ⟨e2, e'⟩
    · exact h.apart i j x x' hij h1 h2
    · rw [e']; exact hfar i x h1
    · rw [e]; exact (hfar j x' h2).symm
    · omega
  · intro i x h1
    rcases snoc_get h1 with h1 | ⟨e1, rfl⟩
    · obtain ⟨u, xs, e1, e2, e3⟩ := ownsRR_row h i (get_lt h1)
      rw [h1] at e1; cases e1
      exact far _ _ e3 (h.alone i x h1)
    · exact far _ _ hu hfar'
/-- The last row, taken apart. -/
theorem ownsRR_last {ys : List Value} (h : OwnsRR w B T E v vs (xss ++ [ys])) (hy : 0 < ys.length) :
    ∃ g cap ws b c, v = .slice (some ⟨g, 0, none⟩) (xss.length + 1) cap ∧ vs = ws ++ [.slice (some ⟨b, 0, none⟩) ys.length c] ∧ ws.length = xss.length ∧ ws.length + 1 ≤ maxLen ∧
      w.cell? ⟨g, xss.length, none⟩ = some (.slice (some ⟨b, 0, none⟩) ys.length c) ∧ B ≤ b ∧ b < w.heap.size ∧ ys.length ≤ maxLen ∧
      (∀ i (hi : i < ys.length), w.cell? ⟨b, i, none⟩ = some ys[i]) ∧ (∀ i, w.frozen? ⟨b, i, none⟩ = false) := by
  have hl := h.len
  simp at hl
  obtain ⟨u, xs, e1, e2, e3⟩ := ownsRR_row h xss.length (by omega)
  have hxs : xs = ys := by simpa using e2.symm
  subst hxs
  rcases own_open h.outer with ⟨_, h0, _⟩ | ⟨g, cap, rfl, _, _, hc1, hc2, _, hcell, _⟩
  · omega
  rcases own_open e3 with ⟨_, h0, _⟩ | ⟨b, c, rfl, hB, hb, hd1, hd2, _, hcell', hfr⟩
  · omega
  refine ⟨g, cap, vs.dropLast, b, c, by rw [hl], ?_, by simp; omega, by simp; omega, ?_, hB, hb, Nat.le_trans hd1 hd2, hcell', hfr⟩
  · have hne : vs ≠ [] := by intro e; rw [e] at hl; simp at hl
    have := List.dropLast_concat_getLast hne
    rw [← this]
    have hlast : vs.getLast hne = .slice (some ⟨b, 0, none⟩) xs.length c := by
      rw [List.getLast_eq_getElem]
      have h2 : vs[vs.length - 1]? = some (.slice (some ⟨b, 0, none⟩) xs.length c) := by rw [← e1]; congr 1; omega
      rw [List.getElem?_eq_getElem (by omega)] at h2
      exact Option.some.inj h2
    rw [hlast]; simp
  · have := hcell xss.length (by omega)
    rw [this]
    rw [List.getElem?_eq_getElem (by omega)] at e1
    exact e1
/-- The last row, of two numbers. -/
theorem ownsRR_last2 {x y : Value} (h : OwnsRR w B T E v vs (xss ++ [[x, y]])) :
    ∃ p g cap ws b c, p = xss.length ∧ v = .slice (some ⟨g, 0, none⟩) (p + 1) cap ∧ vs = ws ++ [.slice (some ⟨b, 0, none⟩) 2 c] ∧ ws.length = p ∧ p + 1 ≤ 9223372036854775807 ∧
      w.cell? ⟨g, p, none⟩ = some (.slice (some ⟨b, 0, none⟩) 2 c) ∧ B ≤ b ∧ b < w.heap.size ∧
      w.cell? ⟨b, 0, none⟩ = some x ∧ w.cell? ⟨b, 1, none⟩ = some y ∧ w.frozen? ⟨b, 0, none⟩ = false ∧ w.frozen? ⟨b, 1, none⟩ = false := by
  obtain ⟨g, cap, ws, b, c, h1, h2, h3, h4, h5, h6, h7, _, h9, h10⟩ := ownsRR_last h (by simp)
  refine ⟨_, g, cap, ws, b, c, rfl, h1, h2, h3, ?_, h5, h6, h7, h9 0 (by simp), h9 1 (by simp), h10 0, h10 1⟩
  unfold maxLen at h4; omega
/-- What 'append(out, []T{..})' leaves: a literal row in a new block, its slice value in another, then the law on append. -/
theorem ownsRR_push (h : OwnsRR w B T E v vs xss) (xs : List Value) (hm : xs.length ≤ maxLen) (hB : B ≤ w.heap.size) {v' : Value} {o : Obj}
    (hown : w'.ownsRow B T 1 v' (vs.length + 1) (vs ++ [.slice (some ⟨w.heap.size, 0, none⟩) xs.length xs.length]))
    (hg : ((w.alloc (.cells xs.toArray E)).alloc o).grownBy w' v.ownBlock) (hTE : T ≠ E) : OwnsRR w' B T E v' (vs ++ [.slice (some ⟨w.heap.size, 0, none⟩) xs.length xs.length]) (xss ++ [xs]) := by
  have b1 := below_alloc w (.cells xs.toArray E)
  have b2 := below_alloc (w.alloc (.cells xs.toArray E)) o
  have hb := below_trans b1 b2
  have hu := own_below (own_lit w B E xs hB hm) b2
  have new : ∀ g, (Value.slice (some ⟨w.heap.size, 0, none⟩) xs.length xs.length).ownBlock = some g → w.heap.size ≤ g := fun g e => by cases e; exact Nat.le_refl _
  refine ownsRR_snoc (ownsRR_below h hb) hu (fun i u' hi => ?_) ?_ hown hg hTE
  · obtain ⟨u, ys, e1, e2, e3⟩ := ownsRR_row h i (get_lt hi)
    rw [hi] at e1; cases e1
    exact apart_new e3 new
  · exact (apart_new h.outer new).symm
/-- A row of rows, taken apart for reading: nil, or cell i of the outer row holds the slice of row i. -/
theorem ownsRR_open (h : OwnsRR w B T E v vs xss) : (v = .slice none 0 0 ∧ vs = [] ∧ xss = []) ∨
    ∃ g cap, v = .slice (some ⟨g, 0, none⟩) xss.length cap ∧ xss.length ≤ cap ∧ cap ≤ maxLen ∧ B ≤ g ∧ g < w.heap.size ∧
      (∀ i (hi : i < xss.length) (u : Value), vs[i]? = some u → w.cell? ⟨g, i, none⟩ = some u) := by
  have hl := h.len
  rcases own_open h.outer with ⟨h1, h2, h3⟩ | ⟨g, cap, h1, hB, hg, h2, h3, _, h4, _⟩
  · exact .inl ⟨h1, h3, List.eq_nil_of_length_eq_zero (by rw [hl, h2])⟩
  · refine .inr ⟨g, cap, by rw [hl]; exact h1, by rw [hl]; exact h2, h3, hB, hg, fun i hi u hu => ?_⟩
    rw [h4 i (by omega)]
    rw [List.getElem?_eq_getElem (by omega)] at hu
    exact hu
/-- Row i, of two numbers. -/
theorem ownsRR_at2 (h : OwnsRR w B T E v vs xss) {i : Nat} {x y : Value} (hx : xss[i]? = some [x, y]) :
    ∃ b c, vs[i]? = some (.slice (some ⟨b, 0, none⟩) 2 c) ∧ w.cell? ⟨b, 0, none⟩ = some x ∧ w.cell? ⟨b, 1, none⟩ = some y := by
  obtain ⟨u, xs, e1, e2, e3⟩ := ownsRR_row h i (by have := get_lt hx; have := h.len; omega)
  rw [hx] at e2; cases e2
  rcases own_open e3 with ⟨_, h0, _⟩ | ⟨b, c, rfl, _, _, _, _, _, hc, _⟩
  · simp at h0
  · exact ⟨b, c, e1, hc 0 (by simp), hc 1 (by simp)⟩
/-- A store into one of the rows. -/
theorem ownsRR_set (h : OwnsRR w B T E v vs xss) {i : Nat} {g cap n : Nat} {xs : List Value} (hu : vs[i]? = some (.slice (some ⟨g, 0, none⟩) n cap)) (hx : xss[i]? = some xs) (j : Nat) (hj : j < xs.length) (a : Value) :
    OwnsRR (w.setCell ⟨g, j, none⟩ a) B T E v vs (xss.set i (xs.set j a)) := by
  have other : ∀ (u : Value) (n : Nat) (F : TypeId) (ys : List Value), w.ownsRow B F 1 u n ys → u.ownBlock ≠ some g → (w.setCell ⟨g, j, none⟩ a).ownsRow B F 1 u n ys := by
    intro u n F ys h1 h2
    refine own_block h1 (fun k hk => Below.heap_setCell _ _ _ _ ?_)
    intro e; exact h2 (by rw [hk]; exact congrArg some e)
  refine ⟨other _ _ _ _ h.outer (fun e => h.alone i _ hu g rfl e), by simp [h.len], ?_, h.apart, h.alone⟩
  intro k u ys h1 h2
  by_cases hk : k = i
  · subst hk
    rw [hu] at h1; cases h1
    rw [List.getElem?_set_self (get_lt hx)] at h2; cases h2
    have h3 := h.inner k _ _ hu hx
    have hn : xs.length = n := by
      rcases own_open h3 with ⟨e, _⟩ | ⟨g', cap', e, _⟩
      · cases e
      · simp only [Value.slice.injEq] at e; exact e.2.1.symm
    subst hn
    have := (h3.stored j a).1
    simpa using this
  · rw [List.getElem?_set_ne (fun e => hk e.symm)] at h2
    exact other _ _ _ _ (h.inner k u ys h1 h2) (fun e => h.apart i k _ u (fun e => hk e.symm) hu h1 g rfl e)
/-- One of the rows written by a call that touched its block alone. -/
theorem ownsRR_inner (h : OwnsRR w B T E v vs xss) {i : Nat} {u : Value} {xs ys : List Value} (hu : vs[i]? = some u) (hx : xss[i]? = some xs)
    (hg : w.grownBy w' u.ownBlock) (hy : w'.ownsRow B E 1 u ys.length ys) : OwnsRR w' B T E v vs (xss.set i ys) := by
  have other : ∀ (u' : Value) (n : Nat) (F : TypeId) (zs : List Value), w.ownsRow B F 1 u' n zs → Apart u' u → w'.ownsRow B F 1 u' n zs := by
    intro u' n F zs h1 h2
    exact h1.kept hg (apart_or h2)
  refine ⟨other _ _ _ _ h.outer (h.alone i _ hu).symm, by simp [h.len], ?_, h.apart, h.alone⟩
  intro k u' zs h1 h2
  by_cases hk : k = i
  · subst hk
    rw [hu] at h1; cases h1
    rw [List.getElem?_set_self (get_lt hx)] at h2; cases h2
    exact hy
  · rw [List.getElem?_set_ne (fun e => hk e.symm)] at h2
    exact other _ _ _ _ (h.inner k u' zs h1 h2) ((h.apart i k _ u' (fun e => hk e.symm) hu h1).symm)
/-- A store into the second of the last row's two numbers. -/
theorem ownsRR_set_last2 {x y a : Value} {b c p : Nat} {ws : List Value} (h : OwnsRR w B T E v (ws ++ [.slice (some ⟨b, 0, none⟩) 2 c]) (xss ++ [[x, y]])) (hp : ws.length = p) :
    OwnsRR (w.setCell ⟨b, 1, none⟩ a) B T E v (ws ++ [.slice (some ⟨b, 0, none⟩) 2 c]) (xss ++ [[x, a]]) := by
  have hl := h.len
  simp at hl
  have := ownsRR_set (i := p) (g := b) (cap := c) (n := 2) (xs := [x, y]) h (by rw [← hp]; simp) (by rw [← hp, ← hl]; simp) 1 (by simp) a
  have e : (xss ++ [[x, y]]).set p ([x, y].set 1 a) = xss ++ [[x, a]] := by
    rw [← hp, ← hl]; simp
  rw [e] at this
  exact this
end
end Go.Proofs.Ytkdoghopbefjfaa
