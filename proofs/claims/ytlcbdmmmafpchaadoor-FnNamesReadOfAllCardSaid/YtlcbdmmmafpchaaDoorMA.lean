/- Texts that belong together: B, m1, m4, m5, m7, E1, E2, A1, A2, A3, A4, E3, E5, m2, m6, E4, m3. -/
import Derived.Test.YtlcbdmmmafpchaaDoorRows
import Derived.WalkKit
import Derived.Lib.Hide
import Derived.Deep.OwnRows
import Derived.Deep.Draws
import Derived.Lib.Join
import Derived.Lib.LaidU8
import Derived.Stop.Joined
import Derived.MakeChecks
import Derived.Shelf.Vars
import Derived.BigQuiet
import Derived.Deep.QuietTactic
import Derived.Deep.RegionWith
import Derived.Lib.Replace
import Derived.Lib.IndexBytes
import Derived.Laws.Rows
/- Plain lemmas on owned rows, rows of rows, and texts. No condition: a library for the other texts. -/
namespace Go.Proofs.YtlcbdmmmafpchaaDoor
open Go.RowKit
set_option linter.unusedSimpArgs false
set_option linter.unusedVariables false
set_option maxRecDepth 4000

theorem ret_bool {a b : Bool} (h : a = b) : Ending.returned (.bool a) = .returned (.bool b) := by rw [h]
theorem ret_int {k : IntKind} {a b : Int} (h : a = b) : Ending.returned (.int k a) = .returned (.int k b) := by rw [h]
theorem ret_str {a b : ByteArray} (h : a = b) : Ending.returned (.string a) = .returned (.string b) := by rw [h]
theorem bcell {W w1 : World} (hb : Below W.heap.size W w1) : (∀ b o, b < W.heap.size → w1.cell? ⟨b, o, none⟩ = W.cell? ⟨b, o, none⟩) ∧ (∀ b o, b < W.heap.size → w1.frozen? ⟨b, o, none⟩ = W.frozen? ⟨b, o, none⟩) :=
  ⟨fun b o h => hb.cell (p := ⟨b, o, none⟩) h, fun b o h => hb.frozen (p := ⟨b, o, none⟩) h⟩
theorem below_trans {a b c : World} (h : Below a.heap.size a b) (k : Below b.heap.size b c) : Below a.heap.size a c :=
  h.trans (k.mono h.size)
theorem below_refl (w : World) : Below w.heap.size w w := Below.refl _ _
theorem below_alloc (w : World) (o : Obj) : Below w.heap.size w (w.alloc o) := (Below.refl _ _).alloc (Nat.le_refl _) o
theorem belowN (B : Nat) (w : World) (n : Nat) : Below B w (w.drewN n) := ⟨rfl, rfl, rfl, Nat.le_refl _, fun _ _ => rfl⟩
theorem below_drew (w : World) : Below w.heap.size w w.drew := (Below.refl _ _).drew

/-! ### Texts -/
/-- The text of a list of bytes. -/
def bs (l : List UInt8) : ByteArray := ⟨l.toArray⟩
theorem bs_size (l : List UInt8) : (bs l).size = l.length := by simp [bs, ByteArray.size]
theorem bs_list (l : List UInt8) : (bs l).data.toList = l := by simp [bs]
theorem bs_eq {t : ByteArray} {l : List UInt8} (h : t.data.toList = l) : t = bs l := by
  apply ByteArray.ext; subst h; simp [bs]
theorem bs_inj {a b : List UInt8} (h : bs a = bs b) : a = b := by rw [← bs_list a, h, bs_list]
theorem bs_append (a b : List UInt8) : bs a ++ bs b = bs (a ++ b) := by
  apply ByteArray.ext; simp [bs]
theorem size_list (s : ByteArray) : s.data.toList.length = s.size := by simp
theorem list_append (a b : ByteArray) : (a ++ b).data.toList = a.data.toList ++ b.data.toList := by simp
theorem list_extract (s : ByteArray) (i j : Nat) : (s.extract i j).data.toList = (s.data.toList.drop i).take (j - i) := by simp [ByteArray.data_extract]
theorem list_at (s : ByteArray) (m : Nat) (h : m < s.size) : (s.extract m (m + 1)).data.toList = [s[m]] := by
  rw [list_extract, List.drop_eq_getElem_cons (by simpa using h)]
  simp; rfl
theorem drop_at (s : ByteArray) (m : Nat) (h : m < s.size) : s.data.toList.drop m = s[m] :: s.data.toList.drop (m + 1) := by
  rw [List.drop_eq_getElem_cons (by simpa using h)]; rfl

theorem _root_.Go.World.grownBy.trans {w w1 w2 : World} {row : Option Nat} (h : w.grownBy w1 row) (k : w1.grownBy w2 row) : w.grownBy w2 row :=
  ⟨k.os.trans h.os, k.tape.trans h.tape, k.output.trans h.output, Nat.le_trans h.size k.size, fun i hi hne => (k.block i (Nat.lt_of_lt_of_le hi h.size) hne).trans (h.block i hi hne)⟩
-- grownBy_trans

/-! ### One owned row -/
section
variable {w w' : World} {B : Nat} {E : TypeId} {v : Value} {n : Nat} {xs : List Value}

/-- An owned row, taken apart: nil and empty, or a row of a block of its own. -/
theorem own_open (h : w.ownsRow B E 1 v n xs) : (v = .slice none 0 0 ∧ n = 0 ∧ xs = []) ∨
    ∃ g cap, v = .slice (some ⟨g, 0, none⟩) n cap ∧ B ≤ g ∧ g < w.heap.size ∧ n ≤ cap ∧ cap ≤ maxLen ∧ xs.length = n ∧
      (∀ i (hi : i < xs.length), w.cell? ⟨g, i, none⟩ = some xs[i]) ∧ (∀ i, w.frozen? ⟨g, i, none⟩ = false) := by
  have h0 := h
  obtain ⟨hl, h2⟩ := h
  rcases h2 with ⟨rfl, rfl⟩ | ⟨g, cap, cur, rfl, hB, hg, hn, hm, hs, ht⟩
  · exact .inl ⟨rfl, rfl, List.eq_nil_of_length_eq_zero (by simpa using hl)⟩
  · refine .inr ⟨g, cap, rfl, hB, (Array.getElem?_eq_some_iff.1 hg).1, hn, hm, by simpa using hl, fun i hi => ?_, fun i => h0.frozenAt i⟩
    rw [h0.cellAt i (by omega)]
    exact List.getElem?_eq_getElem hi
theorem own_slice (h : w.ownsRow B E 1 v n xs) : ∃ a cap, v = .slice a n cap := by
  rcases own_open h with ⟨rfl, rfl, _⟩ | ⟨g, cap, rfl, _⟩
  · exact ⟨_, _, rfl⟩
  · exact ⟨_, _, rfl⟩
theorem own_cell_some {g cap : Nat} (h : w.ownsRow B E 1 (.slice (some ⟨g, 0, none⟩) n cap) n xs) (i : Nat) (hi : i < n) : ∃ x, w.cell? ⟨g, i, none⟩ = some x := by
  have hl : xs.length = n := by simpa using h.1
  exact ⟨_, (h.cellAt i (by omega)).trans (List.getElem?_eq_getElem (by omega))⟩
theorem own_len (h : w.ownsRow B E 1 v n xs) : xs.length = n := by simpa using h.1
theorem own_le (h : w.ownsRow B E 1 v n xs) : n ≤ maxLen := by
  rcases own_open h with ⟨_, rfl, _⟩ | ⟨g, cap, _, _, _, h1, h2, _⟩
  · exact Nat.zero_le _
  · exact Nat.le_trans h1 h2
theorem own_below (h : w.ownsRow B E 1 v n xs) (hb : Below w.heap.size w w') : w'.ownsRow B E 1 v n xs := by
  refine ⟨h.1, ?_⟩
  rcases h.2 with hn | ⟨g, cap, cur, rfl, hB, hg, rest⟩
  · exact .inl hn
  · exact .inr ⟨g, cap, cur, rfl, hB, by rw [hb.block g (Array.getElem?_eq_some_iff.1 hg).1]; exact hg, rest⟩
/-- Kept where its own block is as it was. -/
theorem own_block (h : w.ownsRow B E 1 v n xs) (hb : ∀ g, v.ownBlock = some g → w'.heap[g]? = w.heap[g]?) : w'.ownsRow B E 1 v n xs := by
  refine ⟨h.1, ?_⟩
  rcases h.2 with hn | ⟨g, cap, cur, rfl, hB, hg, rest⟩
  · exact .inl hn
  · exact .inr ⟨g, cap, cur, rfl, hB, by rw [hb g rfl]; exact hg, rest⟩
theorem own_mono (h : w.ownsRow B E 1 v n xs) {B' : Nat} (hB : B' ≤ B) : w.ownsRow B' E 1 v n xs := by
  refine ⟨h.1, ?_⟩
  rcases h.2 with hn | ⟨g, cap, cur, rfl, hg, rest⟩
  · exact .inl hn
  · exact .inr ⟨g, cap, cur, rfl, Nat.le_trans hB hg, rest⟩
/-- A row made by a literal. -/
theorem own_lit (w : World) (B : Nat) (E : TypeId) (xs : List Value) (hB : B ≤ w.heap.size) (hm : xs.length ≤ maxLen) :
    (w.alloc (.cells xs.toArray E)).ownsRow B E 1 (.slice (some ⟨w.heap.size, 0, none⟩) xs.length xs.length) xs.length xs := by
  refine ⟨by simp, .inr ⟨w.heap.size, xs.length, xs.toArray, rfl, hB, heap_alloc_new w _, Nat.le_refl _, hm, by simp, by simp⟩⟩
end

/-- Where the value of an append lies: in its first argument's own block, or in a new one. -/
theorem append_where {P : Program} (w : World) (base : Nat) (t ty e : TypeId) (i : TypeInfo) (z : Value) (bytes : Nat) (ht : P.underlying t = some (.slice e)) (hi : P.info? e = some i) (hz : i.zero = some z)
    (hsize : i.size = 1) (hby : i.bytes = bytes) (hzs : z.cells.size = 1)
    (v : Value) (n : Nat) (xs : List Value) (hown : w.ownsRow base e 1 v n xs)
    (a : Addr) (m c : Nat) (news : List Value) (hl : news.length = m) (hnews : ∀ j u, news[j]? = some u → w.cell? (a.add j) = some u) (h1 : ∀ u ∈ news, u.oneCell' = true)
    (h63 : n + m ≤ maxLen) (hbytes : (n + m) * bytes ≤ 140737488355328) (v' : Value) (w' : World)
    (hr : (Builtin.append_ #[t, t] ty #[v, .slice (some a) m c]).run P w = .ok v' w') : v'.ownBlock = v.ownBlock ∨ v'.ownBlock = some w.heap.size := by
  have hsmall : n + m ≤ 9223372036854775807 := by unfold maxLen at h63; omega
  subst hby
  rcases hown.2 with ⟨rfl, rfl⟩ | ⟨g, cap, cur, rfl, hbg, hg, hnc, hcm, hcs, htake⟩
  · by_cases hm : m = 0
    · subst hm
      have hn : news = [] := List.eq_nil_of_length_eq_zero hl
      have : (Builtin.append_ #[t, t] ty #[.slice none 0 0, .slice (some a) 0 c]).run P w = .ok (.slice none 0 0) w := by
        simp [Builtin.append_, run_underlying ht, sizeOf, typeInfo, hi, Builtin.lenOf, Builtin.firstCells, loadCells, loadCellsFrom]
      rw [this] at hr
      simp only [Result.ok.injEq] at hr
      rw [← hr.1]; exact .inl rfl
    · have := run_append_nil (P := P) w t ty e i z ht hi hz a m c news (by rw [hsize]; omega) hnews (by omega) (by omega) (by have hb := hbytes; simp only [Nat.zero_add] at hb; omega)
      rw [this] at hr
      simp only [Result.ok.injEq] at hr
      rw [← hr.1]; exact .inr rfl
  · by_cases hroom : n + m ≤ cap
    · have := run_append_room (P := P) w t ty e i ht hi g n cap cur hg a m c news (by rw [hsize]; omega) hnews h1 hroom (by rw [hsize]; omega)
      rw [this] at hr
      simp only [Result.ok.injEq] at hr
      rw [← hr.1]; exact .inl rfl
    · have holds : ∀ j u, xs[j]? = some u → w.cell? ((⟨g, 0, none⟩ : Addr).add j) = some u := hown.cells (g := g) rfl
      have := run_append_grow (P := P) w t ty e i z ht hi hz ⟨g, 0, none⟩ n cap xs (by rw [hsize]; exact hown.1) holds a m c news (by rw [hsize]; omega) hnews (by omega) (by omega) (growslice_fits (by omega) hbytes)
      rw [this] at hr
      simp only [Result.ok.injEq] at hr
      rw [← hr.1]; exact .inr rfl
/-- The law on append, with where the value lies. -/
theorem wpList_app {P : Program} (w : World) {ops : Array Oper} {rest : List Oper} {o : Oper} {a : Act} {Q : Exit → Act → World → Prop} (hgd : o.guard = none) (s x : Operand) (t : TypeId)
    (ho : o.op = .call { callee := .builtin .append, args := #[s, x], argTypes := #[t, t] })
    (base : Nat) (e : TypeId) (i : TypeInfo) (z : Value) (bytes : Nat) (ht : P.underlying t = some (.slice e)) (hi : P.info? e = some i) (hz : i.zero = some z)
    (hsize : i.size = 1) (hby : i.bytes = bytes) (hzs : z.cells.size = 1)
    (v : Value) (n : Nat) (xs : List Value) (hs : a.eval s = v) (hown : w.ownsRow base e 1 v n xs)
    (ad : Addr) (m c : Nat) (news : List Value) (hx : a.eval x = .slice (some ad) m c) (hl : news.length = m) (hnews : ∀ j u, news[j]? = some u → w.cell? (ad.add j) = some u) (h1 : ∀ u ∈ news, u.oneCell' = true)
    (h63 : n + m ≤ maxLen) (hbytes : (n + m) * bytes ≤ 140737488355328) (hbase : base ≤ w.heap.size)
    (h : ∀ v' w', w'.ownsRow base e 1 v' (n + m) (xs ++ news) → w.grownBy w' v.ownBlock → (v'.ownBlock = v.ownBlock ∨ v'.ownBlock = some w.heap.size) → wpList P ops Q rest (a.put o.dst v') w') : wpList P ops Q (o :: rest) a w := by
  refine wpList_plain hgd fun K hK => ?_
  obtain ⟨v', w', hr, h2, h3, h4⟩ := run_append_own (P := P) w base t o.type e i z 1 bytes ht hi hz hsize hby hzs (by decide) v n xs hown ad m c news (by omega) hnews h1 h63 hbytes hbase
  have hw := append_where w base t o.type e i z bytes ht hi hz hsize hby hzs v n xs hown ad m c news hl hnews h1 h63 hbytes v' w' hr
  unfold Oper.wp execOp
  simp only [ho, resolve, invoke, builtin, Sem.run_bind, Sem.run_pure, Result.andThen_ok, List.map_toArray, List.map_cons, List.map_nil, hs, hx, hr]
  exact hK _ _ (h v' w' h2 h3 hw)
/-- '[]byte(s)' as a law of the walk: a new row of the text's bytes, none of them frozen; what was there is as it was. -/
theorem wpList_bytes {P : Program} (w : World) {ops : Array Oper} {rest : List Oper} {o : Oper} {a : Act} {Q : Exit → Act → World → Prop}
    (hg : o.guard = none) (src dst : TypeId) (x : Operand) (hop : o.op = Op.convert src dst x) (e : TypeId) (hs : P.underlying src = some .string) (hd : P.underlying dst = some (.slice e)) (he : P.underlying e = some (.int .u8))
    (s : ByteArray) (hx : a.eval x = .string s) (hm : s.size ≤ maxLen)
    (hK : ∀ w1 cap, Below w.heap.size w w1 → w.heap.size < w1.heap.size → s.size ≤ cap → cap ≤ maxLen → (∀ i (h : i < s.size), w1.cell? ⟨w.heap.size, i, none⟩ = some (.int .u8 (s[i].toNat : Int))) → (∀ i, i < cap → w1.frozen? ⟨w.heap.size, i, none⟩ = false) →
      wpList P ops Q rest (a.put o.dst (.slice (some ⟨w.heap.size, 0, none⟩) s.size cap)) w1) : wpList P ops Q (o :: rest) a w := by
  refine wpList_plain hg fun K hK' => ?_
  have hrun := run_bytes_of_string (P := P) w src dst e s hs hd he
  have hcap := grownCap_ge w s.size 0 e
  have hcap2 := grownCap_le_maxLen w s.size 0 e hm
  generalize hC : grownCap w s.size 0 e = C at hrun hcap hcap2
  have hrow : (bytesRow s C).size = C := by simp [bytesRow]; have : s.data.size = s.size := rfl; omega
  rw [hrow] at hrun
  have hnew : (w.drew.alloc (.cells (bytesRow s C) e (C, C + 1))).heap[w.heap.size]? = some (.cells (bytesRow s C) e (C, C + 1)) := heap_alloc_new w.drew _
  unfold Oper.wp
  simp only [execOp, hop, hx, hrun, Sem.run_bind, Sem.run_pure, Result.andThen_ok, Oper.upon_value]
  refine hK' _ _ (hK _ C ?_ ?_ hcap hcap2 ?_ ?_)
  · exact below_trans (below_drew w) (below_alloc _ _)
  · show w.heap.size < (w.heap.push _).size
    simp
  · intro i h
    unfold World.cell?
    rw [hnew]
    have h2 : (bytesRow s C)[i]? = some (.int .u8 (s[i].toNat : Int)) := by
      unfold bytesRow
      rw [Array.getElem?_append_left (by simpa using h)]
      rw [Array.getElem?_map, Array.getElem?_eq_getElem (by simpa using h)]
      rfl
    simp [h2]
  · intro i h
    unfold World.frozen?
    rw [hnew]
    simp; omega

/-! ### A row of rows -/
/-- Two slice values share no block of their own. -/
def Apart (u v : Value) : Prop := ∀ g, u.ownBlock = some g → v.ownBlock = some g → False
theorem Apart.symm {u v : Value} (h : Apart u v) : Apart v u := fun g h1 h2 => h g h2 h1
theorem apart_or {u v : Value} (h : Apart u v) : u.ownBlock = none ∨ u.ownBlock ≠ v.ownBlock := by
  cases hu : u.ownBlock with
  | none => exact .inl rfl
  | some g => exact .inr (fun e => h g hu e.symm)
/-- A value whose block is new is apart from one that was owned before. -/
theorem apart_new {w : World} {B : Nat} {E : TypeId} {u v : Value} {n : Nat} {xs : List Value} (h : w.ownsRow B E 1 u n xs) (hv : ∀ g, v.ownBlock = some g → w.heap.size ≤ g) : Apart u v := by
  intro g h1 h2
  have := (h.lt g h1).2
  have := hv g h2
  omega
/-- Rows of two element types are apart. -/
theorem apart_types {w : World} {B B' : Nat} {T E : TypeId} {u v : Value} {n m : Nat} {xs ys : List Value} (h : w.ownsRow B E 1 u n xs) (k : w.ownsRow B' T 1 v m ys) (hTE : T ≠ E) : Apart u v := by
  intro g h1 h2
  rcases h.2 with ⟨rfl, _⟩ | ⟨g1, _, c1, rfl, _, e1, _⟩
  · cases h1
  rcases k.2 with ⟨rfl, _⟩ | ⟨g2, _, c2, rfl, _, e2, _⟩
  · cases h2
  cases h1; cases h2
  rw [e1] at e2
  simp only [Option.some.injEq, Obj.cells.injEq] at e2
  exact hTE e2.2.1.symm
theorem snoc_get {α : Type} {l : List α} {a : α} {i : Nat} {x : α} (hx : (l ++ [a])[i]? = some x) : l[i]? = some x ∨ (i = l.length ∧ x = a) := by
  rw [List.getElem?_append] at hx
  split at hx
  · exact .inl hx
  · rename_i hi
    have hi' : i = l.length := by
      by_cases e : i = l.length
      · exact e
      · rw [List.getElem?_eq_none (by simp; omega)] at hx; cases hx
    subst hi'
    simp at hx
    exact .inr ⟨rfl, hx.symm⟩
theorem get_lt {α : Type} {l : List α} {i : Nat} {x : α} (hx : l[i]? = some x) : i < l.length := (List.getElem?_eq_some_iff.1 hx).1

/-- The slice value v owns the row vs of slice values, each of which owns a row of its own; no two share a block. -/
structure OwnsRR (w : World) (B : Nat) (T E : TypeId) (v : Value) (vs : List Value) (xss : List (List Value)) : Prop where
  outer : w.ownsRow B T 1 v vs.length vs
  len : xss.length = vs.length
  inner : ∀ (i : Nat) (u : Value) (xs : List Value), vs[i]? = some u → xss[i]? = some xs → w.ownsRow B E 1 u xs.length xs
  apart : ∀ (i j : Nat) (u u' : Value), i ≠ j → vs[i]? = some u → vs[j]? = some u' → Apart u u'
  alone : ∀ (i : Nat) (u : Value), vs[i]? = some u → Apart u v

section
variable {w w' : World} {B : Nat} {T E : TypeId} {v : Value} {vs : List Value} {xss : List (List Value)}

theorem ownsRR_nil (w : World) (B : Nat) (T E : TypeId) : OwnsRR w B T E (.slice none 0 0) [] [] :=
  ⟨World.ownsRow_nil _ _ _ _, rfl, fun i u xs h => by simp at h, fun i j u u' _ h => by simp at h, fun i u h => by simp at h⟩
theorem ownsRR_below (h : OwnsRR w B T E v vs xss) (hb : Below w.heap.size w w') : OwnsRR w' B T E v vs xss :=
  ⟨own_below h.outer hb, h.len, fun i u xs h1 h2 => own_below (h.inner i u xs h1 h2) hb, h.apart, h.alone⟩
theorem ownsRR_mono (h : OwnsRR w B T E v vs xss) {B' : Nat} (hB : B' ≤ B) : OwnsRR w B' T E v vs xss :=
  ⟨own_mono h.outer hB, h.len, fun i u xs h1 h2 => own_mono (h.inner i u xs h1 h2) hB, h.apart, h.alone⟩
theorem ownsRR_row (h : OwnsRR w B T E v vs xss) (i : Nat) (hi : i < vs.length) : ∃ u xs, vs[i]? = some u ∧ xss[i]? = some xs ∧ w.ownsRow B E 1 u xs.length xs := by
  have hx : xss[i]? = some (xss[i]'(by rw [h.len]; exact hi)) := List.getElem?_eq_getElem _
  have hu : vs[i]? = some vs[i] := List.getElem?_eq_getElem _
  exact ⟨_, _, hu, hx, h.inner i _ _ hu hx⟩
/-- A new row behind the others: by a law on append. -/
theorem ownsRR_snoc (h : OwnsRR w B T E v vs xss) {v' u : Value} {xs : List Value} (hu : w.ownsRow B E 1 u xs.length xs)
    (hfar : ∀ (i : Nat) (u' : Value), vs[i]? = some u' → Apart u' u) (hfar' : Apart u v)
    (hown : w'.ownsRow B T 1 v' (vs.length + 1) (vs ++ [u])) (hg : w.grownBy w' v.ownBlock)
    (hTE : T ≠ E) : OwnsRR w' B T E v' (vs ++ [u]) (xss ++ [xs]) := by
  have far : ∀ u xs, w.ownsRow B E 1 u xs.length xs → Apart u v → Apart u v' := by
    intro u xs h1 h2
    exact apart_types (h1.kept hg (apart_or h2)) hown hTE
  refine ⟨by simpa using hown, by simp [h.len], ?_, ?_, ?_⟩
  · intro i x ys h1 h2
    rcases snoc_get h1 with h1 | ⟨e1, rfl⟩ <;> rcases snoc_get h2 with h2 | ⟨e2, rfl⟩
    · exact (h.inner i x ys h1 h2).kept hg (apart_or (h.alone i x h1))
    · have := get_lt h1; have := h.len; omega
    · have := get_lt h2; have := h.len; omega
    · exact hu.kept hg (apart_or hfar')
  · intro i j x x' hij h1 h2
    rcases snoc_get h1 with h1 | ⟨e1, e⟩ <;> rcases snoc_get h2 with h2 | ⟨e2, e'⟩
    · exact h.apart i j x x' hij h1 h2
    · rw [e']; exact hfar i x h1
    · rw [e]; exact (hfar j x' h2).symm
    · omega
  · intro i x h1
    rcases snoc_get h1 with h1 | ⟨e1, rfl⟩
    · obtain ⟨u, xs, e1, e2, e3⟩ := ownsRR_row h i (get_lt h1)
      rw [h1] at e1; cases e1
      exact far _ _ e3 (h.alone i x h1)
    · exact far _ _ hu hfar'
/-- The last row, taken apart. -/
theorem ownsRR_last {ys : List Value} (h : OwnsRR w B T E v vs (xss ++ [ys])) (hy : 0 < ys.length) :
    ∃ g cap ws b c, v = .slice (some ⟨g, 0, none⟩) (xss.length + 1) cap ∧ vs = ws ++ [.slice (some ⟨b, 0, none⟩) ys.length c] ∧ ws.length = xss.length ∧ ws.length + 1 ≤ maxLen ∧
      w.cell? ⟨g, xss.length, none⟩ = some (.slice (some ⟨b, 0, none⟩) ys.length c) ∧ B ≤ b ∧ b < w.heap.size ∧ ys.length ≤ maxLen ∧
      (∀ i (hi : i < ys.length), w.cell? ⟨b, i, none⟩ = some ys[i]) ∧ (∀ i, w.frozen? ⟨b, i, none⟩ = false) := by
  have hl := h.len
  simp at hl
  obtain ⟨u, xs, e1, e2, e3⟩ := ownsRR_row h xss.length (by omega)
  have hxs : xs = ys := by simpa using e2.symm
  subst hxs
  rcases own_open h.outer with ⟨_, h0, _⟩ | ⟨g, cap, rfl, _, _, hc1, hc2, _, hcell, _⟩
  · omega
  rcases own_open e3 with ⟨_, h0, _⟩ | ⟨b, c, rfl, hB, hb, hd1, hd2, _, hcell', hfr⟩
  · omega
  refine ⟨g, cap, vs.dropLast, b, c, by rw [hl], ?_, by simp; omega, by simp; omega, ?_, hB, hb, Nat.le_trans hd1 hd2, hcell', hfr⟩
  · have hne : vs ≠ [] := by intro e; rw [e] at hl; simp at hl
    have := List.dropLast_concat_getLast hne
    rw [← this]
    have hlast : vs.getLast hne = .slice (some ⟨b, 0, none⟩) xs.length c := by
      rw [List.getLast_eq_getElem]
      have h2 : vs[vs.length - 1]? = some (.slice (some ⟨b, 0, none⟩) xs.length c) := by rw [← e1]; congr 1; omega
      rw [List.getElem?_eq_getElem (by omega)] at h2
      exact Option.some.inj h2
    rw [hlast]; simp
  · have := hcell xss.length (by omega)
    rw [this]
    rw [List.getElem?_eq_getElem (by omega)] at e1
    exact e1
/-- The last row, of two numbers. -/
theorem ownsRR_last2 {x y : Value} (h : OwnsRR w B T E v vs (xss ++ [[x, y]])) :
    ∃ p g cap ws b c, p = xss.length ∧ v = .slice (some ⟨g, 0, none⟩) (p + 1) cap ∧ vs = ws ++ [.slice (some ⟨b, 0, none⟩) 2 c] ∧ ws.length = p ∧ p + 1 ≤ 9223372036854775807 ∧
      w.cell? ⟨g, p, none⟩ = some (.slice (some ⟨b, 0, none⟩) 2 c) ∧ B ≤ b ∧ b < w.heap.size ∧
      w.cell? ⟨b, 0, none⟩ = some x ∧ w.cell? ⟨b, 1, none⟩ = some y ∧ w.frozen? ⟨b, 0, none⟩ = false ∧ w.frozen? ⟨b, 1, none⟩ = false := by
  obtain ⟨g, cap, ws, b, c, h1, h2, h3, h4, h5, h6, h7, _, h9, h10⟩ := ownsRR_last h (by simp)
  refine ⟨_, g, cap, ws, b, c, rfl, h1, h2, h3, ?_, h5, h6, h7, h9 0 (by simp), h9 1 (by simp), h10 0, h10 1⟩
  unfold maxLen at h4; omega
/-- What 'append(out, []T{..})' leaves: a literal row in a new block, its slice value in another, then the law on append. -/
theorem ownsRR_push (h : OwnsRR w B T E v vs xss) (xs : List Value) (hm : xs.length ≤ maxLen) (hB : B ≤ w.heap.size) {v' : Value} {o : Obj}
    (hown : w'.ownsRow B T 1 v' (vs.length + 1) (vs ++ [.slice (some ⟨w.heap.size, 0, none⟩) xs.length xs.length]))
    (hg : ((w.alloc (.cells xs.toArray E)).alloc o).grownBy w' v.ownBlock) (hTE : T ≠ E) : OwnsRR w' B T E v' (vs ++ [.slice (some ⟨w.heap.size, 0, none⟩) xs.length xs.length]) (xss ++ [xs]) := by
  have b1 := below_alloc w (.cells xs.toArray E)
  have b2 := below_alloc (w.alloc (.cells xs.toArray E)) o
  have hb := below_trans b1 b2
  have hu := own_below (own_lit w B E xs hB hm) b2
  have new : ∀ g, (Value.slice (some ⟨w.heap.size, 0, none⟩) xs.length xs.length).ownBlock = some g → w.heap.size ≤ g := fun g e => by cases e; exact Nat.le_refl _
  refine ownsRR_snoc (ownsRR_below h hb) hu (fun i u' hi => ?_) ?_ hown hg hTE
  · obtain ⟨u, ys, e1, e2, e3⟩ := ownsRR_row h i (get_lt hi)
    rw [hi] at e1; cases e1
    exact apart_new e3 new
  · exact (apart_new h.outer new).symm
/-- A row of rows, taken apart for reading: nil, or cell i of the outer row holds the slice of row i. -/
theorem ownsRR_open (h : OwnsRR w B T E v vs xss) : (v = .slice none 0 0 ∧ vs = [] ∧ xss = []) ∨
    ∃ g cap, v = .slice (some ⟨g, 0, none⟩) xss.length cap ∧ xss.length ≤ cap ∧ cap ≤ maxLen ∧ B ≤ g ∧ g < w.heap.size ∧
      (∀ i (hi : i < xss.length) (u : Value), vs[i]? = some u → w.cell? ⟨g, i, none⟩ = some u) := by
  have hl := h.len
  rcases own_open h.outer with ⟨h1, h2, h3⟩ | ⟨g, cap, h1, hB, hg, h2, h3, _, h4, _⟩
  · exact .inl ⟨h1, h3, List.eq_nil_of_length_eq_zero (by rw [hl, h2])⟩
  · refine .inr ⟨g, cap, by rw [hl]; exact h1, by rw [hl]; exact h2, h3, hB, hg, fun i hi u hu => ?_⟩
    rw [h4 i (by omega)]
    rw [List.getElem?_eq_getElem (by omega)] at hu
    exact hu
/-- Row i, of two numbers. -/
theorem ownsRR_at2 (h : OwnsRR w B T E v vs xss) {i : Nat} {x y : Value} (hx : xss[i]? = some [x, y]) :
    ∃ b c, vs[i]? = some (.slice (some ⟨b, 0, none⟩) 2 c) ∧ w.cell? ⟨b, 0, none⟩ = some x ∧ w.cell? ⟨b, 1, none⟩ = some y := by
  obtain ⟨u, xs, e1, e2, e3⟩ := ownsRR_row h i (by have := get_lt hx; have := h.len; omega)
  rw [hx] at e2; cases e2
  rcases own_open e3 with ⟨_, h0, _⟩ | ⟨b, c, rfl, _, _, _, _, _, hc, _⟩
  · simp at h0
  · exact ⟨b, c, e1, hc 0 (by simp), hc 1 (by simp)⟩
/-- A store into one of the rows. -/
theorem ownsRR_set (h : OwnsRR w B T E v vs xss) {i : Nat} {g cap n : Nat} {xs : List Value} (hu : vs[i]? = some (.slice (some ⟨g, 0, none⟩) n cap)) (hx : xss[i]? = some xs) (j : Nat) (hj : j < xs.length) (a : Value) :
    OwnsRR (w.setCell ⟨g, j, none⟩ a) B T E v vs (xss.set i (xs.set j a)) := by
  have other : ∀ (u : Value) (n : Nat) (F : TypeId) (ys : List Value), w.ownsRow B F 1 u n ys → u.ownBlock ≠ some g → (w.setCell ⟨g, j, none⟩ a).ownsRow B F 1 u n ys := by
    intro u n F ys h1 h2
    refine own_block h1 (fun k hk => Below.heap_setCell _ _ _ _ ?_)
    intro e; exact h2 (by rw [hk]; exact congrArg some e)
  refine ⟨other _ _ _ _ h.outer (fun e => h.alone i _ hu g rfl e), by simp [h.len], ?_, h.apart, h.alone⟩
  intro k u ys h1 h2
  by_cases hk : k = i
  · subst hk
    rw [hu] at h1; cases h1
    rw [List.getElem?_set_self (get_lt hx)] at h2; cases h2
    have h3 := h.inner k _ _ hu hx
    have hn : xs.length = n := by
      rcases own_open h3 with ⟨e, _⟩ | ⟨g', cap', e, _⟩
      · cases e
      · simp only [Value.slice.injEq] at e; exact e.2.1.symm
    subst hn
    have := (h3.stored j a).1
    simpa using this
  · rw [List.getElem?_set_ne (fun e => hk e.symm)] at h2
    exact other _ _ _ _ (h.inner k u ys h1 h2) (fun e => h.apart i k _ u (fun e => hk e.symm) hu h1 g rfl e)
/-- One of the rows written by a call that touched its block alone. -/
theorem ownsRR_inner (h : OwnsRR w B T E v vs xss) {i : Nat} {u : Value} {xs ys : List Value} (hu : vs[i]? = some u) (hx : xss[i]? = some xs)
    (hg : w.grownBy w' u.ownBlock) (hy : w'.ownsRow B E 1 u ys.length ys) : OwnsRR w' B T E v vs (xss.set i ys) := by
  have other : ∀ (u' : Value) (n : Nat) (F : TypeId) (zs : List Value), w.ownsRow B F 1 u' n zs → Apart u' u → w'.ownsRow B F 1 u' n zs := by
    intro u' n F zs h1 h2
    exact h1.kept hg (apart_or h2)
  refine ⟨other _ _ _ _ h.outer (h.alone i _ hu).symm, by simp [h.len], ?_, h.apart, h.alone⟩
  intro k u' zs h1 h2
  by_cases hk : k = i
  · subst hk
    rw [hu] at h1; cases h1
    rw [List.getElem?_set_self (get_lt hx)] at h2; cases h2
    exact hy
  · rw [List.getElem?_set_ne (fun e => hk e.symm)] at h2
    exact other _ _ _ _ (h.inner k u' zs h1 h2) ((h.apart i k _ u' (fun e => hk e.symm) hu h1).symm)
/-- A store into the second of the last row's two numbers. -/
theorem ownsRR_set_last2 {x y a : Value} {b c p : Nat} {ws : List Value} (h : OwnsRR w B T E v (ws ++ [.slice (some ⟨b, 0, none⟩) 2 c]) (xss ++ [[x, y]])) (hp : ws.length = p) :
    OwnsRR (w.setCell ⟨b, 1, none⟩ a) B T E v (ws ++ [.slice (some ⟨b, 0, none⟩) 2 c]) (xss ++ [[x, a]]) := by
  have hl := h.len
  simp at hl
  have := ownsRR_set (i := p) (g := b) (cap := c) (n := 2) (xs := [x, y]) h (by rw [← hp]; simp) (by rw [← hp, ← hl]; simp) 1 (by simp) a
  have e : (xss ++ [[x, y]]).set p ([x, y].set 1 a) = xss ++ [[x, a]] := by
    rw [← hp, ← hl]; simp
  rw [e] at this
  exact this
end
end Go.Proofs.YtlcbdmmmafpchaaDoor

/- Chapter 8 (pure): names of numbers, their words and letters. -/
namespace Go.Proofs.YtlcbdmmmafpchaaDoor
open Go.RowKit
set_option linter.unusedSimpArgs false
set_option linter.unusedVariables false
set_option maxRecDepth 4000

def smT : List (List UInt8) := [[122, 101, 114, 111], [111, 110, 101], [116, 119, 111], [116, 104, 114, 101, 101], [102, 111, 117, 114], [102, 105, 118, 101], [115, 105, 120], [115, 101, 118, 101, 110], [101, 105, 103, 104, 116], [110, 105, 110, 101], [116, 101, 110], [101, 108, 101, 118, 101, 110], [116, 119, 101, 108, 118, 101], [116, 104, 105, 114, 116, 101, 101, 110], [102, 111, 117, 114, 116, 101, 101, 110], [102, 105, 102, 116, 101, 101, 110], [115, 105, 120, 116, 101, 101, 110], [115, 101, 118, 101, 110, 116, 101, 101, 110], [101, 105, 103, 104, 116, 101, 101, 110], [110, 105, 110, 101, 116, 101, 101, 110]]
def tnT : List (List UInt8) := [[116, 119, 101, 110, 116, 121], [116, 104, 105, 114, 116, 121], [102, 111, 114, 116, 121], [102, 105, 102, 116, 121], [115, 105, 120, 116, 121], [115, 101, 118, 101, 110, 116, 121], [101, 105, 103, 104, 116, 121], [110, 105, 110, 101, 116, 121]]
def hundredL : List UInt8 := [104, 117, 110, 100, 114, 101, 100]
def thousandL : List UInt8 := [116, 104, 111, 117, 115, 97, 110, 100]
def smN (n : Nat) : List UInt8 := smT.getD n []
/-- The name of k tens. -/
def tnN (k : Nat) : List UInt8 := tnT.getD (k - 2) []
def wd100 (n : Nat) : List UInt8 := if n < 20 then smN n else if n % 10 = 0 then tnN (n / 10) else tnN (n / 10) ++ [45] ++ smN (n % 10)
def wd1000 (n : Nat) : List (List UInt8) := if n < 100 then [wd100 n] else [smN (n / 100), hundredL] ++ (if n % 100 = 0 then [] else [wd100 (n % 100)])
def wdsN (n : Nat) : List (List UInt8) := if n < 1000 then wd1000 n else wd1000 (n / 1000) ++ [thousandL] ++ (if n % 1000 = 0 then [] else wd1000 (n % 1000))
/-- Words with blanks between them. -/
def joinS : List (List UInt8) → List UInt8
  | [] => []
  | [a] => a
  | a :: b :: t => a ++ [32] ++ joinS (b :: t)
def nm1000 (n : Nat) : List UInt8 := if n < 100 then wd100 n else smN (n / 100) ++ [32] ++ hundredL ++ (if n % 100 = 0 then [] else [32] ++ wd100 (n % 100))
def nmN (n : Nat) : List UInt8 := if n < 1000 then nm1000 n else nm1000 (n / 1000) ++ [32] ++ thousandL ++ (if n % 1000 = 0 then [] else [32] ++ nm1000 (n % 1000))
def azB (c : UInt8) : Bool := decide (97 ≤ c.toNat ∧ c.toNat ≤ 122)
def ltN (n : Nat) : List UInt8 := (nmN n).filter azB

theorem joinS_append (a b : List (List UInt8)) (ha : a ≠ []) (hb : b ≠ []) : joinS (a ++ b) = joinS a ++ [32] ++ joinS b := by
  induction a with
  | nil => exact absurd rfl ha
  | cons x t ih =>
    cases t with
    | nil =>
      cases b with
      | nil => exact absurd rfl hb
      | cons y s => rfl
    | cons z t =>
      have := ih (by simp)
      simp only [List.cons_append, joinS] at this ⊢
      rw [this]; simp
theorem lib_joinS : ∀ ns : List (List UInt8), Go.Lib.join ns [32] = joinS ns
  | [] => rfl
  | [a] => by simp [Go.Lib.join, joinS]
  | a :: b :: t => by
    have := lib_joinS (b :: t)
    simp [Go.Lib.join, joinS] at this ⊢
    rw [this]
theorem lib_join0 : ∀ ns : List (List UInt8), Go.Lib.join ns [] = ns.flatten
  | [] => rfl
  | [a] => by simp [Go.Lib.join]
  | a :: b :: t => by
    have := lib_join0 (b :: t)
    simp [Go.Lib.join] at this ⊢
    rw [this]
theorem wd1000_ne (n : Nat) : wd1000 n ≠ [] := by unfold wd1000; split <;> simp
theorem wdsN_ne (n : Nat) : wdsN n ≠ [] := by unfold wdsN; split; exact wd1000_ne n; simp
theorem join1000 (n : Nat) : joinS (wd1000 n) = nm1000 n := by
  unfold wd1000 nm1000
  split
  · rfl
  · split
    · simp [joinS]
    · simp [joinS]
theorem joinN (n : Nat) : joinS (wdsN n) = nmN n := by
  unfold wdsN nmN
  split
  · exact join1000 n
  · rw [List.append_assoc, joinS_append _ _ (wd1000_ne _) (by simp), join1000]
    split
    · simp [joinS]
    · rw [joinS_append _ _ (by simp) (wd1000_ne _), join1000]; simp [joinS]

/-- A word: of letters and '-', neither empty nor long. -/
def wordB (l : List UInt8) : Bool := decide (1 ≤ l.length ∧ l.length ≤ 13) && l.all (fun c => azB c || c == 45)
theorem smN_word : ∀ n, n < 20 → wordB (smN n) = true := by decide +kernel
theorem wd100_word : ∀ n, n < 100 → wordB (wd100 n) = true := by decide +kernel
theorem smN_len : ∀ n, n < 20 → 1 ≤ (smN n).length ∧ (smN n).length ≤ 9 := by decide +kernel
theorem smN_len10 : ∀ n, n < 10 → 1 ≤ (smN n).length ∧ (smN n).length ≤ 5 := by decide +kernel
theorem tnN_len : ∀ n, n < 10 → (tnN n).length ≤ 7 := by decide +kernel
theorem wd1000_word (n : Nat) (h : n < 1000) : ∀ x ∈ wd1000 n, wordB x = true := by
  intro x hx
  unfold wd1000 at hx
  split at hx
  · rename_i h1
    simp at hx; subst hx
    exact wd100_word n h1
  · simp only [List.mem_append, List.mem_cons, List.not_mem_nil, or_false] at hx
    rcases hx with (rfl | rfl) | hx
    · exact smN_word _ (by omega)
    · rfl
    · split at hx
      · simp at hx
      · simp at hx; subst hx
        exact wd100_word _ (Nat.mod_lt _ (by decide))
theorem wdsN_word (n : Nat) (h : n < 1000000) : ∀ x ∈ wdsN n, wordB x = true := by
  intro x hx
  unfold wdsN at hx
  split at hx
  · rename_i h1
    exact wd1000_word n h1 x hx
  · simp only [List.mem_append, List.mem_cons, List.not_mem_nil, or_false] at hx
    rcases hx with (hx | rfl) | hx
    · exact wd1000_word _ (by omega) x hx
    · rfl
    · split at hx
      · simp at hx
      · exact wd1000_word _ (Nat.mod_lt _ (by decide)) x hx
theorem wd1000_len (n : Nat) : (wd1000 n).length ≤ 3 := by
  unfold wd1000; split
  · simp
  · split <;> simp
theorem wdsN_len (n : Nat) : (wdsN n).length ≤ 7 := by
  have h1 := wd1000_len n
  have h2 := wd1000_len (n / 1000)
  have h3 := wd1000_len (n % 1000)
  unfold wdsN; split
  · omega
  · split <;> simp <;> omega
theorem wd100_len (n : Nat) (h : n < 100) : (wd100 n).length ≤ 13 := by
  have := wd100_word n h
  unfold wordB at this
  simp only [Bool.and_eq_true, decide_eq_true_eq] at this
  exact this.1.2
theorem nm1000_len (n : Nat) (h : n < 1000) : (nm1000 n).length ≤ 27 := by
  unfold nm1000
  split
  · rename_i h1
    have := wd100_len n h1; omega
  · have h1 := (smN_len10 (n / 100) (by omega)).2
    have h2 := wd100_len (n % 100) (Nat.mod_lt _ (by decide))
    simp only [List.length_append]
    have h3 : hundredL.length = 7 := rfl
    have h4 : ([32] : List UInt8).length = 1 := rfl
    split <;> simp only [List.length_append, List.length_nil] <;> omega
theorem nmN_len (n : Nat) (h : n < 1000000) : (nmN n).length ≤ 64 := by
  unfold nmN
  split
  · rename_i h1
    have := nm1000_len n h1; omega
  · have h1 := nm1000_len (n / 1000) (by omega)
    have h2 := nm1000_len (n % 1000) (Nat.mod_lt _ (by decide))
    simp only [List.length_append]
    have h3 : thousandL.length = 8 := rfl
    have h4 : ([32] : List UInt8).length = 1 := rfl
    split <;> simp only [List.length_append, List.length_nil] <;> omega
theorem ltN_len (n : Nat) (h : n < 1000000) : (ltN n).length ≤ 64 := Nat.le_trans (List.length_filter_le _ _) (nmN_len n h)
/-- The words without '-', one behind the other, are the letters of the name. -/
theorem filter_join (p : UInt8 → Bool) (hp : p 32 = false) : ∀ ns : List (List UInt8), (joinS ns).filter p = ns.flatten.filter p
  | [] => rfl
  | [a] => by simp [joinS]
  | a :: b :: t => by
    have := filter_join p hp (b :: t)
    simp only [joinS, List.filter_append, this]
    simp [hp]
theorem word_filter {x : List UInt8} (h : wordB x = true) : x.filter (fun c => c != 45) = x.filter azB := by
  unfold wordB at h
  simp only [Bool.and_eq_true, List.all_eq_true] at h
  refine List.filter_congr fun c hc => ?_
  have := h.2 c hc
  by_cases h45 : c = 45
  · subst h45; rfl
  · have h1 : (c == 45) = false := by simpa using h45
    rw [h1, Bool.or_false] at this
    rw [this]
    simpa using h45
theorem flat_filter : ∀ ns : List (List UInt8), (∀ x ∈ ns, wordB x = true) → ns.flatten.filter (fun c => c != 45) = ns.flatten.filter azB
  | [], _ => rfl
  | a :: t, h => by
    rw [List.flatten_cons, List.filter_append, List.filter_append, word_filter (h a (by simp)), flat_filter t (fun x hx => h x (by simp [hx]))]
theorem letters_of (n : Nat) (h : n < 1000000) : (wdsN n).flatten.filter (fun c => c != 45) = ltN n := by
  rw [flat_filter _ (wdsN_word n h), ltN, ← joinN, filter_join _ (by decide)]
theorem ltN_all (n : Nat) : ∀ c ∈ ltN n, 97 ≤ c.toNat ∧ c.toNat ≤ 122 := by
  intro c hc
  have := (List.mem_filter.1 hc).2
  simpa [azB] using this
theorem flat_len : ∀ ns : List (List UInt8), (∀ x ∈ ns, wordB x = true) → ns.flatten.length ≤ 13 * ns.length
  | [], _ => Nat.le_refl _
  | a :: t, h => by
    have h1 := flat_len t (fun x hx => h x (by simp [hx]))
    have h2 := h a (by simp)
    unfold wordB at h2
    simp only [Bool.and_eq_true, decide_eq_true_eq] at h2
    rw [List.flatten_cons, List.length_append, List.length_cons]
    omega
theorem wdsN_flat (n : Nat) (h : n < 1000000) : (wdsN n).flatten.length ≤ 91 := by
  have := flat_len _ (wdsN_word n h)
  have := wdsN_len n
  omega
end Go.Proofs.YtlcbdmmmafpchaaDoor

/- Chapter 8 (pure): names read: words added up. -/
namespace Go.Proofs.YtlcbdmmmafpchaaDoor
open Go.RowKit
set_option linter.unusedSimpArgs false
set_option linter.unusedVariables false
set_option maxRecDepth 4000

/-- The place of a word in a list; none if it is not there. -/
def plcF (x : List UInt8) : List (List UInt8) → Nat → Option Nat
  | [], _ => none
  | a :: t, i => if a = x then some i else plcF x t (i + 1)
/-- What a word adds. -/
def worthN (x : List UInt8) : Nat := match plcF x smT 0 with
  | some n => n
  | none => match plcF x tnT 0 with
    | some k => 20 + 10 * k
    | none => 0
def wrapI (z : Int) : Int := IntKind.i64.wrap z
/-- One word more: thousands and what stands behind them. -/
def addW (p : Int × Int) (x : List UInt8) : Int × Int :=
  if x = thousandL then (wrapI (p.2 * 1000), 0) else if x = hundredL then (p.1, wrapI (p.2 * 100)) else (p.1, wrapI (p.2 + (worthN x : Int)))
/-- The pieces of names: words cut at '-'. -/
def pc100 (n : Nat) : List (List UInt8) := if n < 20 then [smN n] else if n % 10 = 0 then [tnN (n / 10)] else [tnN (n / 10), smN (n % 10)]
def pc1000 (n : Nat) : List (List UInt8) := if n < 100 then pc100 n else [smN (n / 100), hundredL] ++ (if n % 100 = 0 then [] else pc100 (n % 100))
def pcN (n : Nat) : List (List UInt8) := if n < 1000 then pc1000 n else pc1000 (n / 1000) ++ [thousandL] ++ (if n % 1000 = 0 then [] else pc1000 (n % 1000))
theorem pc100_ok : ∀ n, n < 100 → (∀ x ∈ pc100 n, x ≠ thousandL ∧ x ≠ hundredL) ∧ ((pc100 n).map worthN).sum = n := by decide +kernel
theorem smN_worth : ∀ n, n < 20 → worthN (smN n) = n ∧ smN n ≠ thousandL ∧ smN n ≠ hundredL := by decide +kernel
theorem wrapI_id (z : Int) (h0 : 0 ≤ z) (h : z ≤ 1000000000) : wrapI z = z := by unfold wrapI; rw [IntKind.wrap_i64]; omega
theorem fold_plain : ∀ (l : List (List UInt8)) (a : Int) (m : Nat), (∀ x ∈ l, x ≠ thousandL ∧ x ≠ hundredL) → m + (l.map worthN).sum ≤ 1000000000 → l.foldl addW (a, (m : Int)) = (a, ((m + (l.map worthN).sum : Nat) : Int))
  | [], a, m, _, _ => by simp
  | x :: t, a, m, h, hs => by
    have hx := h x (by simp)
    rw [List.map_cons, List.sum_cons] at hs ⊢
    rw [List.foldl_cons, show addW (a, (m : Int)) x = (a, ((m + worthN x : Nat) : Int)) from ?_, fold_plain t a (m + worthN x) (fun y hy => h y (by simp [hy])) (by omega)]
    · congr 2; omega
    · unfold addW
      rw [if_neg hx.1, if_neg hx.2]
      simp only
      rw [wrapI_id _ (by omega) (by omega)]; congr 1
theorem fold100 (n : Nat) (h : n < 100) (a : Int) (m : Nat) (hm : m ≤ 1000) : (pc100 n).foldl addW (a, (m : Int)) = (a, ((m + n : Nat) : Int)) := by
  obtain ⟨h1, h2⟩ := pc100_ok n h
  rw [fold_plain _ a m h1 (by omega), h2]
theorem fold1000 (n : Nat) (h : n < 1000) (a : Int) : (pc1000 n).foldl addW (a, 0) = (a, (n : Int)) := by
  unfold pc1000
  by_cases h1 : n < 100
  · rw [if_pos h1]
    have := fold100 n h1 a 0 (by omega)
    simpa using this
  · rw [if_neg h1, List.foldl_append]
    have h2 : [smN (n / 100), hundredL].foldl addW (a, 0) = (a, ((100 * (n / 100) : Nat) : Int)) := by
      obtain ⟨e1, e2, e3⟩ := smN_worth (n / 100) (by omega)
      simp only [List.foldl_cons, List.foldl_nil]
      rw [show addW (a, 0) (smN (n / 100)) = (a, ((n / 100 : Nat) : Int)) from ?_]
      · unfold addW
        rw [if_neg (by decide), if_pos rfl]
        simp only
        rw [wrapI_id _ (by omega) (by omega)]; congr 1; omega
      · unfold addW
        rw [if_neg e2, if_neg e3, e1]
        simp only
        rw [wrapI_id _ (by omega) (by omega)]; congr 1; omega
    rw [h2]
    by_cases h3 : n % 100 = 0
    · rw [if_pos h3]
      simp only [List.foldl_nil]
      congr 2; omega
    · rw [if_neg h3, fold100 (n % 100) (by omega) a _ (by omega)]
      congr 2; omega
theorem foldN (n : Nat) (h : n < 1000000) : (pcN n).foldl addW (0, 0) = (((n - n % 1000 : Nat) : Int) * (if n < 1000 then 0 else 1), ((n % 1000 : Nat) : Int)) := by
  unfold pcN
  by_cases h1 : n < 1000
  · rw [if_pos h1, if_pos h1, fold1000 n h1, Nat.mod_eq_of_lt h1]; simp
  · rw [if_neg h1, if_neg h1, List.foldl_append, List.foldl_append, fold1000 (n / 1000) (by omega)]
    rw [show [thousandL].foldl addW ((0 : Int), ((n / 1000 : Nat) : Int)) = (((n - n % 1000 : Nat) : Int) * 1, 0) from ?_]
    · by_cases h3 : n % 1000 = 0
      · rw [if_pos h3, h3]; rfl
      · rw [if_neg h3, fold1000 (n % 1000) (by omega)]
    · simp only [List.foldl_cons, List.foldl_nil]
      unfold addW
      rw [if_pos rfl]
      simp only
      rw [wrapI_id _ (by omega) (by omega)]; congr 1; omega
/-- The words of a name make its number. -/
theorem add_pcN (n : Nat) (h : n < 1000000) : wrapI (((pcN n).foldl addW (0, 0)).1 + ((pcN n).foldl addW (0, 0)).2) = (n : Int) := by
  rw [foldN n h]
  by_cases h1 : n < 1000
  · rw [if_pos h1]; simp only; rw [wrapI_id _ (by omega) (by omega)]; omega
  · rw [if_neg h1]; simp only; rw [wrapI_id _ (by omega) (by omega)]; omega
/-- A text cut at blanks and '-', without empty parts. -/
def cutG : List UInt8 → List UInt8 → List (List UInt8)
  | [], cur => if cur = [] then [] else [cur]
  | c :: t, cur => if c = 32 ∨ c = 45 then (if cur = [] then cutG t [] else cur :: cutG t []) else cutG t (cur ++ [c])
theorem cutG_word : ∀ (x t cur : List UInt8), (∀ c ∈ x, c ≠ 32 ∧ c ≠ 45) → cutG (x ++ t) cur = cutG t (cur ++ x)
  | [], t, cur, _ => by simp
  | c :: x, t, cur, h => by
    have hc := h c (by simp)
    rw [List.cons_append, cutG, if_neg (by simp [hc]), cutG_word x t (cur ++ [c]) (fun y hy => h y (by simp [hy]))]
    simp
/-- Texts whose cutting is known, whatever follows behind a sign that cuts. -/
def Cuts (x : List UInt8) (ps : List (List UInt8)) : Prop := cutG x [] = ps ∧ ∀ (c : UInt8) (t : List UInt8), c = 32 ∨ c = 45 → cutG (x ++ c :: t) [] = ps ++ cutG t []
theorem cuts_one (x : List UInt8) (hx : x ≠ []) (h : ∀ c ∈ x, c ≠ 32 ∧ c ≠ 45) : Cuts x [x] := by
  refine ⟨?_, fun c t hc => ?_⟩
  · have := cutG_word x [] [] h
    rw [List.append_nil] at this
    rw [this]; simp [cutG, hx]
  · rw [cutG_word x _ [] h, List.nil_append, cutG, if_pos hc, if_neg hx]; rfl
theorem cuts_two {x y : List UInt8} {ps qs : List (List UInt8)} (c : UInt8) (hc : c = 32 ∨ c = 45) (h1 : Cuts x ps) (h2 : Cuts y qs) : Cuts (x ++ [c] ++ y) (ps ++ qs) := by
  refine ⟨?_, fun d t hd => ?_⟩
  · rw [List.append_assoc, List.singleton_append, h1.2 c y hc, h2.1]
  · rw [List.append_assoc, List.append_assoc, List.singleton_append, h1.2 c _ hc, h2.2 d t hd, List.append_assoc]
def plainB (x : List UInt8) : Bool := !x.isEmpty && x.all (fun c => c != 32 && c != 45)
theorem cuts_plain {x : List UInt8} (h : plainB x = true) : Cuts x [x] := by
  unfold plainB at h
  simp only [Bool.and_eq_true, List.all_eq_true] at h
  refine cuts_one x (by intro e; subst e; simp at h) (fun c hc => ?_)
  have := h.2 c hc
  simpa using this
theorem smN_plain : ∀ n, n < 20 → plainB (smN n) = true := by decide +kernel
theorem tnN_plain : ∀ n, n < 10 → 2 ≤ n → plainB (tnN n) = true := by decide +kernel
theorem cuts100 (n : Nat) (h : n < 100) : Cuts (wd100 n) (pc100 n) := by
  unfold wd100 pc100
  split
  · rename_i h1; exact cuts_plain (smN_plain n h1)
  · split
    · exact cuts_plain (tnN_plain _ (by omega) (by omega))
    · exact cuts_two (ps := [tnN (n / 10)]) (qs := [smN (n % 10)]) 45 (.inr rfl) (cuts_plain (tnN_plain _ (by omega) (by omega))) (cuts_plain (smN_plain _ (by omega)))
theorem cuts1000 (n : Nat) (h : n < 1000) : Cuts (nm1000 n) (pc1000 n) := by
  unfold nm1000 pc1000
  split
  · rename_i h1; exact cuts100 n h1
  · have h1 : Cuts (smN (n / 100) ++ [32] ++ hundredL) [smN (n / 100), hundredL] := cuts_two (ps := [smN (n / 100)]) (qs := [hundredL]) 32 (.inl rfl) (cuts_plain (smN_plain _ (by omega))) (cuts_plain rfl)
    split
    · simpa using h1
    · rw [← List.append_assoc]
      exact cuts_two 32 (.inl rfl) h1 (cuts100 _ (by omega))
theorem cutsN (n : Nat) (h : n < 1000000) : Cuts (nmN n) (pcN n) := by
  unfold nmN pcN
  split
  · rename_i h1; exact cuts1000 n h1
  · have h1 : Cuts (nm1000 (n / 1000) ++ [32] ++ thousandL) (pc1000 (n / 1000) ++ [thousandL]) := cuts_two 32 (.inl rfl) (cuts1000 _ (by omega)) (cuts_plain rfl)
    split
    · simpa using h1
    · rw [← List.append_assoc]
      exact cuts_two 32 (.inl rfl) h1 (cuts1000 _ (by omega))
/-- The parts of a name make its number: so no two numbers have one name. -/
theorem add_name (n : Nat) (h : n < 1000000) : wrapI (((cutG (nmN n) []).foldl addW (0, 0)).1 + ((cutG (nmN n) []).foldl addW (0, 0)).2) = (n : Int) := by
  rw [(cutsN n h).1]; exact add_pcN n h
theorem nmN_inj {n m : Nat} (hn : n < 1000000) (hm : m < 1000000) (h : nmN n = nmN m) : n = m := by
  have h1 := add_name n hn
  rw [h, add_name m hm] at h1
  omega
theorem nmN_ascii (n : Nat) (h : n < 1000000) : ∀ c ∈ nmN n, c.toNat < 128 := by
  have hw : ∀ ns : List (List UInt8), (∀ x ∈ ns, wordB x = true) → ∀ c ∈ joinS ns, c.toNat < 128 := by
    intro ns
    induction ns with
    | nil => intro _ c hc; simp [joinS] at hc
    | cons a t ih =>
      intro hx c hc
      have ha := hx a (by simp)
      have hA : ∀ c ∈ a, c.toNat < 128 := by
        intro c hc
        unfold wordB at ha
        simp only [Bool.and_eq_true, List.all_eq_true] at ha
        have := ha.2 c hc
        simp only [Bool.or_eq_true, azB, decide_eq_true_eq, beq_iff_eq] at this
        rcases this with h | h
        · omega
        · subst h; decide
      cases t with
      | nil => exact hA c (by simpa [joinS] using hc)
      | cons b t =>
        simp only [joinS, List.mem_append, List.mem_cons, List.not_mem_nil, or_false] at hc
        rcases hc with (hc | rfl) | hc
        · exact hA c hc
        · decide
        · exact ih (fun x h => hx x (by simp [h])) c hc
  rw [← joinN]
  exact hw _ (wdsN_word n h)
end Go.Proofs.YtlcbdmmmafpchaaDoor

/- Chapter 8 (pure): texts cut at one byte; names read by the model. -/
namespace Go.Proofs.YtlcbdmmmafpchaaDoor
open Go.RowKit
set_option linter.unusedSimpArgs false
set_option linter.unusedVariables false
set_option maxRecDepth 4000

/-- A text cut at each c. -/
def splitL (c : UInt8) : List UInt8 → List (List UInt8)
  | [] => [[]]
  | a :: t => if a = c then [] :: splitL c t else match splitL c t with
    | h :: r => (a :: h) :: r
    | [] => [[a]]
theorem splitL_ne (c : UInt8) : ∀ l, splitL c l ≠ []
  | [] => by simp [splitL]
  | a :: t => by
    rw [splitL]
    split
    · simp
    · split <;> simp
theorem splitL_not {c : UInt8} : ∀ {l : List UInt8}, c ∉ l → splitL c l = [l]
  | [], _ => rfl
  | a :: t, h => by
    have h1 : ¬ a = c := fun e => h (by simp [e])
    have h2 : c ∉ t := fun e => h (by simp [e])
    rw [splitL, if_neg h1, splitL_not h2]
theorem splitL_one {c : UInt8} : ∀ {l b : List UInt8}, splitL c l = [b] → c ∉ l ∧ b = l
  | [], b, h => by simp [splitL] at h; exact ⟨by simp, h⟩
  | a :: t, b, h => by
    rw [splitL] at h
    by_cases h1 : a = c
    · rw [if_pos h1] at h
      have := splitL_ne c t
      simp at h
      exact absurd h.2 this
    · rw [if_neg h1] at h
      cases hs : splitL c t with
      | nil => exact absurd hs (splitL_ne c t)
      | cons x r =>
        rw [hs] at h
        simp at h
        obtain ⟨i1, i2⟩ := splitL_one (l := t) (b := x) (by rw [hs, h.2])
        refine ⟨fun e => ?_, by rw [← h.1, i2]⟩
        rcases List.mem_cons.1 e with e | e
        · exact h1 e.symm
        · exact i1 e
/-- The first c. -/
theorem splitL_at {c : UInt8} : ∀ {l : List UInt8} (k : Nat) (hk : k < l.length), l[k] = c → (∀ j (hj : j < l.length), j < k → l[j] ≠ c) → splitL c l = l.take k :: splitL c (l.drop (k + 1))
  | [], k, hk, _, _ => by simp at hk
  | a :: t, 0, _, h, _ => by
    simp at h
    rw [splitL, if_pos h]; simp
  | a :: t, k + 1, hk, h, hn => by
    have h0 : ¬ a = c := hn 0 (by simp) (by omega)
    have ih := splitL_at (c := c) (l := t) k (by simpa using hk) (by simpa using h) (fun j hj hjk => hn (j + 1) (by simpa using hj) (by omega))
    rw [splitL, if_neg h0, ih]
    simp
theorem splitL_len (c : UInt8) : ∀ l, (splitL c l).length = l.count c + 1
  | [] => rfl
  | a :: t => by
    have ih := splitL_len c t
    rw [splitL]
    by_cases e : a = c
    · rw [if_pos e, List.length_cons, ih, e, List.count_cons_self]
    · rw [if_neg e, List.count_cons_of_ne (fun x => e x)]
      cases hs : splitL c t with
      | nil => exact absurd hs (splitL_ne c t)
      | cons x r => rw [hs] at ih; simpa using ih

theorem joinS_cons (x : List UInt8) (r : List (List UInt8)) (h : r ≠ []) : joinS (x :: r) = x ++ [32] ++ joinS r := by
  cases r with
  | nil => exact absurd rfl h
  | cons a t => rfl
theorem join_split : ∀ s : List UInt8, joinS (splitL 32 s) = s
  | [] => rfl
  | a :: t => by
    have ih := join_split t
    rw [splitL]
    by_cases h : a = 32
    · rw [if_pos h, joinS_cons _ _ (splitL_ne 32 t), ih, h]; rfl
    · rw [if_neg h]
      cases hs : splitL 32 t with
      | nil => exact absurd hs (splitL_ne 32 t)
      | cons x r =>
        rw [hs] at ih
        cases r with
        | nil => simp only [joinS] at ih ⊢; rw [ih]
        | cons y r' => simp only [joinS] at ih ⊢; rw [← ih]; simp
theorem split_word (x t : List UInt8) (hx : (32 : UInt8) ∉ x) : splitL 32 (x ++ 32 :: t) = x :: splitL 32 t := by
  induction x with
  | nil => simp [splitL]
  | cons a x ih =>
    have h1 : ¬ a = 32 := fun e => hx (by simp [e])
    rw [List.cons_append, splitL, if_neg h1, ih (fun h => hx (by simp [h]))]
theorem split_join : ∀ ws : List (List UInt8), ws ≠ [] → (∀ x ∈ ws, (32 : UInt8) ∉ x) → splitL 32 (joinS ws) = ws
  | [], h, _ => absurd rfl h
  | [a], _, h => splitL_not (h a (by simp))
  | a :: b :: t, _, h => by
    have ih := split_join (b :: t) (by simp) (fun x hx => h x (by simp at hx ⊢; right; exact hx))
    rw [joinS_cons _ _ (by simp), List.append_assoc, List.singleton_append, split_word a _ (h a (by simp)), ih]
theorem word_no32 {x : List UInt8} (h : wordB x = true) : (32 : UInt8) ∉ x := by
  intro hm
  unfold wordB at h
  simp only [Bool.and_eq_true, List.all_eq_true] at h
  have := h.2 32 hm
  revert this; decide
theorem split_name (n : Nat) (h : n < 1000000) : splitL 32 (nmN n) = wdsN n := by
  rw [← joinN, split_join _ (wdsN_ne n) (fun x hx => word_no32 (wdsN_word n h x hx))]

/-- The number below 1000 with a name. -/
def hundF (s : List UInt8) : Int := match (List.range 1000).find? (fun n => nm1000 n = s) with
  | some n => (n : Int)
  | none => -1
theorem nmN_small {n : Nat} (h : n < 1000) : nmN n = nm1000 n := by unfold nmN; rw [if_pos h]
theorem hundF_name (n : Nat) (h : n < 1000) : hundF (nm1000 n) = (n : Int) := by
  unfold hundF
  cases hf : (List.range 1000).find? (fun m => nm1000 m = nm1000 n) with
  | none =>
    have := List.find?_eq_none.1 hf n (List.mem_range.2 h)
    simp at this
  | some m =>
    have h1 := List.find?_some hf
    have h2 := List.mem_range.1 (List.mem_of_find?_eq_some hf)
    have h3 : nm1000 m = nm1000 n := by simpa using h1
    have := nmN_inj (n := m) (m := n) (by omega) (by omega) (by rw [nmN_small h2, nmN_small h, h3])
    rw [this]
theorem hundF_some {s : List UInt8} (h : 0 ≤ hundF s) : ∃ n : Nat, n < 1000 ∧ nm1000 n = s ∧ hundF s = (n : Int) := by
  unfold hundF at h ⊢
  cases hf : (List.range 1000).find? (fun m => nm1000 m = s) with
  | none => rw [hf] at h; simp at h
  | some m => exact ⟨m, List.mem_range.1 (List.mem_of_find?_eq_some hf), by simpa using List.find?_some hf, rfl⟩
theorem hundF_le (s : List UInt8) : -1 ≤ hundF s ∧ hundF s < 1000 := by
  by_cases h : 0 ≤ hundF s
  · obtain ⟨n, h1, _, h3⟩ := hundF_some h; omega
  · unfold hundF at h ⊢
    cases hf : (List.range 1000).find? (fun m => nm1000 m = s) with
    | none => simp
    | some m => rw [hf] at h; simp at h
/-- Words behind the first i, none of the first i 'thousand': what the model makes of them. -/
def readW (ws : List (List UInt8)) : Nat → Int
  | 0 => hundF (joinS ws)
  | k + 1 =>
    let i := ws.length - (k + 1)
    if ws.getD i [] = thousandL then
      let hi := hundF (joinS (ws.take i))
      let lo := if i + 1 < ws.length then hundF (joinS (ws.drop (i + 1))) else 0
      if i + 1 < ws.length ∧ lo = 0 then -1 else if hi < 1 ∨ lo < 0 then -1 else 1000 * hi + lo
    else readW ws k
def readZ (s : List UInt8) : Int := if 120 < s.length then -1 else readW (splitL 32 s) (splitL 32 s).length
theorem take_drop_join (ws : List (List UInt8)) (i : Nat) (hi : i < ws.length) (h : ws.getD i [] = thousandL) (hne : ws.take i ≠ []) :
    joinS ws = joinS (ws.take i) ++ [32] ++ thousandL ++ (if i + 1 < ws.length then [32] ++ joinS (ws.drop (i + 1)) else []) := by
  have e : ws = ws.take i ++ (thousandL :: ws.drop (i + 1)) := by
    conv => lhs; rw [← List.take_append_drop i ws, List.drop_eq_getElem_cons hi]
    rw [← h]; simp [List.getD, hi]
  conv => lhs; rw [e]
  rw [joinS_append _ _ hne (by simp)]
  by_cases h2 : i + 1 < ws.length
  · rw [if_pos h2, joinS_cons _ _ (by intro e; have := congrArg List.length e; simp at this; omega)]; simp
  · rw [if_neg h2, List.drop_of_length_le (by omega)]; simp [joinS]
theorem nm1000_ne (n : Nat) (h : n < 1000) : nm1000 n ≠ [] := by
  intro e
  have h1 := split_name n (by omega)
  rw [nmN_small h, e] at h1
  have h2 := wdsN_word n (by omega) [] (by rw [← h1]; decide)
  revert h2; decide
theorem readW_sound (ws : List (List UInt8)) : ∀ k, k ≤ ws.length → 0 ≤ readW ws k → ∃ m : Nat, m < 1000000 ∧ readW ws k = (m : Int) ∧ nmN m = joinS ws
  | 0, _, h => by
    obtain ⟨n, h1, h2, h3⟩ := hundF_some (show 0 ≤ hundF (joinS ws) from h)
    exact ⟨n, by omega, h3, by rw [nmN_small h1, h2]⟩
  | k + 1, hk, h => by
    unfold readW at h ⊢
    simp only at h ⊢
    by_cases ht : ws.getD (ws.length - (k + 1)) [] = thousandL
    · rw [if_pos ht] at h ⊢
      obtain ⟨i, hi⟩ : ∃ i, i = ws.length - (k + 1) := ⟨_, rfl⟩
      rw [← hi] at h ht ⊢
      have hil : i < ws.length := by omega
      obtain ⟨lo, hlo⟩ : ∃ lo : Int, lo = if i + 1 < ws.length then hundF (joinS (ws.drop (i + 1))) else 0 := ⟨_, rfl⟩
      rw [← hlo] at h ⊢
      by_cases h1 : i + 1 < ws.length ∧ lo = 0
      · rw [if_pos h1] at h; omega
      · rw [if_neg h1] at h ⊢
        by_cases h2 : hundF (joinS (ws.take i)) < 1 ∨ lo < 0
        · rw [if_pos h2] at h; omega
        · rw [if_neg h2] at h ⊢
          have h3 : 1 ≤ hundF (joinS (ws.take i)) := by omega
          obtain ⟨a, a1, a2, a3⟩ := hundF_some (show 0 ≤ hundF (joinS (ws.take i)) by omega)
          have hne : ws.take i ≠ [] := by intro e; rw [e] at a2; exact nm1000_ne a a1 a2
          have hj := take_drop_join ws i hil ht hne
          by_cases h4 : i + 1 < ws.length
          · rw [if_pos h4] at hlo hj
            obtain ⟨b, b1, b2, b3⟩ := hundF_some (show 0 ≤ hundF (joinS (ws.drop (i + 1))) by omega)
            have hb0 : b ≠ 0 := fun e => h1 ⟨h4, by rw [hlo, b3, e]; rfl⟩
            refine ⟨1000 * a + b, by omega, by rw [a3, hlo, b3]; omega, ?_⟩
            unfold nmN
            rw [if_neg (by omega), show (1000 * a + b) / 1000 = a by omega, show (1000 * a + b) % 1000 = b by omega, if_neg hb0, a2, b2, hj]
          · rw [if_neg h4] at hlo hj
            refine ⟨1000 * a, by omega, by rw [a3, hlo]; omega, ?_⟩
            unfold nmN
            rw [if_neg (by omega), show (1000 * a) / 1000 = a by omega, show (1000 * a) % 1000 = 0 by omega, if_pos rfl, a2, hj]
    · rw [if_neg ht] at h ⊢
      exact readW_sound ws k (by omega) h
theorem readW_skip (ws : List (List UInt8)) (i : Nat) (h : ∀ j, j < i → ws.getD j [] ≠ thousandL) (hi : i ≤ ws.length) : readW ws ws.length = readW ws (ws.length - i) := by
  induction i with
  | zero => rfl
  | succ i ih =>
    rw [ih (fun j hj => h j (by omega)) (by omega)]
    obtain ⟨k, hk⟩ : ∃ k, ws.length - i = k + 1 := ⟨ws.length - i - 1, by omega⟩
    rw [hk, show ws.length - (i + 1) = k by omega]
    conv => lhs; unfold readW
    simp only
    rw [if_neg (by rw [show ws.length - (k + 1) = i by omega]; exact h i (by omega))]
theorem wd1000_not (n : Nat) (h : n < 1000) : ∀ x ∈ wd1000 n, x ≠ thousandL := by
  intro x hx e
  have key : ∀ n, n < 100 → wd100 n ≠ thousandL := by decide +kernel
  unfold wd1000 at hx
  split at hx
  · simp at hx; subst hx; exact key n (by omega) e
  · simp only [List.mem_append, List.mem_cons, List.not_mem_nil, or_false] at hx
    rcases hx with (rfl | rfl) | hx
    · exact (smN_worth _ (by omega)).2.1 e
    · revert e; decide
    · split at hx
      · simp at hx
      · simp at hx; subst hx; exact key _ (by omega) e
theorem readZ_name (m : Nat) (h : m < 1000000) : readZ (nmN m) = (m : Int) := by
  unfold readZ
  have hl := nmN_len m h
  rw [if_neg (by omega), split_name m h]
  by_cases h1 : m < 1000
  · have hw : wdsN m = wd1000 m := by unfold wdsN; rw [if_pos h1]
    rw [hw]
    have hn := wd1000_not m h1
    rw [readW_skip (wd1000 m) (wd1000 m).length (fun j hj => by
      rw [show (wd1000 m).getD j [] = (wd1000 m)[j] from by simp [List.getD, hj]]
      exact hn _ (List.getElem_mem hj)) (Nat.le_refl _), Nat.sub_self]
    show hundF (joinS (wd1000 m)) = _
    rw [join1000, hundF_name m h1]
  · obtain ⟨A, hA⟩ : ∃ A, A = wd1000 (m / 1000) := ⟨_, rfl⟩
    obtain ⟨R, hR⟩ : ∃ R, R = (if m % 1000 = 0 then [] else wd1000 (m % 1000)) := ⟨_, rfl⟩
    have hw : wdsN m = A ++ thousandL :: R := by unfold wdsN; rw [if_neg h1, ← hA, ← hR]; simp
    have hn := wd1000_not (m / 1000) (by omega)
    rw [← hA] at hn
    rw [hw]
    obtain ⟨W, hW⟩ : ∃ W, W = A ++ thousandL :: R := ⟨_, rfl⟩
    have hlen : W.length = A.length + 1 + R.length := by rw [hW]; simp; omega
    rw [← hW, readW_skip W A.length (fun j hj => by
      rw [hW, show (A ++ thousandL :: R).getD j [] = A[j] from by simp [List.getD, List.getElem?_append_left hj, hj]]
      exact hn _ (List.getElem_mem hj)) (by omega)]
    obtain ⟨k, hk⟩ : ∃ k, W.length - A.length = k + 1 := ⟨R.length, by omega⟩
    rw [hk]
    unfold readW
    simp only
    rw [show W.length - (k + 1) = A.length by omega, if_pos (by rw [hW]; simp [List.getD])]
    have ht : W.take A.length = A := by rw [hW]; simp
    have hd : W.drop (A.length + 1) = R := by rw [hW, List.drop_append]; simp
    rw [ht, hd, hA, join1000, hundF_name _ (by omega)]
    by_cases h0 : m % 1000 = 0
    · have : R = [] := by rw [hR, if_pos h0]
      rw [if_neg (show ¬ (wd1000 (m / 1000)).length + 1 < W.length by rw [hlen, this, hA]; simp)]
      rw [if_neg (by intro e; rw [← hA] at e; rw [hlen, this] at e; simp at e), if_neg (by omega)]
      omega
    · have hr : R = wd1000 (m % 1000) := by rw [hR, if_neg h0]
      have hrl : 0 < R.length := by
        rw [hr]; exact List.length_pos_iff.2 (wd1000_ne _)
      have hc : (wd1000 (m / 1000)).length + 1 < W.length := by rw [hlen, hA]; omega
      rw [if_pos hc, hr, join1000, hundF_name _ (by omega), if_neg (by omega), if_neg (by omega)]
      omega
/-- The number with a name, if there is one. -/
def readO (s : List UInt8) : Option Nat := if 0 ≤ readZ s then some (readZ s).toNat else none
theorem readO_iff (s : List UInt8) (m : Nat) : readO s = some m ↔ (m < 1000000 ∧ nmN m = s) := by
  unfold readO
  constructor
  · intro h
    split at h
    · rename_i h0
      simp at h
      unfold readZ at h0 h
      by_cases hl : 120 < s.length
      · rw [if_pos hl] at h0; omega
      · rw [if_neg hl] at h0 h
        obtain ⟨m', e1, e2, e3⟩ := readW_sound _ _ (Nat.le_refl _) h0
        rw [e2] at h
        simp at h
        subst h
        exact ⟨e1, by rw [e3, join_split]⟩
    · cases h
  · rintro ⟨h1, rfl⟩
    rw [readZ_name m h1, if_pos (by omega)]
    simp
end Go.Proofs.YtlcbdmmmafpchaaDoor

/- Chapter 8: what the two tables of names hold, as the rows list them; the facts that the walks take. -/
namespace Go.Proofs.YtlcbdmmmafpchaaDoor
open Go.RowKit Go.ChangeShapes
set_option linter.unusedSimpArgs false
set_option linter.unusedVariables false
set_option maxRecDepth 4000

/-- An array of texts that reads as told holds them. -/
theorem strs_laid {W : World} {name : String} {g : Nat} {t : TypeId} {n : Nat} {ls : List (List UInt8)} (hg : Tryd.prog.globalNamed name = some g) (hty : (Tryd.prog.globals[g]?).map (·.type) = some t) (ht : Tryd.prog.underlying t = some (.array n 9))
    (h : Go.Lib.VarReads Tryd.prog W name (.agg (ls.map fun l => .lit (.string l)))) (hn : ls.length = n) : ∀ i (hi : i < ls.length), W.cell? ⟨g, i, none⟩ = some (.string (bs ls[i])) := by
  have hc : Tryd.prog.cellsOf 9 = 1 := by kernel_rfl
  obtain ⟨g', t', cs, fuel, p, hg', hty', hv, hd⟩ := h
  obtain rfl := Option.some.inj (hg.symm.trans hg')
  obtain rfl := Option.some.inj (hty.symm.trans hty')
  intro i hi
  obtain ⟨f', d, q, e1, e2⟩ := Go.Lib.array_elem ht hd i (by omega)
  rw [hc, Nat.mul_one] at e2
  obtain ⟨s, e3, e4, _⟩ := DataW.trod_string Tryd.underlying9 e2
  have hd2 : d = .lit (.string s.data.toList) := congrArg Prod.fst e4
  rw [List.getElem?_map, List.getElem?_eq_getElem hi, Option.map_some, Option.some.injEq] at e1
  rw [hd2] at e1
  have hs : s = bs ls[i] := bs_eq (by injection e1 with e1; injection e1 with e1; exact e1.symm)
  have := World.var?_cell hg hv i
  rw [this]
  have h0 : cs.toList[i]? = some (.string s) := by
    have h1 := congrArg (·[0]?) e3
    simpa [List.getElem?_take, List.getElem?_drop] using h1
  rw [← Array.getElem?_toList, h0, hs]

/-- What the walks ask of the world: the two tables, and a number in internal/bytealg.MaxLen. -/
structure NamesAt (w : World) : Prop where
  small : ∀ i, i < 20 → w.cell? ⟨0, i, none⟩ = some (.string (bs (smN i)))
  tens : ∀ k, 2 ≤ k → k < 10 → w.cell? ⟨1, k - 2, none⟩ = some (.string (bs (tnN k)))
  maxl : ∃ m, w.cell? ⟨2, 0, none⟩ = some (.int .i64 m)
theorem NamesAt.lts {w : World} (h : NamesAt w) : 0 < w.heap.size := World.block_lt_of_cell? w _ (h.small 0 (by decide))
theorem NamesAt.ltt {w : World} (h : NamesAt w) : 1 < w.heap.size := World.block_lt_of_cell? w _ (h.tens 2 (by decide) (by decide))
theorem NamesAt.below {w w' : World} (h : NamesAt w) (hb : Below w.heap.size w w') : NamesAt w' :=
  let ⟨m, hm⟩ := h.maxl
  ⟨fun i hi => (hb.cell (p := ⟨0, i, none⟩) h.lts).trans (h.small i hi), fun k h2 h10 => (hb.cell (p := ⟨1, k - 2, none⟩) h.ltt).trans (h.tens k h2 h10), m, (hb.cell (p := ⟨2, 0, none⟩) (World.block_lt_of_cell? w _ hm)).trans hm⟩
theorem NamesAt.cells {w w' : World} (h : NamesAt w) (hc : ∀ a, w'.cell? a = w.cell? a) : NamesAt w' :=
  let ⟨m, hm⟩ := h.maxl
  ⟨fun i hi => (hc _).trans (h.small i hi), fun k h2 h10 => (hc _).trans (h.tens k h2 h10), m, (hc _).trans hm⟩
theorem g_small : Tryd.prog.globalNamed "loop.example/g01240/impl.smallNames" = some 0 := by kernel_rfl
theorem g_tens : Tryd.prog.globalNamed "loop.example/g01240/impl.tensNames" = some 1 := by kernel_rfl
theorem ty_small : (Tryd.prog.globals[(0 : Nat)]?).map (·.type) = some 92 := by kernel_rfl
theorem ty_tens : (Tryd.prog.globals[(1 : Nat)]?).map (·.type) = some 102 := by kernel_rfl
theorem d_small : (Rows.laid_loop_example_g01240_impl_smallNames : DataW Unit) = .agg (smT.map fun l => .lit (.string l)) := rfl
theorem d_tens : (Rows.laid_loop_example_g01240_impl_tensNames : DataW Unit) = .agg (tnT.map fun l => .lit (.string l)) := rfl
theorem names_of_reads {W : World} (h1 : Go.Lib.VarReads Tryd.prog W "loop.example/g01240/impl.smallNames" Rows.laid_loop_example_g01240_impl_smallNames) (h2 : Go.Lib.VarReads Tryd.prog W "loop.example/g01240/impl.tensNames" Rows.laid_loop_example_g01240_impl_tensNames) (hsh : W.ShapedOpen Tryd.prog) : NamesAt W := by
  rw [d_small] at h1
  rw [d_tens] at h2
  have a := strs_laid g_small ty_small Tryd.underlying92 h1 rfl
  have b := strs_laid g_tens ty_tens Tryd.underlying102 h2 rfl
  refine ⟨fun i hi => ?_, fun k hk h10 => ?_, cell_of_shapedOpen_int (P := Tryd.prog) (g := 2) (t := 3) (zero := #[.int .i64 0]) (k := .i64) hsh (of_decide_eq_true (by kernel_rfl)) (by kernel_rfl) rfl (by kernel_rfl) (by kernel_rfl) Tryd.underlying3⟩
  · have := a i hi
    rw [this]; unfold smN
    rw [show smT.getD i [] = smT[i]'hi from by rw [List.getD, List.getElem?_eq_getElem (show i < smT.length from hi)]; rfl]
  · have hk' : k - 2 < tnT.length := by show k - 2 < 8; omega
    have := b (k - 2) hk'
    rw [this]; unfold tnN
    rw [show tnT.getD (k - 2) [] = tnT[k - 2]'hk' from by simp [List.getD, hk']]
theorem names_of_laid {W : World} (h : laidMetH Tryd.prog [("loop.example/g01240/impl.smallNames", Rows.laid_loop_example_g01240_impl_smallNames), ("loop.example/g01240/impl.tensNames", Rows.laid_loop_example_g01240_impl_tensNames)] W) (hsh : W.ShapedOpen Tryd.prog) : NamesAt W := by
  rw [MakeChecks.laidMetH_plain _ _ _ (by kernel_rfl)] at h
  exact names_of_reads (Go.Lib.laidMet.reads h (by simp)) (Go.Lib.laidMet.reads h (by simp)) hsh
theorem names_of_laidP {W : World} (h : laidMetH Tryd.prog [("unicode/utf8.acceptRanges", Rows.laid_unicode_utf8_acceptRanges), ("loop.example/g01240/impl.smallNames", Rows.laid_loop_example_g01240_impl_smallNames), ("loop.example/g01240/impl.tensNames", Rows.laid_loop_example_g01240_impl_tensNames), ("unicode/utf8.first", Rows.laid_unicode_utf8_first)] W) (hsh : W.ShapedOpen Tryd.prog) : NamesAt W := by
  rw [MakeChecks.laidMetH_plain _ _ _ (by kernel_rfl)] at h
  exact names_of_reads (Go.Lib.laidMet.reads h (by simp)) (Go.Lib.laidMet.reads h (by simp)) hsh
end Go.Proofs.YtlcbdmmmafpchaaDoor

/- The laws' own helpers on rows of numbers: equal rows are found equal; marks are laid and found again. -/
namespace Go.Proofs.YtlcbdmmmafpchaaDoor
open Go.RowKit Go.BigFrame
set_option linter.unusedSimpArgs false
set_option linter.unusedVariables false
set_option maxRecDepth 4000

abbrev iv (n : Int) : Value := .int .i64 n
/-- A slice value owns a row of numbers. -/
def Ints (w : World) (B : Nat) (v : Value) (xs : List Int) : Prop := w.ownsRow B 3 1 v xs.length (xs.map (.int .i64))
theorem ints_open {w : World} {B : Nat} {v : Value} {xs : List Int} (h : Ints w B v xs) : (v = .slice none 0 0 ∧ xs = []) ∨
    ∃ g cap, v = .slice (some ⟨g, 0, none⟩) xs.length cap ∧ B ≤ g ∧ g < w.heap.size ∧ xs.length ≤ 9223372036854775807 ∧ cap ≤ 9223372036854775807 ∧
      (∀ i (hi : i < xs.length), w.cell? ⟨g, i, none⟩ = some (.int .i64 xs[i])) ∧ (∀ i, w.frozen? ⟨g, i, none⟩ = false) := by
  rcases own_open h with ⟨rfl, h2, h3⟩ | ⟨g, cap, rfl, h1, h2, h3, h4, _, h5, h6⟩
  · exact .inl ⟨rfl, List.eq_nil_of_length_eq_zero h2⟩
  · unfold maxLen at h4
    exact .inr ⟨g, cap, rfl, h1, h2, by omega, by omega, fun i hi => by have := h5 i (by simpa using hi); simpa using this, h6⟩

/-- Rows of numbers. -/
def IntsRR (w : World) (B : Nat) (v : Value) (vs : List Value) (nss : List (List Int)) : Prop := OwnsRR w B 29 3 v vs (nss.map (·.map (.int .i64)))
theorem intsRR_row {w : World} {B : Nat} {v : Value} {vs : List Value} {nss : List (List Int)} (h : IntsRR w B v vs nss) (k : Nat) (hk : k < nss.length) : ∃ u, vs[k]? = some u ∧ Ints w B u nss[k] := by
  obtain ⟨u, xs, e1, e2, e3⟩ := ownsRR_row h k (by rw [← h.len]; simpa using hk)
  refine ⟨u, e1, ?_⟩
  rw [List.getElem?_map, List.getElem?_eq_getElem hk] at e2
  simp at e2
  subst e2
  unfold Ints
  simpa using e3
theorem intsRR_open {w : World} {B : Nat} {v : Value} {vs : List Value} {nss : List (List Int)} (h : IntsRR w B v vs nss) : (v = .slice none 0 0 ∧ nss = []) ∨
    ∃ g cap, v = .slice (some ⟨g, 0, none⟩) nss.length cap ∧ nss.length ≤ 9223372036854775807 ∧ cap ≤ 9223372036854775807 ∧ g < w.heap.size ∧ B ≤ g ∧
      (∀ k (hk : k < nss.length), ∃ u, vs[k]? = some u ∧ Ints w B u nss[k] ∧ w.cell? ⟨g, k, none⟩ = some u) := by
  rcases ownsRR_open h with ⟨h1, h2, h3⟩ | ⟨g, cap, h1, h2, h3, h4, h5, h6⟩
  · exact .inl ⟨h1, by simpa using h3⟩
  · unfold maxLen at h3
    refine .inr ⟨g, cap, by simpa using h1, by simp at h2; omega, by omega, h5, h4, fun k hk => ?_⟩
    obtain ⟨u, e1, e2⟩ := intsRR_row h k hk
    exact ⟨u, e1, e2, h6 k (by simpa using hk) u e1⟩

end Go.Proofs.YtlcbdmmmafpchaaDoor

/- Marks: a row of numbers is overwritten with counted marks, and they are found again. -/
namespace Go.Proofs.YtlcbdmmmafpchaaDoor
open Go.RowKit Go.BigFrame
set_option linter.unusedSimpArgs false
set_option linter.unusedVariables false
set_option maxRecDepth 4000

def markI (k n : Nat) : List Int := (List.range n).map (fun i => ((k + i : Nat) : Int))
theorem markI_len (k n : Nat) : (markI k n).length = n := by simp [markI]
theorem markI_succ (k n : Nat) : markI k (n + 1) = markI k n ++ [((k + n : Nat) : Int)] := by simp [markI, List.range_succ]
theorem markI_get (k n i : Nat) (h : i < n) : (markI k n)[i]'(by rw [markI_len]; exact h) = ((k + i : Nat) : Int) := by simp [markI]
def markSS : Nat → List (List Int) → List (List Int)
  | _, [] => []
  | k, xs :: r => markI k xs.length :: markSS (k + xs.length) r
def totalSS (nss : List (List Int)) : Nat := (nss.map List.length).sum
theorem markSS_len : ∀ (k : Nat) (nss : List (List Int)), (markSS k nss).length = nss.length
  | _, [] => rfl
  | k, xs :: r => by simp [markSS, markSS_len (k + xs.length) r]
theorem totalSS_take (nss : List (List Int)) (i : Nat) (h : i < nss.length) : totalSS (nss.take (i + 1)) = totalSS (nss.take i) + nss[i].length := by
  rw [totalSS, List.take_succ_eq_append_getElem h, List.map_append, List.sum_append]; simp [totalSS]
theorem markSS_get : ∀ (k : Nat) (nss : List (List Int)) (i : Nat) (h : i < nss.length), (markSS k nss)[i]? = some (markI (k + totalSS (nss.take i)) nss[i].length)
  | k, [], i, h => by simp at h
  | k, xs :: r, 0, h => by simp [markSS, totalSS]
  | k, xs :: r, i + 1, h => by
    simp only [markSS, List.getElem?_cons_succ, List.getElem_cons_succ, List.take_succ_cons]
    rw [markSS_get (k + xs.length) r i (by simpa using h)]
    simp [totalSS, Nat.add_assoc]
theorem totalSS_le (nss : List (List Int)) (i : Nat) : totalSS (nss.take i) ≤ totalSS nss := by
  have : totalSS nss = totalSS (nss.take i) + totalSS (nss.drop i) := by
    conv => lhs; rw [← List.take_append_drop i nss]
    simp only [totalSS, List.map_append, List.sum_append]
  omega

end Go.Proofs.YtlcbdmmmafpchaaDoor

namespace Go.Proofs.YtlcbdmmmafpchaaDoor
open Go.RowKit
set_option linter.unusedSimpArgs false
set_option linter.unusedVariables false
set_option maxRecDepth 4000

def digB (c : UInt8) : Bool := decide (49 ≤ c.toNat ∧ c.toNat ≤ 57)
def goodL (l : List UInt8) : Bool := decide (1 ≤ l.length) && decide (l.length ≤ 400) && l.all digB

theorem l1In_is (b : Bool) (n lo hi : Int) (w : World) (h : decide (lo ≤ n ∧ n ≤ hi) = b) :
    Calls Tryd.prog 82 #[.int .i64 n, .int .i64 lo, .int .i64 hi] w fun e w' => e = .returned (.bool b) ∧ w = w' := by
  subst h
  by_cases h1 : lo ≤ n <;> by_cases h2 : n ≤ hi
  all_goals
    go_enter Tryd.func82, Tryd.ntmps82
    go_wp2
    go_ret
    exact ⟨by simp; omega, rfl⟩

theorem all_take_succ (p : UInt8 → Bool) (s : ByteArray) (k : Nat) (h : k < s.size) :
    (s.data.toList.take (k + 1)).all p = ((s.data.toList.take k).all p && p s[k]) := by
  rw [List.take_succ_eq_append_getElem (by simpa using h), List.all_append]; simp; rfl

theorem goodL_of (s : ByteArray) (h : s.size = s.data.toList.length) : goodL s.data.toList = (decide (1 ≤ s.size ∧ s.size ≤ 400) && s.data.toList.all digB) := by
  unfold goodL; rw [← h]; simp

theorem all_false_of_take {l : List UInt8} {p : UInt8 → Bool} (k : Nat) (h : (l.take k).all p = false) : l.all p = false := by
  rw [← List.take_append_drop k l, List.all_append, h]; rfl

theorem isWithin_is (b : Bool) (n lo hi : Int) (w : World) (h : decide (lo ≤ n ∧ n ≤ hi) = b) :
    Calls Tryd.prog 77 #[.int .i64 n, .int .i64 lo, .int .i64 hi] w fun e w' => e = .returned (.bool b) ∧ w = w' := by
  subst h
  by_cases h1 : lo ≤ n <;> by_cases h2 : n ≤ hi
  all_goals
    go_enter Tryd.func77, Tryd.ntmps77
    go_wp2
    go_ret
    exact ⟨by simp; omega, rfl⟩

def dtB (l : List UInt8) : Bool := decide (1 ≤ l.length) && l.all digB
theorem nonempty_toList (s : ByteArray) (h : ¬ s.size = 0) : s.toList.isEmpty = false := by
  have e : s.toList = s.data.toList := ByteArray.toList_eq s
  rw [e]
  cases h' : s.data.toList with
  | nil => exact absurd (by simpa using congrArg List.length h') h
  | cons a l => rfl
theorem dtB_of (s : ByteArray) (h : s.size = s.data.toList.length) : dtB s.data.toList = (decide (1 ≤ s.size) && s.data.toList.all digB) := by
  unfold dtB; rw [← h]
theorem goodL_dt (s : ByteArray) (h : s.size = s.data.toList.length) : goodL s.data.toList = (decide (s.size ≤ 400) && dtB s.data.toList) := by
  unfold dtB goodL; rw [← h]; cases decide (s.size ≤ 400) <;> cases decide (1 ≤ s.size) <;> rfl
end Go.Proofs.YtlcbdmmmafpchaaDoor

/- Runs of a word: plain lists, and the model's woRuns. -/
namespace Go.Proofs.YtlcbdmmmafpchaaDoor
open Go.RowKit Go.BigFrame
set_option linter.unusedSimpArgs false
set_option linter.unusedVariables false
set_option maxRecDepth 4000

/-- One digit more behind the runs that were told. -/
def stepRun (acc : List (UInt8 × Nat)) (c : UInt8) : List (UInt8 × Nat) :=
  match acc.getLast? with
  | some (d, n) => if d = c then acc.dropLast ++ [(d, n + 1)] else acc ++ [(c, 1)]
  | none => [(c, 1)]
def runsL (l : List UInt8) : List (UInt8 × Nat) := l.foldl stepRun []
theorem runsL_snoc (l : List UInt8) (c : UInt8) : runsL (l ++ [c]) = stepRun (runsL l) c := by simp [runsL]
theorem stepRun_ne (acc : List (UInt8 × Nat)) (c : UInt8) : stepRun acc c ≠ [] := by
  unfold stepRun
  split
  · split <;> simp
  · simp
theorem stepRun_last (acc : List (UInt8 × Nat)) (c : UInt8) : ∃ pre n, stepRun acc c = pre ++ [(c, n)] := by
  unfold stepRun
  split
  · split
    · rename_i d n _ h; subst h; exact ⟨_, _, rfl⟩
    · exact ⟨_, _, rfl⟩
  · exact ⟨[], 1, rfl⟩
theorem stepRun_same (pre : List (UInt8 × Nat)) (c : UInt8) (n : Nat) : stepRun (pre ++ [(c, n)]) c = pre ++ [(c, n + 1)] := by
  simp [stepRun]
theorem stepRun_other (pre : List (UInt8 × Nat)) (c d : UInt8) (n : Nat) (h : d ≠ c) : stepRun (pre ++ [(d, n)]) c = pre ++ [(d, n)] ++ [(c, 1)] := by
  simp [stepRun, h]
theorem stepRun_sum (acc : List (UInt8 × Nat)) (c : UInt8) : ((stepRun acc c).map (·.2)).sum = (acc.map (·.2)).sum + 1 := by
  unfold stepRun
  split
  · rename_i d n h
    split
    · have hne : acc ≠ [] := by intro e; simp [e] at h
      have h2 : acc.getLast hne = (d, n) := by
        have := List.getLast?_eq_some_getLast hne
        rw [h] at this; exact (Option.some.inj this).symm
      conv => rhs; rw [← List.dropLast_concat_getLast hne, h2]
      simp; omega
    · simp
  · rename_i h
    have : acc = [] := by simpa using h
    subst this; simp
theorem runsL_sum (l : List UInt8) : ((runsL l).map (·.2)).sum = l.length := by
  induction h : l.length generalizing l with
  | zero => have : l = [] := List.eq_nil_of_length_eq_zero h; subst this; rfl
  | succ n ih =>
    have hne : l ≠ [] := by intro e; simp [e] at h
    have hd := List.dropLast_concat_getLast hne
    rw [← hd, runsL_snoc, stepRun_sum, ih _ (by simp [h])]
theorem runs_last_le {l : List UInt8} {pre : List (UInt8 × Nat)} {d : UInt8} {n : Nat} (h : runsL l = pre ++ [(d, n)]) : n ≤ l.length := by
  have := runsL_sum l
  rw [h] at this
  simp at this; omega
theorem stepRun_len (acc : List (UInt8 × Nat)) (c : UInt8) : (stepRun acc c).length ≤ acc.length + 1 := by
  unfold stepRun
  split
  · split <;> (simp; try omega)
  · simp
theorem runsL_len (l : List UInt8) : (runsL l).length ≤ l.length := by
  induction h : l.length generalizing l with
  | zero => have : l = [] := List.eq_nil_of_length_eq_zero h; subst this; simp [runsL]
  | succ n ih =>
    have hne : l ≠ [] := by intro e; simp [e] at h
    have hd := List.dropLast_concat_getLast hne
    rw [← hd, runsL_snoc]
    exact Nat.le_trans (stepRun_len _ _) (by have := ih l.dropLast (by simp [h]); omega)
theorem dig_at (s : ByteArray) (h : s.data.toList.all digB = true) (k : Nat) (hk : k < s.size) : 49 ≤ s[k].toNat ∧ s[k].toNat ≤ 57 := by
  have h2 := List.all_eq_true.1 h (s.data.toList[k]'(by simpa using hk)) (List.getElem_mem _)
  have e : s.data.toList[k]'(by simpa using hk) = s[k] := by simp; rfl
  rw [e] at h2
  simpa [digB] using h2
/-- The runs told as rows of two numbers. -/
def rowOf (p : UInt8 × Nat) : List Value := [.int .i64 ((p.1.toNat : Int) - 48), .int .i64 (p.2 : Int)]
def rowsL (l : List UInt8) : List (List Value) := (runsL l).map rowOf

theorem take_snoc (s : ByteArray) (k : Nat) (h : k < s.size) : s.data.toList.take (k + 1) = s.data.toList.take k ++ [s[k]] := by
  rw [List.take_succ_eq_append_getElem (by simpa using h)]; rfl
theorem info_ints : (Tryd.prog.info? 29).map (fun i => (i.zero, i.size, i.bytes)) = some (some (.slice none 0 0), 1, 24) := by kernel_rfl
theorem info_int : (Tryd.prog.info? 3).map (fun i => (i.zero, i.size, i.bytes)) = some (some (.int .i64 0), 1, 8) := by kernel_rfl

end Go.Proofs.YtlcbdmmmafpchaaDoor

/- The longest run, speakable words: the model's functions. -/
namespace Go.Proofs.YtlcbdmmmafpchaaDoor
open Go.RowKit Go.BigFrame
set_option linter.unusedSimpArgs false
set_option linter.unusedVariables false
set_option maxRecDepth 4000

def longR (rs : List (UInt8 × Nat)) : Nat := rs.foldl (fun a p => max a p.2) 0
def longL (l : List UInt8) : Nat := longR (runsL l)
def speakL (l : List UInt8) : Bool := goodL l && decide (longL l ≤ 9)
theorem longR_snoc (rs : List (UInt8 × Nat)) (p : UInt8 × Nat) : longR (rs ++ [p]) = max (longR rs) p.2 := by simp [longR]
theorem longR_le (rs : List (UInt8 × Nat)) : longR rs ≤ (rs.map (·.2)).sum := by
  induction h : rs.length generalizing rs with
  | zero => have : rs = [] := List.eq_nil_of_length_eq_zero h; subst this; simp [longR]
  | succ n ih =>
    have hne : rs ≠ [] := by intro e; simp [e] at h
    have hd := List.dropLast_concat_getLast hne
    rw [← hd, longR_snoc, List.map_append, List.sum_append]
    have := ih rs.dropLast (by simp [h])
    simp only [List.map_cons, List.map_nil, List.sum_cons, List.sum_nil]; omega
theorem longL_le (l : List UInt8) : longL l ≤ l.length := by
  have := longR_le (runsL l); rw [runsL_sum] at this; exact this
theorem goodL_parts {s : ByteArray} (h : goodL s.data.toList = true) : 1 ≤ s.size ∧ s.size ≤ 400 ∧ s.data.toList.all digB = true := by
  rw [goodL_of s (by simp)] at h
  simp only [Bool.and_eq_true, decide_eq_true_eq] at h
  exact ⟨h.1.1, h.1.2, h.2⟩

theorem l1Most_is (a b c : Int) (w : World) (h : max a b = c) :
    Calls Tryd.prog 75 #[.int .i64 a, .int .i64 b] w fun e w' => e = .returned (.int .i64 c) ∧ w = w' := by
  subst h
  by_cases h : b < a
  all_goals
    go_enter Tryd.func75, Tryd.ntmps75
    go_wp2
    go_ret
    exact ⟨ret_int (by omega), rfl⟩

theorem longR_take_succ (rs : List (UInt8 × Nat)) (k : Nat) (h : k < rs.length) : longR (rs.take (k + 1)) = max (longR (rs.take k)) rs[k].2 := by
  rw [List.take_succ_eq_append_getElem h, longR_snoc]
theorem runsL_ne {l : List UInt8} (h : 1 ≤ l.length) : runsL l ≠ [] := by
  have hne : l ≠ [] := by intro e; simp [e] at h
  have hd := List.dropLast_concat_getLast hne
  rw [← hd, runsL_snoc]
  exact stepRun_ne _ _

end Go.Proofs.YtlcbdmmmafpchaaDoor

/- Words backwards and said: the model's functions. -/
namespace Go.Proofs.YtlcbdmmmafpchaaDoor
open Go.RowKit Go.BigFrame
set_option linter.unusedSimpArgs false
set_option linter.unusedVariables false
set_option maxRecDepth 4000

/-- Decimal digits. -/
def numL (n : Nat) : List UInt8 := if h : n < 10 then [UInt8.ofNat (48 + n)] else numL (n / 10) ++ [UInt8.ofNat (48 + n % 10)]
termination_by n
decreasing_by omega
theorem numL_one (n : Nat) (h : n < 10) : numL n = [UInt8.ofNat (48 + n)] := by rw [numL, dif_pos h]
theorem numL_more (n : Nat) (h : ¬ n < 10) : numL n = numL (n / 10) ++ [UInt8.ofNat (48 + n % 10)] := by rw [numL, dif_neg h]
theorem numL_len (k : Nat) : ∀ n, n < 10 ^ (k + 1) → (numL n).length ≤ k + 1 := by
  induction k with
  | zero => intro n h; rw [numL_one n (by simpa using h)]; simp
  | succ k ih =>
    intro n h
    by_cases h2 : n < 10
    · rw [numL_one n h2]; simp
    · rw [numL_more n h2]
      have := ih (n / 10) (by rw [Nat.pow_succ] at h; omega)
      simp; omega
theorem numL_len19 (n : Nat) (h : n ≤ 9223372036854775807) : (numL n).length ≤ 19 := numL_len 18 n (by omega)
theorem conv1 (W : World) (x : Int) : (convert 22 9 (.slice (some ⟨W.heap.size, 0, none⟩) 1 1)).run Tryd.prog (W.alloc (.cells #[.int .u8 x] 5)) = .ok (.string (bs [UInt8.ofNat x.toNat])) (W.alloc (.cells #[.int .u8 x] 5)) := by
  have h := run_convert_bytes_arg (P := Tryd.prog) (W.alloc (.cells #[.int .u8 x] 5)) 22 5 Tryd.underlying22 Tryd.underlying5 W.heap.size 0 1 1 [x] rfl (fun i hi => by
    obtain rfl : i = 0 := by omega
    rw [World.cell?_alloc_at _ _ _ _ rfl]; rfl) 9 Tryd.underlying9
  rw [h]; rfl

theorem conv1_at (W : World) (g : Nat) (x : Int) (h : W.cell? ⟨g, 0, none⟩ = some (.int .u8 x)) : (convert 22 9 (.slice (some ⟨g, 0, none⟩) 1 1)).run Tryd.prog W = .ok (.string (bs [UInt8.ofNat x.toNat])) W := by
  have h := run_convert_bytes_arg (P := Tryd.prog) W 22 5 Tryd.underlying22 Tryd.underlying5 g 0 1 1 [x] rfl (fun i hi => by
    obtain rfl : i = 0 := by omega
    exact h) 9 Tryd.underlying9
  rw [h]; rfl
theorem conv1_kept {W w1 : World} (hb : Below W.heap.size W w1) (g : Nat) (x : Int) (hg : g < W.heap.size) (h : W.cell? ⟨g, 0, none⟩ = some (.int .u8 x)) :
    (convert 22 9 (.slice (some ⟨g, 0, none⟩) 1 1)).run Tryd.prog w1 = .ok (.string (bs [UInt8.ofNat x.toNat])) w1 :=
  conv1_at w1 g x ((hb.cell (p := ⟨g, 0, none⟩) hg).trans h)

end Go.Proofs.YtlcbdmmmafpchaaDoor

/- The laws' own helpers on rows of texts: equal rows are found equal; marks are laid and found again. -/
namespace Go.Proofs.YtlcbdmmmafpchaaDoor
open Go.RowKit Go.BigFrame
set_option linter.unusedSimpArgs false
set_option linter.unusedVariables false
set_option maxRecDepth 4000

def markT (k : Nat) : List UInt8 := 109 :: numL k
def numT (k : Nat) : List UInt8 := if k = 0 then [] else numL k
theorem numT_step (k : Nat) (h : 0 < k) : numT k = numT (k / 10) ++ [UInt8.ofNat (48 + k % 10)] := by
  unfold numT
  rw [if_neg (by omega)]
  by_cases h2 : k < 10
  · rw [numL_one k h2, if_pos (by omega), show k % 10 = k by omega]; rfl
  · rw [numL_more k h2, if_neg (by omega)]
theorem markT_len (k : Nat) (h : k ≤ 1000000) : (markT k).length ≤ 20 := by
  have := numL_len19 k (by omega)
  simp [markT]; omega

def Strs (w : World) (B : Nat) (v : Value) (ls : List (List UInt8)) : Prop := w.ownsRow B 9 1 v ls.length (ls.map (fun l => .string (bs l)))
theorem strs_open {w : World} {B : Nat} {v : Value} {ls : List (List UInt8)} (h : Strs w B v ls) : (v = .slice none 0 0 ∧ ls = []) ∨
    ∃ g cap, v = .slice (some ⟨g, 0, none⟩) ls.length cap ∧ B ≤ g ∧ g < w.heap.size ∧ ls.length ≤ 9223372036854775807 ∧ cap ≤ 9223372036854775807 ∧
      (∀ i (hi : i < ls.length), w.cell? ⟨g, i, none⟩ = some (.string (bs ls[i]))) ∧ (∀ i, w.frozen? ⟨g, i, none⟩ = false) := by
  rcases own_open h with ⟨rfl, h2, h3⟩ | ⟨g, cap, rfl, h1, h2, h3, h4, _, h5, h6⟩
  · exact .inl ⟨rfl, List.eq_nil_of_length_eq_zero h2⟩
  · unfold maxLen at h4
    exact .inr ⟨g, cap, rfl, h1, h2, by omega, by omega, fun i hi => by have := h5 i (by simpa using hi); simpa using this, h6⟩

def markTS (k n : Nat) : List (List UInt8) := (List.range n).map (fun i => markT (k + i))
theorem markTS_len (k n : Nat) : (markTS k n).length = n := by simp [markTS]
theorem markTS_succ (k n : Nat) : markTS k (n + 1) = markTS k n ++ [markT (k + n)] := by simp [markTS, List.range_succ]
theorem markTS_get (k n i : Nat) (h : i < n) : (markTS k n)[i]'(by rw [markTS_len]; exact h) = markT (k + i) := by simp [markTS]

end Go.Proofs.YtlcbdmmmafpchaaDoor

/- The laws' own helpers on rows of texts that begin inside a block: equal rows are found equal; marks are laid and found again. -/
namespace Go.Proofs.YtlcbdmmmafpchaaDoor
open Go.RowKit Go.BigFrame
set_option linter.unusedSimpArgs false
set_option linter.unusedVariables false
set_option maxRecDepth 4000

theorem markTB_len (k : Nat) (h : k ≤ 3000000000) : (markT k).length ≤ 20 := by
  have := numL_len19 k (by omega)
  simp [markT]; omega

/-- A slice value owns a row of texts, which may begin inside its block. -/
def StrsO (w : World) (B : Nat) (v : Value) (ls : List (List UInt8)) : Prop := (v = .slice none 0 0 ∧ ls = []) ∨
    ∃ g o cap, v = .slice (some ⟨g, o, none⟩) ls.length cap ∧ B ≤ g ∧ g < w.heap.size ∧ ls.length ≤ 9223372036854775807 ∧ cap ≤ 9223372036854775807 ∧
      (∀ i (hi : i < ls.length), w.cell? ⟨g, o + i, none⟩ = some (.string (bs ls[i]))) ∧ (∀ i, w.frozen? ⟨g, i, none⟩ = false)
theorem strsO_open {w : World} {B : Nat} {v : Value} {ls : List (List UInt8)} (h : StrsO w B v ls) : (v = .slice none 0 0 ∧ ls = []) ∨
    ∃ g o cap, v = .slice (some ⟨g, o, none⟩) ls.length cap ∧ B ≤ g ∧ g < w.heap.size ∧ ls.length ≤ 9223372036854775807 ∧ cap ≤ 9223372036854775807 ∧
      (∀ i (hi : i < ls.length), w.cell? ⟨g, o + i, none⟩ = some (.string (bs ls[i]))) ∧ (∀ i, w.frozen? ⟨g, i, none⟩ = false) := h
theorem strsO_of {w : World} {B : Nat} {v : Value} {ls : List (List UInt8)} (h : Strs w B v ls) : StrsO w B v ls := by
  rcases strs_open h with h | ⟨g, cap, h1, h2, h3, h4, h5, h6, h7⟩
  · exact .inl h
  · exact .inr ⟨g, 0, cap, h1, h2, h3, h4, h5, fun i hi => by rw [Nat.zero_add]; exact h6 i hi, h7⟩
theorem strsO_below {w w' : World} {B : Nat} {v : Value} {ls : List (List UInt8)} (h : StrsO w B v ls) (hb : Below w.heap.size w w') : StrsO w' B v ls := by
  rcases h with h | ⟨g, o, cap, h1, h2, h3, h4, h5, h6, h7⟩
  · exact .inl h
  · exact .inr ⟨g, o, cap, h1, h2, Nat.lt_of_lt_of_le h3 hb.size, h4, h5, fun i hi => (hb.cell (p := ⟨g, o + i, none⟩) h3).trans (h6 i hi), fun i => (hb.frozen (p := ⟨g, i, none⟩) h3).trans (h7 i)⟩

def markMix (k0 k : Nat) (xs : List (List UInt8)) : List (List UInt8) := markTS k0 k ++ xs.drop k
theorem markMix_succ (k0 k : Nat) (xs : List (List UInt8)) (h : k < xs.length) : markMix k0 (k + 1) xs = (markMix k0 k xs).set k (markT (k0 + k)) := by
  unfold markMix
  have hd : xs.drop k = xs[k] :: xs.drop (k + 1) := List.drop_eq_getElem_cons h
  rw [markTS_succ, hd, List.set_append_right _ _ (by simp [markTS_len])]
  simp only [markTS_len, Nat.sub_self, List.set_cons_zero, List.append_assoc, List.cons_append, List.nil_append]
theorem markMix_len (k0 k : Nat) (xs : List (List UInt8)) (h : k ≤ xs.length) : (markMix k0 k xs).length = xs.length := by
  simp [markMix, markTS_len]; omega

end Go.Proofs.YtlcbdmmmafpchaaDoor

/- Chapter 8 (pure): how often each letter is in a text; all of them together; how many different ones. -/
namespace Go.Proofs.YtlcbdmmmafpchaaDoor
open Go.RowKit
set_option linter.unusedSimpArgs false
set_option linter.unusedVariables false
set_option maxRecDepth 4000

def az (i : Nat) : UInt8 := UInt8.ofNat (97 + i)
theorem sum_add (f g : Nat → Nat) : ∀ l : List Nat, (l.map (fun i => f i + g i)).sum = (l.map f).sum + (l.map g).sum
  | [] => rfl
  | a :: t => by simp only [List.map_cons, List.sum_cons, sum_add f g t]; omega
theorem ind26 : ∀ j, j < 26 → ((List.range 26).map (fun i => if az j = az i then 1 else 0)).sum = 1 := by decide +kernel
theorem az_of {c : UInt8} (h : 97 ≤ c.toNat ∧ c.toNat ≤ 122) : ∃ j, j < 26 ∧ c = az j :=
  ⟨c.toNat - 97, by omega, by unfold az; apply UInt8.toNat_inj.1; rw [UInt8.toNat_ofNat']; omega⟩
theorem ind_of {c : UInt8} (h : 97 ≤ c.toNat ∧ c.toNat ≤ 122) : ((List.range 26).map (fun i => if c = az i then 1 else 0)).sum = 1 := by
  obtain ⟨j, hj, rfl⟩ := az_of h
  exact ind26 j hj
/-- How often the letters are in a text, all together. -/
theorem count_sum : ∀ l : List UInt8, (∀ c ∈ l, 97 ≤ c.toNat ∧ c.toNat ≤ 122) → ((List.range 26).map (fun i => l.count (az i))).sum = l.length
  | [], _ => by decide
  | c :: t, h => by
    have ih := count_sum t (fun x hx => h x (by simp [hx]))
    have e : (List.range 26).map (fun i => (c :: t).count (az i)) = (List.range 26).map (fun i => t.count (az i) + if c = az i then 1 else 0) := by
      refine List.map_congr_left fun i _ => ?_
      rw [List.count_cons]
      by_cases hc : c = az i
      · simp [hc]
      · simp [hc]
    rw [e, sum_add, ih, ind_of (h c (by simp)), List.length_cons]
/-- How many different letters are in a text. -/
def difN (l : List UInt8) : Nat := ((List.range 26).map (fun i => if 0 < l.count (az i) then 1 else 0)).sum
theorem difN_snoc (t : List UInt8) (c : UInt8) (h : 97 ≤ c.toNat ∧ c.toNat ≤ 122) : difN (t ++ [c]) = difN t + if c ∈ t then 0 else 1 := by
  by_cases hc : c ∈ t
  · rw [if_pos hc]
    unfold difN
    congr 1
    refine List.map_congr_left fun i _ => ?_
    rw [List.count_append]
    by_cases e : c = az i
    · have h1 : 0 < t.count (az i) := List.count_pos_iff.2 (e ▸ hc)
      rw [if_pos h1, if_pos (by omega)]
    · rw [show ([c] : List UInt8).count (az i) = 0 from by simp [List.count_singleton]; exact e, Nat.add_zero]
  · rw [if_neg hc]
    have hone := ind_of h
    unfold difN
    have e : (List.range 26).map (fun i => if 0 < (t ++ [c]).count (az i) then 1 else 0) = (List.range 26).map (fun i => (if 0 < t.count (az i) then 1 else 0) + if c = az i then 1 else 0) := by
      refine List.map_congr_left fun i _ => ?_
      rw [List.count_append]
      by_cases e : c = az i
      · have h1 : t.count (az i) = 0 := List.count_eq_zero.2 (e ▸ hc)
        rw [h1]
        simp [e]
      · rw [show ([c] : List UInt8).count (az i) = 0 from by simp [List.count_singleton]; exact e, Nat.add_zero, if_neg e, Nat.add_zero]
    rw [e, sum_add, hone]
/-- The first k letters of a text that are not ahead of their place. -/
def fstK (l : List UInt8) : Nat → Nat
  | 0 => 0
  | k + 1 => fstK l k + if l.getD k 0 ∈ l.take k then 0 else 1
theorem fstK_dif (l : List UInt8) (h : ∀ c ∈ l, 97 ≤ c.toNat ∧ c.toNat ≤ 122) : ∀ k, k ≤ l.length → fstK l k = difN (l.take k)
  | 0, _ => by rw [List.take_zero]; show 0 = difN []; decide
  | k + 1, hk => by
    have hk' : k < l.length := hk
    rw [fstK, fstK_dif l h k (by omega), List.take_succ_eq_append_getElem hk', difN_snoc _ _ (h _ (List.getElem_mem hk'))]
    rw [show l.getD k 0 = l[k] from by simp [List.getD, hk']]
theorem fstK_le (l : List UInt8) : ∀ k, fstK l k ≤ k
  | 0 => Nat.le_refl _
  | k + 1 => by
    have := fstK_le l k
    rw [fstK]; split <;> omega
theorem fstK_all (l : List UInt8) (h : ∀ c ∈ l, 97 ≤ c.toNat ∧ c.toNat ≤ 122) : fstK l l.length = difN l := by
  rw [fstK_dif l h _ (Nat.le_refl _), List.take_length]
/-- Sums over the first k letters. -/
def sumK (f : Nat → Nat) : Nat → Nat
  | 0 => 0
  | k + 1 => sumK f k + f k
theorem sumK_range (f : Nat → Nat) : ∀ k, sumK f k = ((List.range k).map f).sum
  | 0 => rfl
  | k + 1 => by rw [sumK, sumK_range f k, List.range_succ, List.map_append, List.sum_append]; simp
theorem sumK_mono (f : Nat → Nat) (k : Nat) : ∀ m, k ≤ m → sumK f k ≤ sumK f m := by
  intro m h
  induction h with
  | refl => exact Nat.le_refl _
  | step _ ih => rw [sumK]; omega
theorem count_sumK (l : List UInt8) (h : ∀ c ∈ l, 97 ≤ c.toNat ∧ c.toNat ≤ 122) : sumK (fun i => l.count (az i)) 26 = l.length := by rw [sumK_range, count_sum l h]
theorem dif_sumK (l : List UInt8) : sumK (fun i => if 0 < l.count (az i) then 1 else 0) 26 = difN l := sumK_range _ _
/-- How often a letter is in a name: in the whole name as in its letters. -/
theorem count_filter_az (l : List UInt8) (c : UInt8) (h : azB c = true) : (l.filter azB).count c = l.count c := List.count_filter h
end Go.Proofs.YtlcbdmmmafpchaaDoor

/- Chapter 8 (pure): '-' struck out of a text, as strings.ReplaceAll does it; words put together. -/
namespace Go.Proofs.YtlcbdmmmafpchaaDoor
open Go.RowKit
set_option linter.unusedSimpArgs false
set_option linter.unusedVariables false
set_option maxRecDepth 4000

theorem idxB_mem {c : UInt8} : ∀ {l : List UInt8}, c ∈ l → ∃ m : Nat, ∃ hm : m < l.length, Go.Lib.indexByte l c = (m : Int) ∧ l[m] = c ∧ (∀ x ∈ l.take m, x ≠ c) ∧ l.count c = (l.drop (m + 1)).count c + 1
  | [], h => by simp at h
  | a :: t, h => by
    by_cases e : a = c
    · refine ⟨0, by simp, by simp [Go.Lib.indexByte, e], by simpa using e, fun x hx => by simp at hx, by simp [e]⟩
    · have ht : c ∈ t := by
        rcases List.mem_cons.1 h with h | h
        · exact absurd h.symm e
        · exact h
      obtain ⟨m, hm, h1, h2, h3, h4⟩ := idxB_mem ht
      refine ⟨m + 1, by simpa using hm, ?_, by simpa using h2, fun x hx => ?_, ?_⟩
      · simp only [Go.Lib.indexByte, h1]
        have : ¬ (m : Int) < 0 := by omega
        simp [e, this]
      · rw [List.take_succ_cons, List.mem_cons] at hx
        rcases hx with rfl | hx
        · exact e
        · exact h3 x hx
      · rw [List.count_cons_of_ne (fun x => e x)]
        simpa using h4
theorem idxB_not {c : UInt8} : ∀ {l : List UInt8}, c ∉ l → Go.Lib.indexByte l c = -1
  | [], _ => by simp [Go.Lib.indexByte]
  | a :: t, h => by
    have h1 : ¬ a = c := fun e => h (by simp [e])
    have h2 : c ∉ t := fun e => h (by simp [e])
    simp [Go.Lib.indexByte, idxB_not h2, h1]
theorem count_one (c : UInt8) : ∀ (f : Nat) (s : List UInt8), s.length < f → Go.Lib.countFrom [c] f s = s.count c
  | 0, s, h => by omega
  | f + 1, s, h => by
    unfold Go.Lib.countFrom
    rw [Go.Lib.index_one]
    by_cases hm : c ∈ s
    · obtain ⟨m, hl, h1, h2, h3, h4⟩ := idxB_mem hm
      have : ¬ ((m : Int) == -1) = true := fun e => by have := beq_iff_eq.1 e; omega
      rw [h1, if_neg this, h4, List.length_singleton, show ((m : Int).toNat + 1) = m + 1 by omega, count_one c f _ (by rw [List.length_drop]; omega), Nat.add_comm]
    · rw [idxB_not hm, if_pos (by decide), List.count_eq_zero.2 hm]
theorem replaceK_strike (c : UInt8) : ∀ (k : Nat) (s : List UInt8), s.count c = k → Go.Lib.replaceK [c] [] k s = s.filter (fun x => x != c)
  | 0, s, h => by
    show s = _
    refine (List.filter_eq_self.2 fun x hx => ?_).symm
    have := List.count_eq_zero.1 h
    have : x ≠ c := fun e => this (e ▸ hx)
    simpa using this
  | k + 1, s, h => by
    have hm : c ∈ s := List.count_pos_iff.1 (by omega)
    obtain ⟨m, hl, h1, h2, h3, h4⟩ := idxB_mem hm
    rw [Go.Lib.replaceK_hit [c] [] k s m (by rw [Go.Lib.index_one, h1]), List.length_singleton, replaceK_strike c k (s.drop (m + 1)) (by omega), List.append_nil]
    conv => rhs; rw [← List.take_append_drop m s, List.drop_eq_getElem_cons hl, h2]
    rw [List.filter_append, List.filter_cons]
    simp only [bne_self_eq_false, Bool.false_eq_true, if_false]
    have hf : (s.take m).filter (fun x => x != c) = s.take m := List.filter_eq_self.2 (fun x hx => by simpa using h3 x hx)
    rw [hf]
theorem lib_strike (c : UInt8) (s : List UInt8) : Go.Lib.replaceAll s [c] [] = s.filter (fun x => x != c) := by
  unfold Go.Lib.replaceAll Go.Lib.replace
  rw [if_neg (by simp)]
  unfold Go.Lib.replaceNum
  rw [if_pos (by left; decide)]
  unfold Go.Lib.count
  rw [count_one c _ s (by omega)]
  exact replaceK_strike c _ s rfl
theorem strike_len (c : UInt8) (s : List UInt8) : Go.Lib.count s [c] = s.count c := by
  unfold Go.Lib.count
  rw [count_one c _ s (by omega)]
end Go.Proofs.YtlcbdmmmafpchaaDoor

/- The laws' own helpers on rows of numbers that may lie in an array: equal rows are found equal; marks are laid and found again. -/
namespace Go.Proofs.YtlcbdmmmafpchaaDoor
open Go.RowKit Go.BigFrame
set_option linter.unusedSimpArgs false
set_option linter.unusedVariables false
set_option maxRecDepth 4000

abbrev ivs (xs : List Int) : List Value := xs.map (.int .i64)
/-- A slice value owns a row of numbers; behind it more cells of the same block may lie. -/
def IntsA (w : World) (B : Nat) (v : Value) (xs : List Int) : Prop := (v = .slice none 0 0 ∧ xs = []) ∨
  ∃ g cap E rest, v = .slice (some ⟨g, 0, none⟩) xs.length cap ∧ B ≤ g ∧ w.heap[g]? = some (.cells (ivs xs ++ rest).toArray E (0, 0)) ∧ xs.length ≤ cap ∧ cap ≤ 9223372036854775807
theorem intsA_of {w : World} {B : Nat} {v : Value} {xs : List Int} (h : Ints w B v xs) : IntsA w B v xs := by
  rcases h.2 with ⟨rfl, h0⟩ | ⟨g, cap, cur, rfl, hB, hg, h1, h2, h3, h4⟩
  · exact .inl ⟨rfl, List.eq_nil_of_length_eq_zero h0⟩
  · unfold maxLen at h2
    refine .inr ⟨g, cap, 3, cur.toList.drop xs.length, rfl, hB, ?_, h1, by omega⟩
    rw [hg]
    congr 2
    apply Array.ext'
    simp only [Nat.mul_one] at h4
    simp only [ivs, ← h4]
    rw [List.take_append_drop]
theorem intsA_nil (w : World) (B : Nat) : IntsA w B (.slice none 0 0) [] := .inl ⟨rfl, rfl⟩
theorem intsA_below {w w' : World} {B : Nat} {v : Value} {xs : List Int} (h : IntsA w B v xs) (hb : Below w.heap.size w w') : IntsA w' B v xs := by
  rcases h with h | ⟨g, cap, E, rest, h1, h2, h3, h4⟩
  · exact .inl h
  · exact .inr ⟨g, cap, E, rest, h1, h2, (hb.block g (Array.getElem?_eq_some_iff.1 h3).1).trans h3, h4⟩
theorem intsA_mono {w : World} {B B' : Nat} {v : Value} {xs : List Int} (h : IntsA w B v xs) (hB : B' ≤ B) : IntsA w B' v xs := by
  rcases h with h | ⟨g, cap, E, rest, h1, h2, h3⟩
  · exact .inl h
  · exact .inr ⟨g, cap, E, rest, h1, by omega, h3⟩
theorem intsA_open {w : World} {B : Nat} {v : Value} {xs : List Int} (h : IntsA w B v xs) : (v = .slice none 0 0 ∧ xs = []) ∨
    ∃ g cap E rest, v = .slice (some ⟨g, 0, none⟩) xs.length cap ∧ B ≤ g ∧ g < w.heap.size ∧ w.heap[g]? = some (.cells (ivs xs ++ rest).toArray E (0, 0)) ∧ xs.length ≤ 9223372036854775807 ∧ cap ≤ 9223372036854775807 ∧ xs.length ≤ cap ∧
      (∀ i (hi : i < xs.length), w.cell? ⟨g, i, none⟩ = some (.int .i64 xs[i])) := by
  rcases h with h | ⟨g, cap, E, rest, h1, h2, h3, h4, h5⟩
  · exact .inl h
  · refine .inr ⟨g, cap, E, rest, h1, h2, (Array.getElem?_eq_some_iff.1 h3).1, h3, by omega, h5, h4, fun i hi => ?_⟩
    rw [cell_of_row w g i _ _ _ h3]
    simp [ivs, List.getElem?_append_left, hi]

end Go.Proofs.YtlcbdmmmafpchaaDoor

/- Chapter 8 (pure): chains of numbers of letters. -/
namespace Go.Proofs.YtlcbdmmmafpchaaDoor
open Go.RowKit
set_option linter.unusedSimpArgs false
set_option linter.unusedVariables false
set_option maxRecDepth 4000

def ltlen (n : Nat) : Nat := (ltN n).length
def chF : Nat → Nat → List Nat
  | 0, _ => []
  | k + 1, n => n :: if n = 4 then [] else chF k (ltlen n)
/-- The chain of a number. -/
def chL (n : Nat) : List Nat := chF 12 n
theorem ch_tab : ∀ n, n < 65 → (chF 11 n).length ≤ 10 ∧ (chF 11 n).getLast? = some 4 ∧ (chF 11 n).Nodup ∧ (∀ x ∈ chF 11 n, x < 65) ∧ chF 12 n = chF 11 n := by decide +kernel
theorem ltlen_le (n : Nat) (h : n < 1000000) : ltlen n < 65 := Nat.lt_succ_of_le (ltN_len n h)
theorem ltlen4 : ltlen 4 = 4 := by decide +kernel
theorem chL_four : chL 4 = [4] := by decide +kernel
/-- The chain goes on as that of the number of letters. -/
theorem chL_step (n : Nat) (h : n < 1000000) (h4 : n ≠ 4) : chL n = n :: chL (ltlen n) := by
  have := (ch_tab (ltlen n) (ltlen_le n h)).2.2.2.2
  unfold chL
  rw [this]
  show n :: (if n = 4 then [] else chF 11 (ltlen n)) = _
  rw [if_neg h4]
theorem chL_head (n : Nat) : ∃ r, chL n = n :: r := ⟨_, rfl⟩
theorem chL_facts (n : Nat) (h : n < 1000000) : (chL n).length ≤ 11 ∧ (chL n).getLast? = some 4 ∧ (chL n).Nodup ∧ ∀ x ∈ chL n, x < 1000000 := by
  by_cases h4 : n = 4
  · subst h4; rw [chL_four]; decide
  · obtain ⟨t1, t2, t3, t4, t5⟩ := ch_tab (ltlen n) (ltlen_le n h)
    rw [chL_step n h h4]
    have hc : chL (ltlen n) = chF 11 (ltlen n) := t5
    rw [hc]
    refine ⟨by simp; exact t1, ?_, ?_, ?_⟩
    · rw [List.getLast?_cons, t2]; rfl
    · rw [List.nodup_cons]
      refine ⟨fun hm => ?_, t3⟩
      have hn := t4 n hm
      obtain ⟨u1, u2, u3, u4, u5⟩ := ch_tab n hn
      have e : chF 12 n = n :: chF 11 (ltlen n) := by
        show n :: (if n = 4 then [] else chF 11 (ltlen n)) = _
        rw [if_neg h4]
      rw [← u5, e, List.nodup_cons] at u3
      exact u3.1 hm
    · intro x hx
      rcases List.mem_cons.1 hx with rfl | hx
      · exact h
      · have := t4 x hx; omega
/-- On the way: what is left of a chain. -/
theorem chain_on {P : List Nat} {x n : Nat} (hn : n < 1000000) (hR : chL n = P ++ chL x) : x < 1000000 ∧ x ∉ P ∧ P.length < 11 ∧ (x ≠ 4 → chL n = (P ++ [x]) ++ chL (ltlen x)) ∧ (x = 4 → chL n = P ++ [4]) := by
  obtain ⟨h1, h2, h3, h4⟩ := chL_facts n hn
  obtain ⟨r, hr⟩ := chL_head x
  have hx : x < 1000000 := h4 x (by rw [hR, hr]; simp)
  refine ⟨hx, fun hm => ?_, ?_, fun hne => ?_, fun he => ?_⟩
  · rw [hR, hr, List.nodup_append] at h3
    exact h3.2.2 x hm x (by simp) rfl
  · rw [hR, hr, List.length_append, List.length_cons] at h1; omega
  · rw [hR, chL_step x hx hne]; simp
  · rw [hR, he, chL_four]
theorem four_at (n : Nat) (hn : n < 1000000) : ∀ (P : List Nat), chL n = P ++ [4] → 4 ∉ P := by
  intro P hP hm
  obtain ⟨_, _, h3, _⟩ := chL_facts n hn
  rw [hP, List.nodup_append] at h3
  exact h3.2.2 4 hm 4 (by simp) rfl
end Go.Proofs.YtlcbdmmmafpchaaDoor
