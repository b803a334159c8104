/- Rows of bytes that grow: '[]byte(s)', a text or one byte appended, 'string(b)' (rows whose spare may bear a mark behind it). -/
import Derived.Test.YtampjipbemmicaaDoor7M
import Derived.Deep.AppendSrc
namespace Go.Proofs.YtampjipbemmicaaDoor
open Go.RowKit Go.BigFrame
set_option linter.unusedSimpArgs false
set_option linter.unusedVariables false
set_option maxRecDepth 4000

def u8b (l : List UInt8) : List Value := l.map (fun c => .int .u8 (c.toNat : Int))
theorem u8b_len (l : List UInt8) : (u8b l).length = l.length := by simp [u8b]
theorem info_u8b : (Tryd.prog.info? 5).map (fun i => (i.zero, i.size, i.bytes)) = some (some (.int .u8 0), 1, 1) := by kernel_rfl
/-- A slice of bytes at the head of its block; what is spare may be written. -/
def RowB (w : World) (B : Nat) (v : Value) (l : List UInt8) : Prop := ∃ g cap, v = .slice (some ⟨g, 0, none⟩) l.length cap ∧ B ≤ g ∧ g < w.heap.size ∧ l.length ≤ cap ∧ cap ≤ maxLen ∧
  (∀ i (hi : i < l.length), w.cell? ⟨g, i, none⟩ = some (.int .u8 (l[i].toNat : Int))) ∧ (∀ i, i < cap → (w.cell? ⟨g, i, none⟩).isSome = true ∧ w.frozen? ⟨g, i, none⟩ = false)
theorem RowB.below {w w' : World} {B : Nat} {v : Value} {l : List UInt8} (h : RowB w B v l) (hb : Below w.heap.size w w') : RowB w' B v l := by
  obtain ⟨g, cap, h1, h2, h3, h4, h5, h6, h7⟩ := h
  exact ⟨g, cap, h1, h2, Nat.lt_of_lt_of_le h3 hb.size, h4, h5, fun i hi => (hb.cell (p := ⟨g, i, none⟩) h3).trans (h6 i hi), fun i hi => by
    rw [hb.cell (p := ⟨g, i, none⟩) h3, hb.frozen (p := ⟨g, i, none⟩) h3]; exact h7 i hi⟩
theorem wpB_bytes (w : World) {ops : Array Oper} {rest : List Oper} {o : Oper} {a : Act} {Q : Exit → Act → World → Prop}
    (hg : o.guard = none) (x : Operand) (hop : o.op = Op.convert 9 86 x) (l : List UInt8) (hx : a.eval x = .string (bs l)) (hm : l.length ≤ maxLen)
    (hK : ∀ v w1, RowB w1 w.heap.size v l → Below w.heap.size w w1 → wpList Tryd.prog ops Q rest (a.put o.dst v) w1) : wpList Tryd.prog ops Q (o :: rest) a w := by
  refine wpList_plain hg fun K hK' => ?_
  have hrun := run_bytes_of_string (P := Tryd.prog) w 9 86 5 (bs l) Tryd.underlying9 Tryd.underlying86 Tryd.underlying5
  have hcap := grownCap_ge w (bs l).size 0 5
  have hcap2 := grownCap_le_maxLen w (bs l).size 0 5 (by rw [bs_size]; exact hm)
  generalize hC : grownCap w (bs l).size 0 5 = C at hrun hcap hcap2
  have hrow : (bytesRow (bs l) C).size = C := by simp [bytesRow]; have : (bs l).data.size = (bs l).size := rfl; omega
  rw [hrow] at hrun
  have hnew : (w.drew.alloc (.cells (bytesRow (bs l) C) 5 (C, C + 1))).heap[w.heap.size]? = some (.cells (bytesRow (bs l) C) 5 (C, C + 1)) := heap_alloc_new w.drew _
  unfold Oper.wp
  simp only [execOp, hop, hx, hrun, Sem.run_bind, Sem.run_pure, Result.andThen_ok, Oper.upon_value]
  rw [bs_size] at hcap
  refine hK' _ _ ?_
  rw [bs_size]
  refine hK _ _ ⟨w.heap.size, C, rfl, Nat.le_refl _, ?_, hcap, hcap2, ?_, ?_⟩ (below_trans (below_drew w) (below_alloc _ _))
  · show w.heap.size < (w.heap.push _).size
    simp
  · intro i h
    unfold World.cell?
    rw [hnew]
    have h2 : (bytesRow (bs l) C)[i]? = some (.int .u8 (l[i].toNat : Int)) := by
      unfold bytesRow
      rw [Array.getElem?_append_left (by simp [bs]; exact h)]
      rw [Array.getElem?_map, Array.getElem?_eq_getElem (by simp [bs]; exact h)]
      simp [bs]
    simp [h2]
  · intro i h
    constructor
    · unfold World.cell?
      rw [hnew]
      simp [hrow, h]
    · unfold World.frozen?
      rw [hnew]
      simp; omega
theorem below_setCells {B b : Nat} (hb : B ≤ b) : ∀ (vs : List Value) (o : Nat) (w : World), Below B w (w.setCells b o vs)
  | [], _, w => Below.refl _ _
  | v :: vs, o, w => ((Below.refl B w).setCell (p := ⟨b, o, none⟩) hb v).trans (below_setCells hb vs (o + 1) _)
theorem wpB_app (w : World) {ops : Array Oper} {rest : List Oper} {o : Oper} {a : Act} {Q : Exit → Act → World → Prop} (hgd : o.guard = none) (s x : Operand) (tx : TypeId)
    (ho : o.op = .call { callee := .builtin .append, args := #[s, x], argTypes := #[86, tx] }) (B : Nat) (v : Value) (l m : List UInt8) (hs : a.eval s = v) (hown : RowB w B v l)
    (xv : Value) (hx : a.eval x = xv) (hsrc : Src Tryd.prog 1 tx xv m.length (u8b m) w) (h9 : l.length + m.length ≤ 100000) (hB : B ≤ w.heap.size)
    (h : ∀ v' w', RowB w' B v' (l ++ m) → Below B w w' → wpList Tryd.prog ops Q rest (a.put o.dst v') w') : wpList Tryd.prog ops Q (o :: rest) a w := by
  obtain ⟨i0, hi, hz0, hz1, hz2⟩ := info_parts info_u8b
  obtain ⟨g, cap, rfl, hBg, hg, hlc, hcm, hce, hsp⟩ := hown
  refine wpList_plain hgd fun K hK => ?_
  suffices ∃ v' w', (Builtin.append_ #[86, tx] o.type #[.slice (some ⟨g, 0, none⟩) l.length cap, xv]).run Tryd.prog w = .ok v' w' ∧ RowB w' B v' (l ++ m) ∧ Below B w w' by
    obtain ⟨v', w', hr, h2, h3⟩ := this
    unfold Oper.wp execOp
    simp only [ho, resolve, invoke, builtin, Sem.run_bind, Sem.run_pure, Result.andThen_ok, List.map_toArray, List.map_cons, List.map_nil, hs, hx, hr]
    exact hK _ _ (h v' w' h2 h3)
  have hat : ∀ i (hi : i < (l ++ m).length), (l ++ m)[i] = if hl : i < l.length then l[i] else m[i - l.length]'(by rw [List.length_append] at hi; omega) := fun i hi => List.getElem_append ..
  by_cases hroom : l.length + m.length ≤ cap
  · have hr := run_append_room_src w 86 tx o.type 5 i0 Tryd.underlying86 hi g 0 l.length cap xv m.length (u8b m) (by rw [hz1]; exact hsrc) hroom
      (fun j hj => by rw [u8b_len] at hj; rw [hz1, Nat.zero_add, Nat.mul_one]; exact (hsp _ (by omega)).1) (fun j hj => by rw [u8b_len] at hj; rw [hz1, Nat.zero_add, Nat.mul_one]; exact (hsp _ (by omega)).2)
    rw [hz1, Nat.zero_add, Nat.mul_one] at hr
    have hb := below_setCells hBg (u8b m) l.length w
    refine ⟨_, _, hr, ⟨g, cap, by rw [List.length_append], hBg, Nat.lt_of_lt_of_le hg hb.size, by rw [List.length_append]; exact hroom, hcm, fun i hi => ?_, fun i hi => ?_⟩, hb⟩
    · rw [hat i hi]
      by_cases hl : i < l.length
      · rw [dif_pos hl, World.cell?_setCells_out g _ _ _ _ (fun _ _ => .inl hl)]
        exact hce i hl
      · rw [dif_neg hl]
        have hj : i - l.length < m.length := by rw [List.length_append] at hi; omega
        have := World.cell?_setCells_in g (u8b m) l.length w (fun j hj => by rw [u8b_len] at hj; exact (hsp _ (by omega)).1) (i - l.length) (by rw [u8b_len]; exact hj)
        rw [show l.length + (i - l.length) = i by omega] at this
        rw [this]; simp [u8b]
    · rw [World.frozen?_setCells]
      refine ⟨?_, (hsp i hi).2⟩
      by_cases hin : l.length ≤ i ∧ i < l.length + m.length
      · have := World.cell?_setCells_in g (u8b m) l.length w (fun j hj => by rw [u8b_len] at hj; exact (hsp _ (by omega)).1) (i - l.length) (by rw [u8b_len]; omega)
        rw [show l.length + (i - l.length) = i by omega] at this
        rw [this]; rfl
      · rw [World.cell?_setCells_out g _ _ _ _ (fun _ _ => by rw [u8b_len]; show i < _ ∨ _ ≤ i; omega)]
        exact (hsp i hi).1
  · have hold : (Builtin.firstCells i0.size l.length (.slice (some ⟨g, 0, none⟩) l.length cap)).run Tryd.prog w.drew = .ok (u8b l).toArray w.drew :=
      run_firstCells_some w.drew i0.size l.length ⟨g, 0, none⟩ l.length cap (u8b l) (by rw [hz1, u8b_len, Nat.mul_one]) (fun j u hu => by
        obtain ⟨hj, e⟩ := List.getElem?_eq_some_iff.1 hu
        have hj' : j < l.length := by rw [u8b_len] at hj; exact hj
        have hadd : (⟨g, 0, none⟩ : Addr).add j = ⟨g, j, none⟩ := by unfold Addr.add; split <;> simp_all
        show w.cell? _ = _
        rw [hadd, hce j hj', ← e]; simp [u8b])
    have hr := run_append_grow_src w 86 tx o.type 5 i0 (.int .u8 0) Tryd.underlying86 hi hz0 (some ⟨g, 0, none⟩) l.length cap (u8b l) hold xv m.length (u8b m) (by rw [hz1]; exact hsrc)
      (by omega) (by omega) (by rw [hz2]; exact growslice_fits (by omega) (by omega))
    have hge := grownCap_ge w (l.length + m.length) cap 5
    have hle := grownCap_le_maxLen w (l.length + m.length) cap 5 (by unfold maxLen; omega)
    generalize grownCap w (l.length + m.length) cap 5 = C at hr hge hle
    generalize hrowd : ((u8b l ++ u8b m).toArray ++ Builtin.zeroCells (Value.int .u8 0).cells (C - (l.length + m.length))) = row at hr
    have hsz : row.size = C := by
      rw [← hrowd]
      have hz1' : (Value.int IntKind.u8 0).cells.size = 1 := rfl
      simp only [Array.size_append, List.size_toArray, size_zeroCells, hz1', List.length_append, u8b_len]
      omega
    have hnew : (w.drew.alloc (.cells row 5)).heap[w.heap.size]? = some (.cells row 5 (0, 0)) := heap_alloc_new w.drew _
    refine ⟨_, _, hr, ⟨w.heap.size, C, by rw [List.length_append], hB, by show w.heap.size < (w.heap.push _).size; simp, by rw [List.length_append]; exact hge, hle, fun i hi => ?_, fun i hi => ?_⟩, (below_trans (below_drew w) (below_alloc w.drew _)).mono hB⟩
    · have hi' : i < l.length + m.length := by rw [List.length_append] at hi; exact hi
      have h2 : row[i]? = some (.int .u8 ((l ++ m)[i].toNat : Int)) := by
        rw [← hrowd, Array.getElem?_append_left (by simp [u8b]; omega)]
        rw [show u8b l ++ u8b m = u8b (l ++ m) by simp [u8b]]
        simp only [List.getElem?_toArray, u8b, List.getElem?_map, List.getElem?_eq_getElem hi, Option.map_some]
      simp only [World.cell?, hnew]
      simp [h2]
    · simp only [World.cell?, World.frozen?, hnew]
      simp [hsz, hi]
theorem src_text (w : World) (m : List UInt8) : Src Tryd.prog 1 9 (.string (bs m)) m.length (u8b m) w := by
  have := Src.ofString (P := Tryd.prog) w Tryd.underlying9 (bs m)
  rw [bs_size] at this
  have e : byteCells (bs m) = u8b m := by unfold byteCells u8b; rw [bs_list]
  rw [e] at this
  exact this
theorem src_one (w : World) (g c : Nat) (x : UInt8) (h : w.cell? ⟨g, 0, none⟩ = some (.int .u8 (x.toNat : Int))) : Src Tryd.prog 1 86 (.slice (some ⟨g, 0, none⟩) 1 c) 1 (u8b [x]) w :=
  Src.ofSlice w Tryd.underlying86 ⟨g, 0, none⟩ 1 c (u8b [x]) rfl (fun j u hu => by
    match j, hu with
    | 0, hu =>
      simp [u8b] at hu
      rw [← hu]
      exact h
    | j + 1, hu => simp [u8b] at hu) (fun u hu => by simp [u8b] at hu; rw [hu]; rfl)
/-- 'string(b)'. -/
theorem convB {w : World} {B : Nat} {v : Value} {l : List UInt8} (h : RowB w B v l) : (convert 86 9 v).run Tryd.prog w = .ok (.string (bs l)) w := by
  obtain ⟨g, cap, rfl, _, _, _, _, hc, _⟩ := h
  have := run_convert_bytes_arg (P := Tryd.prog) w 86 5 Tryd.underlying86 Tryd.underlying5 g 0 l.length cap (l.map (fun c => (c.toNat : Int))) (by simp) (fun i hi => by
      rw [Nat.zero_add, hc i hi]
      simp [List.getD, hi]) 9 Tryd.underlying9
  rw [this]
  congr 2
  apply bs_eq
  rw [strOfNums_data, List.map_map]
  conv => rhs; rw [← List.map_id l]
  apply List.map_congr_left
  intro c hc'
  simp
end Go.Proofs.YtampjipbemmicaaDoor
