/- The program's findElements. -/
import Derived.Test.YtgmknehioadjhaaN5
import Derived.Test.YtgmknehioadjhaaM1
import Derived.Laws.ResultCell
import Derived.Carry
import Derived.Deep.CutRange
namespace Go.Proofs.Ytgmknehioadjhaa
open Go.RowKit Go.BigFrame Go.Maps
set_option linter.unusedSimpArgs false
set_option linter.unusedVariables false
set_option maxRecDepth 4000

theorem info_decN : (Try.prog.info? 78).map (fun i => (i.zero, i.size, i.bytes)) = some (some (.agg #[.int .i64 0, .int .i64 0]), 2, 16) := by kernel_rfl
theorem info_rowDN : (Try.prog.info? 76).map (fun i => (i.zero, i.size, i.bytes)) = some (some (.slice none 0 0), 1, 24) := by kernel_rfl
theorem blockT {W : World} {B n sz : Nat} {E : TypeId} {v : Value} {xs : List Value} (h : W.ownsRow B E sz v n xs) {g : Nat} (e : v.ownBlock = some g) : B ≤ g ∧ g < W.heap.size ∧ ∃ cur, W.heap[g]? = some (.cells cur E (0, 0)) := by
  rcases h.2 with ⟨rfl, _⟩ | ⟨g', cap, cur, rfl, hB, hg, _⟩
  · cases e
  · simp only [Value.ownBlock, Option.some.injEq] at e
    subst e
    exact ⟨hB, (Array.getElem?_eq_some_iff.1 hg).1, cur, hg⟩
section
variable {W W' w4 : World} {n₀ fb mb nd : Nat} {nsE nsM : List (List UInt8)} {ts : List Nat} {vE vT vP vD : Value}
theorem TabP.keptT (h : TabP W n₀ fb mb nd nsE nsM ts vE vT vP vD) {ob : Option Nat} {T : TypeId} (hg : W.grownBy W' ob) (hob : ∀ g, ob = some g → n₀ ≤ g ∧ ∃ cur, W.heap[g]? = some (.cells cur T (0, 0)))
    (t1 : 54 ≠ T) (t2 : 9 ≠ T) (t3 : 3 ≠ T) (t4 : 76 ≠ T) : TabP W' n₀ fb mb nd nsE nsM ts vE vT vP vD ∧ Below n₀ W W' := by
  obtain ⟨D, hD, hN⟩ := h.map
  obtain ⟨xd, hd⟩ := h.decs
  have hty : ∀ {B n : Nat} {E : TypeId} {v : Value} {xs : List Value}, W.ownsRow B E 1 v n xs → E ≠ T → ∀ g, v.ownBlock = some g → ob ≠ some g := fun hr hE g e e2 => by
    obtain ⟨_, cur, hc⟩ := hob g e2
    obtain ⟨_, _, cur2, hc2⟩ := blockT hr e
    rw [hc] at hc2; simp at hc2; exact hE hc2.2.symm
  refine ⟨h.kept hg (fun e => ?_) (fun e => ?_) (hty h.names t2) (hty h.times t3) (hty hd t4), below_grown h.base hg (fun g e => (hob g e).1)⟩
  · obtain ⟨_, cur, hc⟩ := hob _ e
    rw [h.obj] at hc; simp at hc; exact t1 hc.2
  · obtain ⟨_, cur, hc⟩ := hob _ e
    exact map_obj hD hc rfl
theorem TabP.st_parts (h : TabP W n₀ fb mb nd nsE nsM ts vE vT vP vD) (v : Value) : TabP (W.setCell ⟨fb, 3, none⟩ v) n₀ fb mb nd nsE nsM ts vE vT v vD ∧ Below n₀ W (W.setCell ⟨fb, 3, none⟩ v) := by
  obtain ⟨D, hD, hN⟩ := h.map
  obtain ⟨xd, hd⟩ := h.decs
  exact ⟨⟨by simp; exact h.base, h.low, set_obj h.obj, row_set h.obj h.names (by decide), ⟨D, hD.setCell (fun e => map_obj hD h.obj e.symm) _, hN⟩, row_set h.obj h.times (by decide), ⟨xd, row_set h.obj hd (by decide)⟩⟩, Below.setCell (Below.refl _ _) h.low.1 _⟩
theorem TabP.st_decs (h : TabP W n₀ fb mb nd nsE nsM ts vE vT vP vD) {xd : List Value} (hd : W.ownsRow n₀ 76 1 vD nd xd) {o : Obj} {v3 x : Value} (hown : w4.ownsRow n₀ 76 1 v3 (nd + 1) (xd ++ [x])) (hg : (W.alloc o).grownBy w4 vD.ownBlock) :
    TabP (w4.setCell ⟨fb, 4, none⟩ v3) n₀ fb mb (nd + 1) nsE nsM ts vE vT vP v3 ∧ w4.heap[fb]? = some (.cells #[vE, .map (some mb), vT, vP, vD] 54 (0, 0)) ∧ Below n₀ W (w4.setCell ⟨fb, 4, none⟩ v3) := by
  obtain ⟨D, hD, hN⟩ := h.map
  have hk : ∀ g, g < W.heap.size → vD.ownBlock ≠ some g → w4.heap[g]? = W.heap[g]? := fun g h1 h2 => (hg.block g (by simp; omega) (fun e => h2 e.symm)).trans (heap_alloc_old _ _ h1)
  have hg2 : W.grownBy w4 vD.ownBlock := (World.grownBy_alloc W o vD.ownBlock).trans hg
  have ho := (hk fb h.lt (not_row3 h.obj (by decide) hd)).trans h.obj
  have hD4 : OwnS w4 mb nsM.length D := hD.kept hg2 (fun e => map_row hD hd e.symm)
  have hn4 : Strs w4 n₀ vE nsE := own_block h.names (fun g hg' => hk g (h.names.lt g hg').2 (fun e => ne_types hd h.names (by decide) e hg'))
  have ht4 : Ints w4 n₀ vT (natsI ts) := own_block h.times (fun g hg' => hk g (h.times.lt g hg').2 (fun e => ne_types hd h.times (by decide) e hg'))
  exact ⟨⟨by simp; have := h.base; have := hg2.size; omega, h.low, set_obj ho, row_set ho hn4 (by decide), ⟨D, hD4.setCell (fun e => map_obj hD4 ho e.symm) _, hN⟩, row_set ho ht4 (by decide), ⟨_, row_set ho hown (by decide)⟩⟩, ho, Below.setCell (below_grown h.base hg2 (fun g e => (hd.lt g e).1)) h.low.1 _⟩
end
theorem strs_pos {W : World} {B : Nat} {v : Value} {ls : List (List UInt8)} (h : Strs W B v ls) (h0 : ls ≠ []) : ∃ g c, v = .slice (some ⟨g, 0, none⟩) ls.length c ∧ B ≤ g ∧ g < W.heap.size ∧ ∀ i (hi : i < ls.length), W.cell? ⟨g, i, none⟩ = some (.string (bs ls[i])) := by
  rcases strs_open h with ⟨_, e⟩ | ⟨g, c, rfl, h1, h2, _, _, h3, _⟩
  · exact absurd e h0
  · exact ⟨g, c, rfl, h1, h2, h3⟩
theorem ints_posN {W : World} {B : Nat} {v : Value} {xs : List Nat} (h : Ints W B v (natsI xs)) (h0 : 0 < xs.length) : ∃ g c, v = .slice (some ⟨g, 0, none⟩) xs.length c ∧ B ≤ g ∧ g < W.heap.size ∧ ∀ i (hi : i < xs.length), W.cell? ⟨g, i, none⟩ = some (.int .i64 (xs[i] : Nat)) := by
  rcases ints_open h with ⟨_, e⟩ | ⟨g, c, rfl, h1, h2, _, _, h3, _⟩
  · have := congrArg List.length e; rw [natsI_len] at this; simp only [List.length_nil] at this; omega
  · refine ⟨g, c, by rw [natsI_len], h1, h2, fun i hi => ?_⟩
    have := h3 i (by rw [natsI_len]; exact hi)
    simpa [natsI] using this
theorem take_any2 (W : World) (n₀ fb mb nd : Nat) (ns : List (List UInt8)) (ts : List Nat) (vE vT vP vD : Value) (P : List (List UInt8)) (Bq gq cap N t : Nat) (ti : Int) (hti : ti = (t : Nat))
    (hT : TabP W n₀ fb mb nd ns ns ts vE vT vP vD) (hns : ns.length ≤ 200) (hok : ∀ p ∈ ns, p.length ≤ 60) (hP : Strs W Bq (.slice (some ⟨gq, 0, none⟩) N cap) P) (hN : N = P.length) (hP9 : N ≤ 121) (hpl : ∀ x ∈ P, x.length ≤ 200) (hne : vE.ownBlock ≠ some gq) (ht : t ≤ 1000) (hts : ts.length = ns.length) :
    Calls Try.prog 58 #[.pointer (some ⟨fb, 0, none⟩), .slice (some ⟨gq, 0, none⟩) N cap, .int .i64 ti] W fun e W' => TakePost W W' e n₀ fb mb nd ns ts t P vE vT vP vD := by
  subst hti
  exact take_any W n₀ fb mb nd ns ts vE vT vP vD P Bq gq cap N t hT hns hok hP hN hP9 hpl hne ht hts
theorem set_grown (W : World) (fr i : Nat) (a : Value) : W.grownBy (W.setCell ⟨fr, i, none⟩ a) (some fr) :=
  ⟨rfl, rfl, rfl, by simp, fun k _ hk => Below.heap_setCell _ _ _ _ (fun e => hk (by rw [e]))⟩
theorem five_sets (W : World) (fr : Nat) (a0 a1 a2 a3 a4 : Value) : W.grownBy (((((W.setCell ⟨fr, 0, none⟩ a0).setCell ⟨fr, 1, none⟩ a1).setCell ⟨fr, 2, none⟩ a2).setCell ⟨fr, 3, none⟩ a3).setCell ⟨fr, 4, none⟩ a4) (some fr) :=
  ((((set_grown W fr 0 a0).trans (set_grown _ fr 1 a1)).trans (set_grown _ fr 2 a2)).trans (set_grown _ fr 3 a3)).trans (set_grown _ fr 4 a4)
/-! ### the rows of decays -/
section
variable {W W' w4 : World} {n₀ fb mb nd top K : Nat} {ns ns1 : List (List UInt8)} {ts : List Nat} {vE vT vP vD v3 rv : Value} {o : Obj}
theorem taken_rows (hT : TabP W n₀ fb mb nd ns ns ts vE vT vP vD) (hf : FrK W W' fb mb vE vT) (h : RowsD W n₀ top vD K ns1) : RowsD W' n₀ top vD K ns1 := by
  obtain ⟨D, hD, _⟩ := hT.map
  obtain ⟨xd, h4, _⟩ := id h
  refine RowsX.keep h (fun g cur _ hg => hf g (Array.getElem?_eq_some_iff.1 hg).1 (other_obj hg hT.obj (by decide)) (map_obj hD hg) (not_row3 hg (by decide) hT.names) (not_row3 hg (by decide) hT.times)) (fun g e => hf g (h4.lt g e).2 (fun e2 => ?_) (fun e2 => map_row hD h4 (by rw [e, e2])) (fun e2 => ne_types hT.names h4 (by decide) e2 e) (fun e2 => ne_types hT.times h4 (by decide) e2 e)) (Nat.le_refl _)
  subst e2; exact not_row3 hT.obj (by decide) h4 e
theorem taken_ints (hT : TabP W n₀ fb mb nd ns ns ts vE vT vP vD) (hf : FrK W W' fb mb vE vT) {l : List Int} (h : Ints W n₀ rv l) (hne : ∀ g, rv.ownBlock = some g → vT.ownBlock ≠ some g) : Ints W' n₀ rv l := by
  obtain ⟨D, hD, _⟩ := hT.map
  refine own_block h (fun g e => hf g (h.lt g e).2 (fun e2 => ?_) (fun e2 => map_row hD h (by rw [e, e2])) (fun e2 => ne_types hT.names h (by decide) e2 e) (hne g e))
  subst e2; exact not_row3 hT.obj (by decide) h e
theorem decs_keep (hT : TabP W n₀ fb mb nd ns ns ts vE vT vP vD) (hg : (W.alloc o).grownBy w4 vD.ownBlock) : ∀ g, g < W.heap.size → vD.ownBlock ≠ some g → g ≠ fb → (w4.setCell ⟨fb, 4, none⟩ v3).heap[g]? = W.heap[g]? := fun g h1 h2 h3 =>
  (Below.heap_setCell _ _ _ _ h3).trans ((hg.block g (by simp; omega) (fun e => h2 e.symm)).trans (heap_alloc_old _ _ h1))
theorem decs_row (hT : TabP W n₀ fb mb nd ns ns ts vE vT vP vD) {xd : List Value} {p : List UInt8} {B : Nat} (h4 : W.ownsRow n₀ 76 1 vD K xd) (h5 : ∀ k, k < K → ∃ p u, ns1[k]? = some p ∧ xd[k]? = some u ∧ RowX 78 W n₀ top u (sdP p).length (encD k (linkL ns1 p)) ∧ ∀ q ∈ sdP p, q ∈ ns1)
    (hown : w4.ownsRow n₀ 76 1 v3 (K + 1) (xd ++ [rv])) (hg : (W.alloc o).grownBy w4 vD.ownBlock) (htop : top ≤ W.heap.size) (hp : ns1[K]? = some p) (hr : W.ownsRow B 78 2 rv (sdP p).length (encD K (linkL ns1 p))) (hB : n₀ ≤ B) (hm : ∀ q ∈ sdP p, q ∈ ns1) (h0 : 0 < (sdP p).length) :
    RowsD (w4.setCell ⟨fb, 4, none⟩ v3) n₀ (w4.setCell ⟨fb, 4, none⟩ v3).heap.size v3 (K + 1) ns1 := by
  have hsz := hg.size
  rw [World.size_alloc] at hsz
  have hk := decs_keep (v3 := v3) hT hg
  have ho : w4.heap[fb]? = some (.cells #[vE, .map (some mb), vT, vP, vD] 54 (0, 0)) := ((hg.block fb (by have := hT.lt; simp; omega) (fun e => not_row3 hT.obj (by decide) h4 e.symm)).trans (heap_alloc_old _ _ hT.lt)).trans hT.obj
  have hdec : ∀ (g : Nat) (cur : Array Value), W.heap[g]? = some (.cells cur 78 (0, 0)) → (w4.setCell ⟨fb, 4, none⟩ v3).heap[g]? = W.heap[g]? := fun g cur he =>
    hk g (Array.getElem?_eq_some_iff.1 he).1 (not_row3 he (by decide) h4) (other_obj he hT.obj (by decide))
  refine RowsX.snoc h4 h5 (fun g cur _ he => hdec g cur he) (by simp; omega) (row_set ho hown (by decide)) hp ?_ hm
  exact (RowX.of_own hr h0 (by decide) hB).keep (fun g cur _ he => hdec g cur he) (by simp; omega)
end
theorem encD_snoc (K : Nat) (xs : List Nat) {j : Nat} (hj : j < xs.length) : encD K (xs.take (j + 1)) = encD K (xs.take j) ++ [.int .i64 (K : Nat), .int .i64 (xs[j] : Nat)] := by
  unfold encD
  rw [List.take_succ_eq_append_getElem hj, List.flatMap_append]
  simp
/-- The times at the end. -/
def runT : Nat → Nat → List (List UInt8) → List Nat → List Nat
  | 0, _, _, ts => ts
  | f + 1, k, ns, ts => if h : k < ns.length then runT f (k + 1) (nmT ns (sdP ns[k])) (tmT ns ts (ts.getD k 0 + 1) (sdP ns[k])) else ts
theorem runT_on {f k : Nat} {ns : List (List UInt8)} {ts : List Nat} (h : k < ns.length) : runT (f + 1) k ns ts = runT f (k + 1) (nmT ns (sdP ns[k])) (tmT ns ts (ts.getD k 0 + 1) (sdP ns[k])) := by rw [runT, dif_pos h]
theorem runT_end {f k : Nat} {ns : List (List UInt8)} {ts : List Nat} (h : ¬ k < ns.length) : runT (f + 1) k ns ts = ts := by rw [runT, dif_neg h]
def timesT (P : List (List UInt8)) : List Nat := runT 201 0 (nmT [] P) (tmT [] [] 0 P)
def RunP (W : World) (n₀ : Nat) (xb : List Nat) (vT vP vD : Value) (K : Nat) (ns : List (List UInt8)) : Prop :=
  RowsD W n₀ W.heap.size vD K ns ∧ Ints W n₀ vP (natsI xb) ∧ (∀ g, vP.ownBlock = some g → vT.ownBlock ≠ some g)
/-- Behind a round's take. -/
def AfterP (n₀ : Nat) (wr wx : World) (fb mb K : Nat) (ns : List (List UInt8)) (ts : List Nat) (tk : Nat) (P2 : List (List UInt8)) (xb : List Nat) (vP vD r7 : Value) (N7 : Nat) (b7 : Bool) : Prop :=
  ∃ vE7 vT7 ns7 ts7 xs, TabP wx n₀ fb mb K ns7 ns7 ts7 vE7 vT7 vP vD ∧ List.length xs = N7 ∧ Ints wx wr.heap.size r7 (natsI xs) ∧ Below n₀ wr wx ∧
    (b7 = true → ns7 = nmT ns P2 ∧ ts7 = tmT ns ts (tk + 1) P2 ∧ okT ns P2 = true ∧ xs = ixT ns P2 ∧ ∀ g, vP.ownBlock = some g → vT7.ownBlock ≠ some g) ∧ (b7 = false → okT ns P2 = false) ∧
    RowsD wx n₀ wr.heap.size vD K ns ∧ Ints wx n₀ vP (natsI xb)
abbrev zeroF : Array Value := #[.slice none 0 0, .map none, .slice none 0 0, .slice none 0 0, .slice none 0 0]
/-- What the findings hold. -/
structure FeTab (W : World) (n₀ : Nat) (P ns : List (List UInt8)) (vE : Value) (mb : Nat) (vT vP vD : Value) (ts : List Nat) : Prop where
  names : Strs W n₀ vE ns
  map : ∃ D, OwnS W mb ns.length D ∧ NumD D ns
  lowM : n₀ ≤ mb
  times : Ints W n₀ vT (natsI ts)
  shP : ∃ a n c, vP = .slice a n c
  shD : ∃ a n c, vD = .slice a n c
  rows : RowsD W n₀ W.heap.size vD ns.length ns
  parts : Ints W n₀ vP (natsI (P.map fun p => posN p ns))
  mem : ∀ p ∈ P, p ∈ ns
  tms : ts = timesT P
def FePost (P : List (List UInt8)) (R : Option (List (List UInt8))) (w w' : World) (e : Ending) : Prop :=
  (R = none → e = .returned (.tuple #[.agg zeroF, .bool false])) ∧
  (∀ ns, R = some ns → ∃ vE mb vT vP vD ts, e = .returned (.tuple #[.agg #[vE, .map (some mb), vT, vP, vD], .bool true]) ∧ FeTab w' w.heap.size P ns vE mb vT vP vD ts) ∧ Below w.heap.size w w'

theorem feTab_end {wr W' : World} {n₀ fb mb K M : Nat} {P ns : List (List UInt8)} {ts xb : List Nat} {am : Option Addr} {cm : Nat} {vT vP vD : Value} {cs : Array Value} (hM : M = ns.length)
    (hT : TabP wr (n₀ + 1) fb mb K ns ns ts (.slice am ns.length cm) vT vP vD) {D : DataW Unit} (hD : OwnS wr mb ns.length D) (hND : NumD D ns) (hg : wr.grownBy W' (some n₀)) (hob : wr.heap[n₀]? = some (.cells cs 54 (0, 0))) (hlow : n₀ + 1 ≤ mb)
    (hdr : RowsD wr (n₀ + 1) wr.heap.size vD K ns) (hK : K = ns.length) (hpi : Ints wr (n₀ + 1) vP (natsI xb)) (hx : xb = P.map (fun p => posN p ns) ∧ ∀ p ∈ P, p ∈ ns) (hts : ts = timesT P) (shP : ∃ a n c, vP = .slice a n c) (shD : ∃ a n c, vD = .slice a n c) :
    FeTab W' n₀ P ns (.slice am M cm) mb vT vP vD ts := by
  subst hM; subst hK
  have hk : ∀ g, g < wr.heap.size → n₀ + 1 ≤ g → W'.heap[g]? = wr.heap[g]? := fun g h1 h2 => hg.block g h1 (fun e => by have := Option.some.inj e; omega)
  obtain ⟨xd, h4, _⟩ := id hdr
  refine ⟨own_mono (own_block hT.names (fun g e => hk g (hT.names.lt g e).2 (hT.names.lt g e).1)) (Nat.le_succ _), ⟨D, hD.kept hg (fun e => by have := Option.some.inj e; omega), hND⟩, by omega, own_mono (own_block hT.times (fun g e => hk g (hT.times.lt g e).2 (hT.times.lt g e).1)) (Nat.le_succ _), shP, shD, ?_, ?_, hx.2, hts⟩
  · exact RowsX.mono (RowsX.keep hdr (fun g cur _ he => hg.block g (Array.getElem?_eq_some_iff.1 he).1 (fun e => other_obj he hob (by decide) (Option.some.inj e))) (fun g e => hk g (h4.lt g e).2 (h4.lt g e).1) hg.size) (Nat.le_succ _)
  · rw [← hx.1]
    exact own_mono (own_block hpi (fun g e => hk g (hpi.lt g e).2 (hpi.lt g e).1)) (Nat.le_succ _)

set_option maxHeartbeats 4000000 in
theorem findElements_any (s : ByteArray) (w : World) (hs : s.size ≤ maxLen) (R : Option (List (List UInt8))) (hR : R = if elB s.data.toList = true then tabF s.data.toList else none) :
    Calls Try.prog 37 #[.string s] w fun e w' => FePost (partsL s.data.toList) R w w' e := by
  obtain ⟨i0, hi, hz0, hz1, hz2⟩ := info_parts info_int5
  obtain ⟨j0, ji, jz0, jz1, jz2⟩ := info_parts info_rowDN
  obtain ⟨d0, di, dz0, dz1, dz2⟩ := info_parts info_decN
  have hmm := @run_makeMap Try.prog
  have HSH := Lib.hid (fun W => isShort_any s W hs)
  obtain ⟨y, hy⟩ : ∃ y, y = elB s.data.toList := ⟨_, rfl⟩
  rw [← hy] at hR HSH
  cases y with
  | false =>
    have HR : Hid (R = none) := Lib.hid (by rw [hR]; rfl)
    clear hR hy
    go_enter Try.func37, Try.ntmps37
    go_wp2_with fail
    refine (HSH.out _).mono ?_
    rintro e w1 ⟨rfl, hb⟩
    have HB := Lib.hid hb
    have hob : w1.heap[w.heap.size]? = some (.cells zeroF 54 (0, 0)) := by rw [hb.block w.heap.size (by simp)]; exact heap_alloc_new w _
    clear hb
    have k0 : w1.cell? ⟨w.heap.size, 0, none⟩ = some (.slice none 0 0) := by simp only [World.cell?, hob]; rfl
    have k1 : w1.cell? ⟨w.heap.size, 1, none⟩ = some (.map none) := by simp only [World.cell?, hob]; rfl
    have k2 : w1.cell? ⟨w.heap.size, 2, none⟩ = some (.slice none 0 0) := by simp only [World.cell?, hob]; rfl
    have k3 : w1.cell? ⟨w.heap.size, 3, none⟩ = some (.slice none 0 0) := by simp only [World.cell?, hob]; rfl
    have k4 : w1.cell? ⟨w.heap.size, 4, none⟩ = some (.slice none 0 0) := by simp only [World.cell?, hob]; rfl
    have f0 : w1.frozen? ⟨w.heap.size, 0, none⟩ = false := by simp only [World.frozen?, hob]; simp
    have f1 : w1.frozen? ⟨w.heap.size, 1, none⟩ = false := by simp only [World.frozen?, hob]; simp
    have f2 : w1.frozen? ⟨w.heap.size, 2, none⟩ = false := by simp only [World.frozen?, hob]; simp
    have f3 : w1.frozen? ⟨w.heap.size, 3, none⟩ = false := by simp only [World.frozen?, hob]; simp
    have f4 : w1.frozen? ⟨w.heap.size, 4, none⟩ = false := by simp only [World.frozen?, hob]; simp
    clear hob
    go_wp2_with fail
    refine bodyPost_ret (v := .tuple #[.agg zeroF, .bool false]) ?_ rfl ⟨fun _ => rfl, fun ns h => (by rw [HR.out] at h; cases h), ?_⟩
    · simp [results, Try.results37, go_sem, k0, k1, k2, k3, k4]
    · exact ((((((below_alloc w _).trans (HB.out.mono (by simp))).setCell (by simp) _).setCell (by simp) _).setCell (by simp) _).setCell (by simp) _).setCell (by simp) _
  | true =>
    obtain ⟨hsp, hs60⟩ : sayB s.data.toList = true ∧ s.size ≤ 60 := by
      obtain ⟨_, h1, h2⟩ := elB_parts hy.symm
      exact ⟨h1, by rw [← size_list]; exact h2⟩
    have hpt := fun W => cutAtSplits_any s W hsp (by omega)
    obtain ⟨P, hP⟩ : ∃ P, P = partsL s.data.toList := ⟨_, rfl⟩
    rw [← hP] at hpt ⊢
    have hrun : R = runF 201 0 (nmT [] P) := by rw [hR, hP]; rfl
    have hpok := parts_ok hsp
    rw [← hP, size_list] at hpok
    have hPn : P ≠ [] := by rw [hP]; intro e; have := congrArg List.length e; rw [partsL_len] at this; simp at this
    have hP9 : P.length ≤ 61 := by rw [hP]; have := parts_len hsp; rw [size_list] at this; omega
    have HPT := Lib.hid hpt; have HRUN := Lib.hid hrun; have HPOK := Lib.hid hpok; have HPN := Lib.hid hPn; have HP9 := Lib.hid hP9
    clear hpt hP hrun hpok hPn hy hR hsp hP9
    go_enter Try.func37, Try.ntmps37
    go_wp2_with fail
    refine (HSH.out _).mono ?_
    rintro e w1 ⟨rfl, hb⟩
    have HB := Lib.hid hb
    have hs1 := hb.size
    rw [World.size_alloc] at hs1
    have hob : w1.heap[w.heap.size]? = some (.cells zeroF 54 (0, 0)) := by rw [hb.block w.heap.size (by simp)]; exact heap_alloc_new w _
    have HOB := Lib.hid hob
    clear hb hob
    have hT2 : TabP ((w1.alloc (.map #[] 0)).alloc (.cells #[.slice none 0 0, .map (some w1.heap.size), .slice none 0 0, .slice none 0 0, .slice none 0 0] 54)) (w.heap.size + 1) (w1.heap.size + 1) w1.heap.size 0 [] [] [] (.slice none 0 0) (.slice none 0 0) (.slice none 0 0) (.slice none 0 0) := by
      refine ⟨by simp; omega, ⟨by omega, hs1⟩, ?_, World.ownsRow_nil _ _ _ _, ⟨_, (World.ownsMap_made w1 _ _ _).alloc _, numD_empty⟩, World.ownsRow_nil _ _ _ _, ⟨[], World.ownsRow_nil _ _ _ _⟩⟩
      have := heap_alloc_new (w1.alloc (.map #[] 0)) (.cells #[.slice none 0 0, .map (some w1.heap.size), .slice none 0 0, .slice none 0 0, .slice none 0 0] 54)
      rw [World.size_alloc] at this
      exact this
    have HT2 := Lib.hid hT2
    clear hT2
    go_wp2_with fail
    refine (HPT.out _).mono ?_
    rintro e w3 ⟨v, rfl, hv, hb3⟩
    obtain ⟨gq, cq, rfl, _, hgq, _⟩ := strs_pos hv HPN.out
    have hT3 := HT2.out.below hb3
    have hbw3 : Below w.heap.size w w3 := ((((below_alloc w _).trans (HB.out.mono (by simp))).alloc (by omega) _).alloc (by simp; omega) _).trans (hb3.mono (by simp; omega))
    have hob3 : w3.heap[w.heap.size]? = some (.cells zeroF 54 (0, 0)) := by
      rw [hb3.block w.heap.size (by simp; omega), heap_alloc_old _ _ (by simp; omega), heap_alloc_old _ _ (by omega)]
      exact HOB.out
    have hok0 : okT [] P = true := by
      unfold okT
      have h1 : bigP P = false := by
        unfold bigP; rw [List.any_eq_false]; intro x hx; have := (HPOK.out x hx).2; simp; omega
      have h2 := (nmT_len P []).2
      have h3 := HP9.out
      rw [h1]; simp at h2 ⊢; omega
    have hnmk0 : NmOk (nmT [] P) := nmOk_take (fun p hp => by simp at hp) (fun x hx => (HPOK.out x hx).1) (fun x hx => by have := (HPOK.out x hx).2; omega)
    have hnl0 : (nmT [] P).length ≤ 61 := by have h2 := (nmT_len P []).2; have h3 := HP9.out; simp at h2; omega
    have htk := take_any w3 (w.heap.size + 1) (w1.heap.size + 1) w1.heap.size 0 [] [] _ _ _ _ P _ gq cq P.length 0 hT3 (by simp) (fun p hp => by simp at hp) hv rfl (by have := HP9.out; omega) (fun x hx => by have := (HPOK.out x hx).2; omega) (by simp [Value.ownBlock]) (by omega) rfl
    have HT3 := Lib.hid hT3
    have HTK := Lib.hid htk; have HBW3 := Lib.hid hbw3; have HOB3 := Lib.hid hob3; have HOK0 := Lib.hid hok0; have HNMK0 := Lib.hid hnmk0
    clear hv hb3 hT3 hbw3 hob3 hok0 hnmk0 htk
    go_wp2_with fail
    refine HTK.out.mono ?_
    rintro e w4 hpost
    obtain ⟨rv, vE, vT, rfl, hT4, hrow4, hvt4, hap4⟩ := hpost.1 HOK0.out
    obtain ⟨ra, rc, rfl⟩ := own_slice hrow4
    have hb4 := hpost.2.2.1
    have hT5 := hT4.st_parts (.slice ra P.length rc)
    have kp : w4.cell? ⟨w1.heap.size + 1, 3, none⟩ = some (.slice none 0 0) := by simp [World.cell?, hT4.obj]
    have fp : w4.frozen? ⟨w1.heap.size + 1, 3, none⟩ = false := by simp [World.frozen?, hT4.obj]
    have hob5 : (w4.setCell ⟨w1.heap.size + 1, 3, none⟩ (.slice ra P.length rc)).heap[w.heap.size]? = some (.cells zeroF 54 (0, 0)) := by
      rw [hT5.2.block w.heap.size (by omega), hb4.block w.heap.size (by omega)]; exact HOB3.out
    have hbw5 : Below w.heap.size w (w4.setCell ⟨w1.heap.size + 1, 3, none⟩ (.slice ra P.length rc)) := (HBW3.out.trans (hb4.mono (by omega))).trans (hT5.2.mono (by omega))
    obtain ⟨xb, hxb⟩ : ∃ xb, xb = ixT [] P := ⟨_, rfl⟩
    have hpi5 : Ints (w4.setCell ⟨w1.heap.size + 1, 3, none⟩ (.slice ra P.length rc)) (w.heap.size + 1) (.slice ra P.length rc) (natsI xb) := by
      have h1 := row_set (i := 3) (v := .slice ra P.length rc) hT4.obj hrow4 (by decide)
      have h2 := own_mono h1 (show w.heap.size + 1 ≤ w3.heap.size by have := HT3.out.base; omega)
      unfold Ints
      rw [natsI_len, hxb, ixT_len]
      exact h2
    have hrich : ∀ ns, R = some ns → xb = P.map (fun p => posN p ns) ∧ ∀ p ∈ P, p ∈ ns := fun ns h => by
      have hq := runF_pos _ _ _ _ (HRUN.out.symm.trans h)
      refine ⟨?_, fun p hp => (hq p (mem_nmT_new P [] hp)).1⟩
      rw [hxb, ixT_map]
      exact List.map_congr_left (fun p hp => ((hq p (mem_nmT_new P [] hp)).2).symm)
    have HPI5 := Lib.hid hpi5; have HRICH := Lib.hid hrich; have HAP4 := Lib.hid hap4
    clear hpi5 hrich hap4 hvt4 hxb
    have HT5 := Lib.hid hT5.1; have HOB5 := Lib.hid hob5; have HBW5 := Lib.hid hbw5
    clear hpost hT4 hrow4 hb4 hT5 hob5 hbw5
    go_wp2_with fail
    go_loopw [5, 6, 7] (fun _ okv fv wr => ∃ (okb : Bool) (K : Nat), okv = .bool okb ∧ fv = .int .i64 K ∧ K ≤ 201 ∧ Hid (wr.heap[w.heap.size]? = some (.cells zeroF 54 (0, 0)) ∧ Below w.heap.size w wr ∧
      (okb = true → ∃ ns ts vE vT vP vD, K ≤ 200 ∧ ns.length ≤ 200 ∧ runF (201 - K) K ns = R ∧ NmOk ns ∧ TabP wr (w.heap.size + 1) (w1.heap.size + 1) w1.heap.size K ns ns ts vE vT vP vD ∧ ts.length = ns.length ∧ (∀ x ∈ ts, x ≤ K) ∧ (∃ a n c, vP = .slice a n c) ∧ RunP wr (w.heap.size + 1) xb vT vP vD K ns ∧ runT (201 - K) K ns ts = timesT P) ∧ (okb = false → R = none))) (fun _ _ fv _ => 202 - (intOf fv).toNat)
    case atStart =>
      refine ⟨true, 0, rfl, rfl, by omega, Lib.hid ⟨HOB5.out, HBW5.out, fun _ => ⟨nmT [] P, tmT [] [] 0 P, vE, vT, _, _, by omega, by omega, HRUN.out.symm, HNMK0.out, HT5.out, tmT_len _ _ _ _ rfl, tmT_le _ _ _ _ 0 (by simp) (by omega), ⟨_, _, _, rfl⟩, ⟨RowsX.nil0, HPI5.out, HAP4.out⟩, rfl⟩, fun h => (by cases h)⟩⟩
    case round =>
      obtain ⟨okb, K, rfl, rfl, hK, HX⟩ := hrel
      obtain ⟨hob, hbw, hyes, hno⟩ := HX.out
      have k0 : wr.cell? ⟨w.heap.size, 0, none⟩ = some (.slice none 0 0) := by simp only [World.cell?, hob]; rfl
      have k1 : wr.cell? ⟨w.heap.size, 1, none⟩ = some (.map none) := by simp only [World.cell?, hob]; rfl
      have k2 : wr.cell? ⟨w.heap.size, 2, none⟩ = some (.slice none 0 0) := by simp only [World.cell?, hob]; rfl
      have k3 : wr.cell? ⟨w.heap.size, 3, none⟩ = some (.slice none 0 0) := by simp only [World.cell?, hob]; rfl
      have k4 : wr.cell? ⟨w.heap.size, 4, none⟩ = some (.slice none 0 0) := by simp only [World.cell?, hob]; rfl
      have f0 : wr.frozen? ⟨w.heap.size, 0, none⟩ = false := by simp only [World.frozen?, hob]; simp
      have f1 : wr.frozen? ⟨w.heap.size, 1, none⟩ = false := by simp only [World.frozen?, hob]; simp
      have f2 : wr.frozen? ⟨w.heap.size, 2, none⟩ = false := by simp only [World.frozen?, hob]; simp
      have f3 : wr.frozen? ⟨w.heap.size, 3, none⟩ = false := by simp only [World.frozen?, hob]; simp
      have f4 : wr.frozen? ⟨w.heap.size, 4, none⟩ = false := by simp only [World.frozen?, hob]; simp
      have HOBR := Lib.hid hob; have HBWR := Lib.hid hbw
      cases okb with
      | false =>
        have HRN := Lib.hid (hno rfl)
        clear HX hob hbw hyes hno
        go_wp2_with fail
        refine bodyPost_ret (v := .tuple #[.agg zeroF, .bool false]) ?_ rfl ⟨fun _ => rfl, fun ns h => (by rw [HRN.out] at h; cases h), ?_⟩
        · simp [results, Try.results37, go_sem, k0, k1, k2, k3, k4]
        · exact ((((HBWR.out.setCell (by simp) _).setCell (by simp) _).setCell (by simp) _).setCell (by simp) _).setCell (by simp) _
      | true =>
        obtain ⟨ns, ts, vE, vT, vP, vD, hK2, hnl, hrun, hok, hT, htl, htm, ⟨pa, pn, pc, rfl⟩, ⟨hdr, hpi, hpt⟩, hrt⟩ := hyes rfl
        have hdrle := RowsX.le hdr
        obtain ⟨xd, hxd, _⟩ := id hdr
        have HDR := Lib.hid hdr; have HPI := Lib.hid hpi; have HPTT := Lib.hid hpt; have HRT := Lib.hid hrt
        clear hdr hpi hpt hrt
        obtain ⟨ad, cd, rfl⟩ := own_slice hxd
        obtain ⟨am, cm, rfl⟩ := own_slice hT.names
        obtain ⟨M, hM⟩ : ∃ M, M = ns.length := ⟨_, rfl⟩
        have e0 : wr.cell? ⟨w1.heap.size + 1, 0, none⟩ = some (.slice am M cm) := by rw [hT.cell.1, hM]
        have HM := Lib.hid hM
        by_cases hlt : K < M
        · have hltn : K < ns.length := by rw [← hM]; exact hlt
          obtain ⟨g0, c0', hv0, _, hg0, hcs0⟩ := strs_pos hT.names (by intro e; rw [e] at hltn; simp at hltn)
          obtain ⟨hps, hpl⟩ := hok ns[K] (List.getElem_mem hltn)
          obtain ⟨hd1, hd2, hd3, hd4⟩ := sd_ok hps hpl
          have hcK := hcs0 K hltn
          have hbigc : bigP (sdP ns[K]) = true → R = none := fun h => by rw [← hrun, show 201 - K = (200 - K) + 1 by omega]; exact runF_big hltn h
          have hmany : 200 < (nmT ns (sdP ns[K])).length → R = none := fun h => by rw [← hrun, show 201 - K = (200 - K) + 1 by omega]; exact runF_many hltn h
          have hon : bigP (sdP ns[K]) = false → ¬ 200 < (nmT ns (sdP ns[K])).length → runF (201 - (K + 1)) (K + 1) (nmT ns (sdP ns[K])) = R := fun h1 h2 => by
            rw [← hrun, show 201 - K = (200 - K) + 1 by omega, runF_on hltn h1 h2, show 201 - (K + 1) = 200 - K by omega]
          have hrton := HRT.out
          rw [show 201 - K = (200 - K) + 1 by omega, runT_on hltn, show 200 - K = 201 - (K + 1) by omega] at hrton
          rw [show ts.getD K 0 = ts[K]'(by rw [htl]; exact hltn) by simp [List.getD, List.getElem?_eq_getElem (show K < ts.length by rw [htl]; exact hltn)]] at hrton
          obtain ⟨p, hp⟩ : ∃ p, p = ns[K] := ⟨_, rfl⟩
          have HPK : Hid (ns[K]? = some p) := Lib.hid (by rw [hp]; exact List.getElem?_eq_getElem hltn)
          rw [← hp] at hps hpl hd1 hd2 hd3 hd4 hcK hbigc hmany hon hrton
          have hsay := fun W => sayText_long (bs p) W (by rw [bs_list]; exact hps) (by rw [bs_size]; omega)
          rw [bs_list] at hsay
          have hcut := fun W => cutAtSplits_any (bs (sayL p)) W (by rw [bs_list]; exact hd3) (by rw [bs_size]; exact hd4)
          rw [bs_list] at hcut
          have hsdl : ∀ x ∈ sdP p, x.length ≤ 200 := fun x hx => by have := (parts_ok hd3 x hx).2; omega
          obtain ⟨P2, hP2⟩ : ∃ P2, P2 = sdP p := ⟨_, rfl⟩
          rw [show partsL (sayL p) = P2 from hP2.symm] at hcut
          rw [← hP2] at hd1 hd2 hbigc hmany hon hsdl hrton
          have HP2 := Lib.hid hP2
          have hP1 : P2 ≠ [] := by rw [hP2]; intro e; have := congrArg List.length e; unfold sdP at this; rw [partsL_len] at this; simp at this
          obtain ⟨gt, ct, rfl, _, hgt, hct⟩ := ints_posN hT.times (by rw [htl]; omega)
          have hctK := hct K (by rw [htl]; exact hltn)
          have htk9 := htm ts[K] (List.getElem_mem (by rw [htl]; exact hltn))
          obtain ⟨tk, htk⟩ : ∃ tk, tk = ts[K]'(by rw [htl]; exact hltn) := ⟨_, rfl⟩
          rw [← htk] at hctK htk9 hrton
          have HRTON := Lib.hid hrton
          clear hrton
          rw [htl, ← hM] at hT
          have e2 : wr.cell? ⟨w1.heap.size + 1, 2, none⟩ = some (.slice (some ⟨gt, 0, none⟩) M ct) := hT.cell.2.2.1
          have hfl := hT.lt
          have hwr : IntKind.i64.wrap ((tk : Int) + 1) = ((tk + 1 : Nat) : Int) := by rw [IntWalk.i64_in _ (by omega)]; omega
          rw [← hM] at hv0
          cases hv0
          obtain ⟨N2, hN2⟩ : ∃ N2, N2 = P2.length := ⟨_, rfl⟩
          have hcut2 : ∀ W, Calls Try.prog 59 #[.string (bs (sayL p))] W fun e W' => ∃ g c, e = .returned (.slice (some ⟨g, 0, none⟩) N2 c) ∧ W.heap.size ≤ g ∧ Strs W' W.heap.size (.slice (some ⟨g, 0, none⟩) N2 c) P2 ∧ Below W.heap.size W W' := fun W => (hcut W).mono (by
            rintro e W' ⟨v, rfl, hv, hb⟩
            obtain ⟨g, c, rfl, h1, h2, _⟩ := strs_pos hv hP1
            exact ⟨g, c, by rw [hN2], h1, by rw [hN2]; exact hv, hb⟩)
          rw [← hN2] at hd2
          have HN2 := Lib.hid hN2
          have htake : ∀ (w5 w6 : World) (g6 c6 : Nat), Below wr.heap.size wr w5 → Below w5.heap.size w5 w6 → w5.heap.size ≤ g6 → Strs w6 w5.heap.size (.slice (some ⟨g6, 0, none⟩) N2 c6) P2 →
              Calls Try.prog 58 #[.pointer (some ⟨w1.heap.size + 1, 0, none⟩), .slice (some ⟨g6, 0, none⟩) N2 c6, .int .i64 ((tk : Int) + 1)] w6 fun e w7 =>
                ∃ r7 N7 rc7 b7, e = .returned (.tuple #[.slice r7 N7 rc7, .bool b7]) ∧ N7 ≤ 121 ∧ Hid (AfterP (w.heap.size + 1) wr w7 (w1.heap.size + 1) w1.heap.size K ns ts tk P2 xb (.slice pa pn pc) (.slice ad K cd) (.slice r7 N7 rc7) N7 b7) := fun w5 w6 g6 c6 hb5 hb6 hg6 hv6 =>
            (take_any2 w6 (w.heap.size + 1) (w1.heap.size + 1) w1.heap.size K ns ts _ _ _ _ P2 _ g6 c6 N2 (tk + 1) _ (by omega) ((hT.below hb5).below hb6) hnl (fun p hp => (hok p hp).2) hv6 hN2 hd2 hsdl (by have := hb5.size; simp [Value.ownBlock] at this ⊢; omega) (by omega) htl).mono (by
              rintro e w7 ⟨hyes, hnot, hb7, hfk⟩
              have hT6 := (hT.below hb5).below hb6
              have hdr7 := taken_rows hT6 hfk ((HDR.out.below hb5).below hb6)
              have hpi7 := taken_ints hT6 hfk (own_below (own_below HPI.out hb5) hb6) HPTT.out
              have hs5 : wr.heap.size ≤ w5.heap.size := hb5.size
              have hs6 := hb6.size
              have hbs := hT.base
              have hbb : Below (w.heap.size + 1) wr w7 := ((hb5.mono (by omega)).trans (hb6.mono (by omega))).trans hb7
              cases hokT : okT ns P2 with
              | true =>
                obtain ⟨rv, vE7, vT7, rfl, hT7, hr7, hvt7, hap7⟩ := hyes hokT
                have hil := ixT_len P2 ns
                obtain ⟨r7, rc7, rfl⟩ := own_slice hr7
                refine ⟨r7, _, rc7, true, rfl, by omega, Lib.hid ⟨vE7, vT7, _, _, ixT ns P2, hT7, hil, ?_, hbb, (fun _ => ⟨rfl, rfl, hokT, rfl, fun g e e2 => HPTT.out g e (hvt7 g (by have := (HPI.out.lt g e).2; omega) e2)⟩), (fun h => (by cases h)), hdr7, hpi7⟩⟩
                have h2 := own_mono hr7 (show wr.heap.size ≤ w6.heap.size by omega)
                unfold Ints
                rw [natsI_len, hil]
                exact h2
              | false =>
                obtain ⟨ns7, ts7, vE7, vT7, rfl, hT7⟩ := hnot hokT
                exact ⟨none, 0, 0, false, rfl, by omega, Lib.hid ⟨vE7, vT7, ns7, ts7, [], hT7, rfl, World.ownsRow_nil _ _ _ _, hbb, (fun h => (by cases h)), (fun _ => hokT), hdr7, hpi7⟩⟩)
          have HTAKE := Lib.hid htake
          have hsay2 : ∀ W, W = wr.drew → Calls Try.prog 60 #[.string (bs p)] W fun e w5 => e = .returned (.string (bs (sayL p))) ∧ Below wr.heap.size wr w5 := fun W hW => by
            subst hW
            exact (hsay wr.drew).mono (fun e w5 h => ⟨h.1, (Below.refl _ _).drew.trans h.2⟩)
          have HSAY := Lib.hid hsay2; have HCUT := Lib.hid hcut2; have HOK := Lib.hid hok; have HT := Lib.hid hT; have HTL := Lib.hid htl; have HTM := Lib.hid htm; have HD1 := Lib.hid hd1; have HSDL := Lib.hid hsdl
          have HBIG := Lib.hid hbigc; have HMANY := Lib.hid hmany; have HON := Lib.hid hon; have HP1 := Lib.hid hP1; have HXD := Lib.hid hxd
          have hszK := hT.base
          clear HX hob hbw hyes hno hrun hok hT htl htm hxd hps hpl hd1 hd3 hd4 hbigc hmany hon hp hsay hsay2 hcut hcut2 hsdl hP2 hP1 hct htk hM hN2 hcs0 htake
          go_upto_region 9 with fail
          go_cut [5, 6] from 25 to 73 (fun pv okv wx => ∃ r7 N7 rc7 b7, pv = .slice r7 N7 rc7 ∧ okv = .bool b7 ∧ N7 ≤ 121 ∧ Hid (AfterP (w.heap.size + 1) wr wx (w1.heap.size + 1) w1.heap.size K ns ts tk P2 xb (.slice pa pn pc) (.slice ad K cd) (.slice r7 N7 rc7) N7 b7))
          case first =>
            go_region_law? (first
              | (go_simp; go_at_call 60; refine (HSAY.out _ rfl).mono ?_; rintro e w5 ⟨rfl, hb5⟩; have q2 := (hb5.cell (p := ⟨w1.heap.size + 1, 2, none⟩) hfl).trans e2; have qK := (hb5.cell (p := ⟨gt, K, none⟩) hgt).trans hctK; have hs5 : wr.heap.size ≤ w5.heap.size := hb5.size; have HB5 := Lib.hid hb5; clear hb5)
              | (go_simp; go_at_call 59; refine (HCUT.out _).mono ?_; rintro e w6 ⟨g6, c6, rfl, hg6B, hv6, hb6⟩; have r2 := (hb6.cell (p := ⟨w1.heap.size + 1, 2, none⟩) (show w1.heap.size + 1 < w5.heap.size by omega)).trans q2; have rK := (hb6.cell (p := ⟨gt, K, none⟩) (show gt < w5.heap.size by omega)).trans qK; have HB6 := Lib.hid hb6; have HV6 := Lib.hid hv6; clear hb6 hv6)
              | (go_simp; go_at_call 58; with_reducible refine (HTAKE.out w5 w6 g6 c6 HB5.out HB6.out hg6B HV6.out).mono ?_; rintro e w7 ⟨r7, N7, rc7, b7, rfl, hN7, HX7⟩))
            all_goals
              go_wp2_with fail
              go_meet
              exact ⟨r7, N7, rc7, b7, rfl, rfl, hN7, HX7⟩
          case rest =>
            obtain ⟨r7, N7, rc7, b7, rfl, rfl, hN7, HX7⟩ := hcut
            obtain ⟨vE7, vT7, ns7, ts7, xs, hT7, hxl, hxs, hb7, hy7, hn7, hdr7, hpi7⟩ := HX7.out
            have HDR7 := Lib.hid hdr7; have HPI7 := Lib.hid hpi7
            clear hdr7 hpi7
            have hs7 := hb7.size
            have HT7 := Lib.hid hT7; have HXS := Lib.hid hxs; have HB7 := Lib.hid hb7; have HY7 := Lib.hid hy7; have HN7 := Lib.hid hn7
            have HXL := Lib.hid hxl
            have hK9 : K ≤ 200 := hK2
            clear HX7 hT7 hxs hb7 hy7 hn7 hxl
            go_wp2_with (refine wpList_make_own _ rfl _ _ 76 rfl wc.heap.size 78 d0 (.agg #[.int .i64 0, .int .i64 0]) 2 Try.underlying76 di dz0 dz1 .i64 .i64 (N7 : Int) N7 rfl rfl rfl (by rw [dz2]; omega) (by unfold maxLen; omega) (Nat.le_refl _) ?_; intro w8 hown hgr; have HO := Lib.hid hown; have HG := Lib.hid hgr; clear hown hgr)
            go_loopw [8, 57] (fun lv jv wq => ∃ j : Nat, j ≤ N7 ∧ jv = .int .i64 j ∧ lv = .slice (some ⟨wc.heap.size, 0, none⟩) j N7 ∧ Hid (wq.ownsRow wc.heap.size 78 2 (.slice (some ⟨wc.heap.size, 0, none⟩) j N7) j (encD K (xs.take j)) ∧ Below wc.heap.size wc wq)) (fun _ jv _ => N7 - (intOf jv).toNat)
            case atStart =>
              exact ⟨0, by omega, rfl, rfl, Lib.hid ⟨HO.out, below_grown (Nat.le_refl _) HG.out (fun g e => by cases e)⟩⟩
            case round =>
              obtain ⟨j, hj, rfl, rfl, HX⟩ := hrel
              obtain ⟨hys, hbq⟩ := HX.out
              have HYS := Lib.hid hys; have HBQ := Lib.hid hbq
              by_cases hjn : j < N7
              · obtain ⟨gr, cr, er, _, hgr7, hcr⟩ := ints_posN HXS.out (by rw [HXL.out]; omega)
                rw [HXL.out] at er
                cases er
                have hxj := hcr j (by rw [HXL.out]; exact hjn)
                obtain ⟨x, hx⟩ : ∃ x, x = xs[j]'(by rw [HXL.out]; exact hjn) := ⟨_, rfl⟩
                rw [← hx] at hxj
                have HSN : Hid (encD K (xs.take (j + 1)) = encD K (xs.take j) ++ [.int .i64 (K : Nat), .int .i64 (x : Nat)]) := Lib.hid (by rw [hx]; exact encD_snoc K xs (by rw [HXL.out]; exact hjn))
                have hxq := (hbq.cell (p := ⟨gr, j, none⟩) hgr7).trans hxj
                clear HX hys hbq hcr hxj hx
                go_wp2_with (at_builtin; refine wpList_append_fits _ rfl _ _ 76 rfl wc.heap.size 78 d0 2 Try.underlying76 di dz1 wc.heap.size j N7 (encD K (xs.take j)) rfl (HYS.out.alloc _) _ 1 1 [.int .i64 (K : Nat), .int .i64 (x : Nat)] rfl rfl ?c1 ?c2 (by omega) ?_)
                case c1 => intro i u hi'; rcases i with _ | _ | i <;> simp at hi' <;> (subst hi'; simp [Addr.add])
                case c2 => intro u hu; simp at hu; rcases hu with rfl | rfl <;> rfl
                intro w9 hown9 hgr9
                have HO9 := Lib.hid hown9
                have hb9 : Below wc.heap.size wc w9 := HBQ.out.trans ((below_alloc _ _).mono HBQ.out.size |>.trans (below_grown (by have := HBQ.out.size; simp; omega) hgr9 (fun g e => by have := Option.some.inj e; omega)))
                have HB9 := Lib.hid hb9
                clear hown9 hgr9 hb9
                go_wp2_with fail
                go_roundw
                case rel =>
                  exact ⟨j + 1, by omega, by go_num, rfl, Lib.hid ⟨by rw [HSN.out]; exact HO9.out, HB9.out⟩⟩
                case measure => simp [intOf] <;> omega
              · obtain rfl : j = N7 := by omega
                have hT9 := HT7.out.below hbq
                have hs9 := hbq.size
                have hdr9 := HDR7.out.below hbq
                have hpi9 := own_below HPI7.out hbq
                obtain ⟨xd, hxd, h5⟩ := hdr9.names P2
                have H5 := Lib.hid h5; have HPI9 := Lib.hid hpi9
                clear h5 hdr9 hpi9
                have e4 := hT9.cell.2.2.2.1
                have HT9 := Lib.hid hT9; have HXD := Lib.hid hxd
                clear HX hys hbq hT9 hxd
                go_wp2_with (at_builtin; refine wpList_app _ rfl _ _ 52 rfl (w.heap.size + 1) 76 j0 (.slice none 0 0) 24 Try.underlying52 ji jz0 jz1 jz2 rfl _ K _ rfl (HXD.out.alloc _) _ 1 1 [.slice (some ⟨wc.heap.size, 0, none⟩) j j] rfl rfl ?c1 ?c2 ?c3 ?c4 ?c5 ?_)
                case c1 => intro i u hi'; cases i with | zero => (simp at hi'; subst hi'; simp [Addr.add]) | succ i => simp at hi'
                case c2 => intro u hu; simp at hu; subst hu; rfl
                case c3 => unfold maxLen; omega
                case c4 => omega
                case c5 => simp; omega
                intro v' w10 hown' hgrow hwh
                obtain ⟨hT10, ho10, hb10⟩ := HT9.out.st_decs HXD.out hown' hgrow
                have hkeep := decs_keep (v3 := v') HT9.out hgrow
                have hpi10 := own_block HPI9.out (fun g e => hkeep g (HPI9.out.lt g e).2 (fun e2 => ne_types HXD.out HPI9.out (by decide) e2 e) (fun e2 => by subst e2; exact not_row3 HT9.out.obj (by decide) HPI9.out e))
                have hrow10 : b7 = true → RowsD (w10.setCell ⟨w1.heap.size + 1, 4, none⟩ v') (w.heap.size + 1) (w10.setCell ⟨w1.heap.size + 1, 4, none⟩ v').heap.size v' (K + 1) (nmT ns P2) := fun hb => by
                  obtain ⟨_, _, _, q4, _⟩ := HY7.out hb
                  have hsdl : (sdP p).length = j := by rw [← HP2.out, ← HXL.out, q4, ixT_len]
                  refine decs_row HT9.out HXD.out H5.out hown' hgrow (by omega) (nmT_get P2 ns HPK.out) (B := wc.heap.size) ?_ (by omega) (fun q hq => by rw [← HP2.out] at hq; exact mem_nmT_new _ _ hq) (by rw [← HP2.out]; exact Nat.pos_of_ne_zero (fun e => HP1.out (List.eq_nil_of_length_eq_zero e)))
                  rw [hsdl]
                  have e1 : linkL (nmT ns P2) p = xs.take j := by
                    rw [List.take_of_length_le (by rw [HXL.out]; exact Nat.le_refl _), q4, HP2.out]
                    exact linkL_ix ns p
                  rw [e1]
                  exact HYS.out
                have HPI10 := Lib.hid hpi10; have HROW10 := Lib.hid hrow10
                clear hkeep hpi10 hrow10
                obtain ⟨a3, c3, rfl⟩ := own_slice hown'
                have hx4 : w10.cell? ⟨w1.heap.size + 1, 4, none⟩ = some (.slice ad K cd) := by simp [World.cell?, ho10]
                have hf4 : w10.frozen? ⟨w1.heap.size + 1, 4, none⟩ = false := by simp [World.frozen?, ho10]
                have HT10 := Lib.hid hT10; have HB10 := Lib.hid hb10
                clear hT10 ho10 hb10 hown' hgrow hwh
                go_wp2_with fail
                go_roundw
                case rel =>
                  refine ⟨b7, K + 1, rfl, by go_num, by omega, Lib.hid ⟨?_, ?_, fun hb => ?_, fun hb => ?_⟩⟩
                  · exact (HB10.out.block w.heap.size (by omega)).trans ((HBQ.out.block w.heap.size (by have := HBWR.out.size; omega)).trans ((HB7.out.block w.heap.size (by omega)).trans HOBR.out))
                  · exact HBWR.out.trans ((HB7.out.mono (by omega)).trans ((HBQ.out.mono (by have := HBWR.out.size; omega)).trans (HB10.out.mono (by omega))))
                  · obtain ⟨q1, q2, q3, _, q5⟩ := HY7.out hb
                    subst q1; subst q2
                    have hbg : bigP P2 = false ∧ (nmT ns P2).length ≤ 200 := by
                      unfold okT at q3
                      simpa using q3
                    have hM2 := HM.out
                    exact ⟨_, _, _, _, _, _, by omega, hbg.2, HON.out hbg.1 (by omega), nmOk_take HOK.out HD1.out (bigP_no hbg.1), HT10.out, tmT_len _ _ _ _ HTL.out, tmT_le _ _ _ _ (K + 1) (fun x hx => by have := HTM.out x hx; omega) (by omega), ⟨_, _, _, rfl⟩, ⟨HROW10.out hb, HPI10.out, q5⟩, HRTON.out⟩
                  · have q := HN7.out hb
                    unfold okT at q
                    cases hbg : bigP P2 with
                    | true => exact HBIG.out hbg
                    | false => rw [hbg] at q; simp at q; exact HMANY.out q
                case measure => simp [intOf] <;> omega
        · have hRR : R = some ns := by rw [← hrun, show 201 - K = (200 - K) + 1 by omega]; exact runF_end (by rw [← hM]; exact hlt)
          obtain ⟨a2, c2, rfl⟩ := own_slice hT.times
          obtain ⟨D, hD, hND⟩ := hT.map
          have e1 := hT.cell.2.1
          have e2 : wr.cell? ⟨w1.heap.size + 1, 2, none⟩ = some (.slice a2 (natsI ts).length c2) := hT.cell.2.2.1
          have e3 : wr.cell? ⟨w1.heap.size + 1, 3, none⟩ = some (.slice pa pn pc) := by simp [World.cell?, hT.obj]
          have e4 : wr.cell? ⟨w1.heap.size + 1, 4, none⟩ = some (.slice ad K cd) := hT.cell.2.2.2.1
          have HKM : Hid (K = M) := Lib.hid (by omega)
          have hrtE := HRT.out
          rw [show 201 - K = (200 - K) + 1 by omega, runT_end (by rw [← hM]; exact hlt)] at hrtE
          have HRTE := Lib.hid hrtE
          clear hrtE
          have HRR := Lib.hid hRR; have HT := Lib.hid hT; have HD := Lib.hid hD; have HND := Lib.hid hND
          clear HX hob hbw hyes hno hrun hok hT htl htm hxd hD hND hRR hM
          go_wp2_with fail
          have hg5 := five_sets wr w.heap.size (.slice am M cm) (.map (some w1.heap.size)) (.slice a2 (natsI ts).length c2) (.slice pa pn pc) (.slice ad K cd)
          have HG5 := Lib.hid hg5
          clear hg5
          refine bodyPost_ret (v := .tuple #[.agg #[.slice am M cm, .map (some w1.heap.size), .slice a2 (natsI ts).length c2, .slice pa pn pc, .slice ad K cd], .bool true]) ?_ rfl ⟨fun h => (by rw [HRR.out] at h; cases h), fun ns' h => ?_, ?_⟩
          · simp [results, Try.results37, go_sem, k0, k1, k2, k3, k4]
          · rw [HRR.out] at h
            cases h
            exact ⟨_, _, _, _, _, ts, rfl, feTab_end HM.out HT.out HD.out HND.out HG5.out HOBR.out (by omega) HDR.out (HKM.out.trans HM.out) HPI.out (HRICH.out _ HRR.out) HRTE.out ⟨_, _, _, rfl⟩ ⟨_, _, _, rfl⟩⟩
          · exact HBWR.out.trans (below_grown (by have := HBWR.out.size; omega) HG5.out (fun g e => by have := Option.some.inj e; omega))
end Go.Proofs.Ytgmknehioadjhaa
