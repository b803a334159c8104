/- Texts that are drawn for chapter 8. (By tools/genv9.py.) -/
import Derived.Test.YtlcbdmmmafpchaaDoorv4
import Derived.Test.YtlcbdmmmafpchaaDooru5
import Derived.Test.YtlcbdmmmafpchaaDoorm9
import Derived.Test.YtlcbdmmmafpchaaDoormc
namespace Go.Proofs.YtlcbdmmmafpchaaDoor
open Go.RowKit Go.BigFrame Go.Deep
set_option linter.unusedSimpArgs false
set_option linter.unusedVariables false
set_option maxRecDepth 4000

theorem lit_texts (w : World) (xs : List ByteArray) (T : TypeId) : ∀ i (h : i < xs.length), (w.alloc (.cells (xs.map Value.string).toArray T)).cell? ⟨w.heap.size, i, none⟩ = some (.string xs[i]) := by
  intro i h
  have hcl := heap_alloc_new w (.cells (xs.map Value.string).toArray T)
  simp only [World.cell?, hcl]
  simp [h]

set_option maxHeartbeats 1000000 in
theorem of_c (w0 w : World) (g K b L c : Nat) (cv : Value) (ns : List Int) (xs : List ByteArray) (ha : ArgY w0 cv ns) (hc : Cur w0 w g cv K) (hK : K ≤ 100000000) (hL : xs.length = L) (h1 : 1 ≤ L) (h9 : L ≤ 100000) (hLc : L ≤ c) (hc9 : c ≤ 9223372036854775807)
    (hbg : b ≠ g) (hb : b < w.heap.size) (hx : ∀ i (h : i < xs.length), w.cell? ⟨b, i, none⟩ = some (.string xs[i])) :
    Calls Tryd.prog 69 #[.pointer (some ⟨g, 0, none⟩), .slice (some ⟨b, 0, none⟩) L c] w fun e w' => ∃ x ∈ xs, e = .returned (.string x) ∧ Cur w0 w' g cv (K + 2) ∧ w.grownBy w' (some g) := by
  have HP := Lib.hid (pick_c w0 w g K L cv ns ha hc hK h1 (by omega))
  have HX := Lib.hid hx; have HL := Lib.hid hL
  clear ha hc hx hL
  go_enter Tryd.func69, Tryd.ntmps69
  go_wp2_with fail
  refine HP.out.mono ?_
  rintro e w1 ⟨x, rfl, hx, hcu, hg⟩
  have hxl : x < xs.length := by rw [HL.out]; exact hx
  have hcell : w1.cell? ⟨b, x, none⟩ = some (.string xs[x]) := hg.cell (HX.out x hxl) (fun e => hbg (by injection e))
  have hmem := List.getElem_mem hxl
  have HM := Lib.hid hmem
  generalize xs[x] = y at hcell HM
  have HG := Lib.hid hg; have HC := Lib.hid hcu
  clear hcu hg hmem hxl
  go_wp2_with fail
  go_ret
  exact ⟨y, HM.out, rfl, HC.out, HG.out⟩

/-- A short text is drawn. -/
def TextS (w : World) (e : Ending) (w' : World) : Prop := ∃ t : ByteArray, e = .returned (.string t) ∧ t.size ≤ 100 ∧ Below w.heap.size w w'
def NumT (w : World) (e : Ending) (w' : World) : Prop := ∃ (x : Int) (t : ByteArray), e = .returned (.tuple #[.int .i64 x, .string t]) ∧ t.size ≤ 100 ∧ Below w.heap.size w w'

set_option maxHeartbeats 1000000 in
theorem drawFirstWithLetter_c (w : World) (cv : Value) (ns : List Int) (ha : ArgY w cv ns) :
    Calls Tryd.prog 31 #[cv] w fun e w' => TextS w e w' := by
  have HA := Lib.hid ha
  have hcn := cur_new w cv
  obtain ⟨A, C, rfl, _⟩ := ha
  have HC1 := Lib.hid hcn
  clear hcn
  go_enter Tryd.func31, Tryd.ntmps31
  go_wp2_with fail
  have hlt := HC1.out.lt
  have hcl := lit_texts (w.alloc (.cells #[.slice A ns.length C, .int .i64 0, .int .u64 0] 55)) [⟨#[97]⟩, ⟨#[98]⟩, ⟨#[99]⟩, ⟨#[100]⟩, ⟨#[101]⟩, ⟨#[102]⟩, ⟨#[103]⟩, ⟨#[104]⟩, ⟨#[105]⟩, ⟨#[108]⟩, ⟨#[109]⟩, ⟨#[110]⟩, ⟨#[111]⟩, ⟨#[112]⟩, ⟨#[113]⟩, ⟨#[114]⟩, ⟨#[115]⟩, ⟨#[116]⟩, ⟨#[117]⟩, ⟨#[118]⟩, ⟨#[119]⟩, ⟨#[120]⟩, ⟨#[121]⟩, ⟨#[122]⟩, ⟨#[]⟩, ⟨#[49]⟩] 9
  rw [World.size_alloc] at hcl
  refine (of_c w _ w.heap.size 0 (w.heap.size + 1) 26 26 _ ns [⟨#[97]⟩, ⟨#[98]⟩, ⟨#[99]⟩, ⟨#[100]⟩, ⟨#[101]⟩, ⟨#[102]⟩, ⟨#[103]⟩, ⟨#[104]⟩, ⟨#[105]⟩, ⟨#[108]⟩, ⟨#[109]⟩, ⟨#[110]⟩, ⟨#[111]⟩, ⟨#[112]⟩, ⟨#[113]⟩, ⟨#[114]⟩, ⟨#[115]⟩, ⟨#[116]⟩, ⟨#[117]⟩, ⟨#[118]⟩, ⟨#[119]⟩, ⟨#[120]⟩, ⟨#[121]⟩, ⟨#[122]⟩, ⟨#[]⟩, ⟨#[49]⟩] HA.out (HC1.out.later (below_alloc _ _)) (by omega) rfl (by omega) (by omega) (by omega) (by omega) (by omega) (by simp) hcl).mono ?_
  clear hcl
  rintro e w2 ⟨x, hx, rfl, hcu, hg⟩
  have HC2 := Lib.hid hcu.below
  have HX : Hid (x.size ≤ 100) := Lib.hid ((by decide : ∀ x ∈ ([⟨#[97]⟩, ⟨#[98]⟩, ⟨#[99]⟩, ⟨#[100]⟩, ⟨#[101]⟩, ⟨#[102]⟩, ⟨#[103]⟩, ⟨#[104]⟩, ⟨#[105]⟩, ⟨#[108]⟩, ⟨#[109]⟩, ⟨#[110]⟩, ⟨#[111]⟩, ⟨#[112]⟩, ⟨#[113]⟩, ⟨#[114]⟩, ⟨#[115]⟩, ⟨#[116]⟩, ⟨#[117]⟩, ⟨#[118]⟩, ⟨#[119]⟩, ⟨#[120]⟩, ⟨#[121]⟩, ⟨#[122]⟩, ⟨#[]⟩, ⟨#[49]⟩] : List ByteArray), x.size ≤ 100) x hx)
  clear hcu hg hx hlt
  go_wp2_with fail
  go_ret
  exact ⟨x, rfl, HX.out, HC2.out⟩

set_option maxHeartbeats 1000000 in
theorem drawCountLetter_c (w : World) (cv : Value) (ns : List Int) (ha : ArgY w cv ns) :
    Calls Tryd.prog 29 #[cv] w fun e w' => NumT w e w' := by
  have HP := Lib.hid (named_c w _ w.heap.size 0 cv ns ha (cur_new w cv) (by omega))
  have HA := Lib.hid ha
  obtain ⟨A, C, rfl, _⟩ := ha
  go_enter Tryd.func29, Tryd.ntmps29
  go_wp2_with fail
  refine HP.out.mono ?_
  rintro e w1 ⟨n, rfl, hw, hcu, hg⟩
  have HC1 := Lib.hid hcu
  clear hcu hg HP hw
  go_wp2_with fail
  have hlt := HC1.out.lt
  refine (of_c w _ w.heap.size 8 w1.heap.size 11 11 _ ns [⟨#[97]⟩, ⟨#[98]⟩, ⟨#[101]⟩, ⟨#[110]⟩, ⟨#[111]⟩, ⟨#[116]⟩, ⟨#[122]⟩, ⟨#[]⟩, ⟨#[97, 98]⟩, ⟨#[45]⟩, ⟨#[65]⟩] HA.out (HC1.out.later (below_alloc _ _)) (by omega) rfl (by omega) (by omega) (by omega) (by omega) (by omega) (by simp) (lit_texts w1 _ _)).mono ?_
  rintro e w2 ⟨x, hx, rfl, hcu, hg⟩
  have HC2 := Lib.hid hcu.below
  have HX : Hid (x.size ≤ 100) := Lib.hid ((by decide : ∀ x ∈ ([⟨#[97]⟩, ⟨#[98]⟩, ⟨#[101]⟩, ⟨#[110]⟩, ⟨#[111]⟩, ⟨#[116]⟩, ⟨#[122]⟩, ⟨#[]⟩, ⟨#[97, 98]⟩, ⟨#[45]⟩, ⟨#[65]⟩] : List ByteArray), x.size ≤ 100) x hx)
  clear hcu hg hx hlt
  go_wp2_with fail
  go_ret2
  exact ⟨n, x, rfl, HX.out, HC2.out⟩

set_option maxHeartbeats 2000000 in
theorem drawReadName_c (w : World) (cv : Value) (ns : List Int) (ha : ArgY w cv ns) :
    Calls Tryd.prog 27 #[cv] w fun e w' => TextS w e w' := by
  have HP := Lib.hid (named_c w _ w.heap.size 0 cv ns ha (cur_new w cv) (by omega))
  have HA := Lib.hid ha
  obtain ⟨A, C, rfl, _⟩ := ha
  go_enter Tryd.func27, Tryd.ntmps27
  go_wp2_with fail
  refine HP.out.mono ?_
  rintro e w1 ⟨n, rfl, hw, hcu, hg⟩
  have HC1 := Lib.hid hcu
  clear hcu hg HP hw
  have HG := Lib.hid (fun W => naGood_is n W)
  have main : ∀ k : Nat, k < 1000000 → ∀ W : World, Calls Tryd.prog 53 #[.int .i64 (k : Int)] W fun e w' => ∃ s : ByteArray, e = .returned (.string s) ∧ s.size ≤ 64 ∧ Below W.heap.size W w' := fun k hk W => by
    refine (naName_any k W hk).mono ?_
    rintro e w' ⟨rfl, hb⟩
    exact ⟨_, rfl, by rw [bs_size]; exact nmN_len k hk, hb⟩
  have HM := Lib.hid main
  clear main
  cases hy : nmB n with
  | false =>
    rw [hy] at HG
    have HN := Lib.hid (HM.out 21 (by omega))
    clear HM hy
    go_wp2_with fail
    refine (HG.out _).mono ?_
    rintro e w2 ⟨rfl, rfl⟩
    go_wp2_with fail
    refine (HN.out _).mono ?_
    rintro e w3 ⟨s, rfl, hs, hb⟩
    have HC3 := Lib.hid (HC1.out.later hb); clear hb HG HN
    have HP := Lib.hid (pick_c w w3 w.heap.size 8 4 _ ns HA.out HC3.out (by omega) (by omega) (by omega))
    go_wp2_with fail
    refine HP.out.mono ?_
    rintro e w4 ⟨q, rfl, hq, hcu, hg⟩
    have HC4 := Lib.hid hcu; clear hcu hg HP HC3 HC1
    match q, hq with
    | 0, _ =>
      go_wp2_with fail
      refine (spoilt_c w w4 w.heap.size 10 64 6 _ ns s _ HA.out HC4.out (by omega) hs (by omega) (by rfl) (by omega) (by omega)).mono ?_
      rintro e w5 ⟨u, rfl, hu, hcu⟩
      have HC5 := Lib.hid hcu.below; clear hcu
      go_wp2_with fail
      go_ret
      exact ⟨u, rfl, by omega, HC5.out⟩
    | 1, _ =>
      go_wp2_with fail
      have hlt := HC4.out.lt
      refine (of_c w _ w.heap.size 10 w4.heap.size 6 6 _ ns [⟨#[32, 122, 101, 114, 111]⟩, ⟨#[32, 111, 110, 101]⟩, ⟨#[32, 116, 104, 111, 117, 115, 97, 110, 100]⟩, ⟨#[32, 104, 117, 110, 100, 114, 101, 100]⟩, ⟨#[45, 111, 110, 101]⟩, ⟨#[32]⟩] HA.out (HC4.out.later (below_alloc _ _)) (by omega) rfl (by omega) (by omega) (by omega) (by omega) (by omega) (by simp) (lit_texts w4 _ _)).mono ?_
      rintro e w5 ⟨x, hx, rfl, hcu, hg⟩
      have HC5 := Lib.hid hcu.below
      have hx20 : x.size ≤ 20 := (by decide : ∀ x ∈ ([⟨#[32, 122, 101, 114, 111]⟩, ⟨#[32, 111, 110, 101]⟩, ⟨#[32, 116, 104, 111, 117, 115, 97, 110, 100]⟩, ⟨#[32, 104, 117, 110, 100, 114, 101, 100]⟩, ⟨#[45, 111, 110, 101]⟩, ⟨#[32]⟩] : List ByteArray), x.size ≤ 20) x hx
      clear hcu hg hx hlt
      go_wp2_with fail
      go_ret
      exact ⟨_, rfl, by rw [ByteArray.size_append]; omega, HC5.out⟩
    | 2, _ | 3, _ =>
      go_wp2_with fail
      go_ret
      exact ⟨s, rfl, by omega, HC4.out.below⟩
  | true =>
    rw [hy] at HG
    obtain ⟨k, rfl, hk⟩ := nmB_parts hy
    have HN := Lib.hid (HM.out k hk)
    clear HM hy
    go_wp2_with fail
    refine (HG.out _).mono ?_
    rintro e w2 ⟨rfl, rfl⟩
    go_wp2_with fail
    refine (HN.out _).mono ?_
    rintro e w3 ⟨s, rfl, hs, hb⟩
    have HC3 := Lib.hid (HC1.out.later hb); clear hb HG HN
    have HP := Lib.hid (pick_c w w3 w.heap.size 8 4 _ ns HA.out HC3.out (by omega) (by omega) (by omega))
    go_wp2_with fail
    refine HP.out.mono ?_
    rintro e w4 ⟨q, rfl, hq, hcu, hg⟩
    have HC4 := Lib.hid hcu; clear hcu hg HP HC3 HC1
    match q, hq with
    | 0, _ =>
      go_wp2_with fail
      refine (spoilt_c w w4 w.heap.size 10 64 6 _ ns s _ HA.out HC4.out (by omega) hs (by omega) (by rfl) (by omega) (by omega)).mono ?_
      rintro e w5 ⟨u, rfl, hu, hcu⟩
      have HC5 := Lib.hid hcu.below; clear hcu
      go_wp2_with fail
      go_ret
      exact ⟨u, rfl, by omega, HC5.out⟩
    | 1, _ =>
      go_wp2_with fail
      have hlt := HC4.out.lt
      refine (of_c w _ w.heap.size 10 w4.heap.size 6 6 _ ns [⟨#[32, 122, 101, 114, 111]⟩, ⟨#[32, 111, 110, 101]⟩, ⟨#[32, 116, 104, 111, 117, 115, 97, 110, 100]⟩, ⟨#[32, 104, 117, 110, 100, 114, 101, 100]⟩, ⟨#[45, 111, 110, 101]⟩, ⟨#[32]⟩] HA.out (HC4.out.later (below_alloc _ _)) (by omega) rfl (by omega) (by omega) (by omega) (by omega) (by omega) (by simp) (lit_texts w4 _ _)).mono ?_
      rintro e w5 ⟨x, hx, rfl, hcu, hg⟩
      have HC5 := Lib.hid hcu.below
      have hx20 : x.size ≤ 20 := (by decide : ∀ x ∈ ([⟨#[32, 122, 101, 114, 111]⟩, ⟨#[32, 111, 110, 101]⟩, ⟨#[32, 116, 104, 111, 117, 115, 97, 110, 100]⟩, ⟨#[32, 104, 117, 110, 100, 114, 101, 100]⟩, ⟨#[45, 111, 110, 101]⟩, ⟨#[32]⟩] : List ByteArray), x.size ≤ 20) x hx
      clear hcu hg hx hlt
      go_wp2_with fail
      go_ret
      exact ⟨_, rfl, by rw [ByteArray.size_append]; omega, HC5.out⟩
    | 2, _ | 3, _ =>
      go_wp2_with fail
      go_ret
      exact ⟨s, rfl, by omega, HC4.out.below⟩
end Go.Proofs.YtlcbdmmmafpchaaDoor
