/- The program's leadsBack: pure, the clone of a row of decays. -/
import Derived.Test.YtgmknehioadjhaaMX
import Derived.Lib.SliceRun
namespace Go.Proofs.Ytgmknehioadjhaa
open Go.RowKit Go.BigFrame Go.Maps
set_option linter.unusedSimpArgs false
set_option linter.unusedVariables false
set_option maxRecDepth 4000

def encL (al : List (Nat × Nat)) : List Value := al.flatMap fun p => [.int .i64 (p.1 : Nat), .int .i64 (p.2 : Nat)]
theorem encL_map (k : Nat) (l : List Nat) : encL (l.map fun x => (k, x)) = encD k l := by unfold encL encD; simp [List.flatMap_map]
theorem encL_app (a b : List (Nat × Nat)) : encL (a ++ b) = encL a ++ encL b := by unfold encL; simp
theorem encL_len (al : List (Nat × Nat)) : (encL al).length = 2 * al.length := by
  induction al with
  | nil => rfl
  | cons p r ih => unfold encL at ih ⊢; rw [List.flatMap_cons]; simp only [List.length_append, List.length_cons, List.length_nil]; omega
theorem encL_at : ∀ (al : List (Nat × Nat)) (i : Nat) (hi : i < al.length), (encL al)[i * 2]? = some (.int .i64 (al[i].1 : Nat)) ∧ (encL al)[i * 2 + 1]? = some (.int .i64 (al[i].2 : Nat))
  | [], i, hi => by simp at hi
  | p :: r, 0, _ => ⟨rfl, rfl⟩
  | p :: r, i + 1, hi => by
    have := encL_at r i (by simpa using hi)
    rw [show (i + 1) * 2 = i * 2 + 1 + 1 by omega]
    exact this
theorem encL_one (al : List (Nat × Nat)) : ∀ u ∈ encL al, u.oneCell' = true := by
  intro u hu
  unfold encL at hu
  obtain ⟨p, _, h⟩ := List.mem_flatMap.1 hu
  simp at h
  rcases h with rfl | rfl <;> rfl
def LbInv (rows : Nat → List Nat) (a n : Nat) (al : List (Nat × Nat)) (at_ : Nat) (fb : List Bool) : Prop :=
  at_ ≤ al.length ∧ fb.length = n * n ∧ (∀ p ∈ al, p.1 < n ∧ p.2 < n ∧ Rch rows a p.2) ∧ (∀ z ∈ rows a, (a, z) ∈ al) ∧ (∀ p ∈ al.take at_, p.2 ≠ a ∧ ∀ z ∈ rows p.2, (p.2, z) ∈ al) ∧
    (∀ f z, f < n → z < n → (fb.getD (f * n + z) false = true ↔ (f, z) ∈ al.take at_)) ∧ al.length ≤ 121 + 121 * fb.count true
theorem pair_lt {f z n : Nat} (hf : f < n) (hz : z < n) : f * n + z < n * n := by
  have h : (f + 1) * n ≤ n * n := Nat.mul_le_mul_right n hf
  rw [Nat.add_mul] at h; omega
theorem pair_inj {f z f' z' n : Nat} (hz : z < n) (hz' : z' < n) (h : f * n + z = f' * n + z') : f = f' ∧ z = z' := by
  have h1 : (f * n + z) % n = z := by rw [Nat.add_comm, Nat.add_mul_mod_self_right]; exact Nat.mod_eq_of_lt hz
  have h2 : (f' * n + z') % n = z' := by rw [Nat.add_comm, Nat.add_mul_mod_self_right]; exact Nat.mod_eq_of_lt hz'
  have hzz : z = z' := by rw [← h1, ← h2, h]
  subst hzz
  have h3 : f * n = f' * n := by omega
  exact ⟨Nat.eq_of_mul_eq_mul_right (by omega) h3, rfl⟩
section
variable {rows : Nat → List Nat} {a n at_ f z : Nat} {al : List (Nat × Nat)} {fb : List Bool}
theorem LbInv.start (ha : a < n) (hr : ∀ k, k < n → AllLt n (rows k)) (hl : ∀ k, k < n → (rows k).length ≤ 121) : LbInv rows a n ((rows a).map fun x => (a, x)) 0 (List.replicate (n * n) false) := by
  refine ⟨by omega, by simp, fun p hp => ?_, fun z hz => List.mem_map.2 ⟨z, hz, rfl⟩, fun p hp => by simp at hp, fun f z _ _ => ?_, ?_⟩
  · obtain ⟨x, hx, rfl⟩ := List.mem_map.1 hp
    exact ⟨ha, hr a ha x hx, Rch.step hx⟩
  · have : (List.replicate (n * n) false).getD (f * n + z) false = false := by
      simp only [List.getD, List.getElem?_replicate]
      split <;> rfl
    rw [this]; simp
  · have := hl a ha
    simp; omega
theorem LbInv.len (h : LbInv rows a n al at_ fb) : al.length ≤ 121 + 121 * (n * n) := by
  obtain ⟨_, h2, _, _, _, _, h7⟩ := h
  have := List.count_le_length (a := true) (l := fb)
  omega
theorem LbInv.skip (h : LbInv rows a n al at_ fb) (hlt : at_ < al.length) (hf : (al[at_].1, al[at_].2) ∈ al.take at_) : LbInv rows a n al (at_ + 1) fb := by
  obtain ⟨h1, h2, h3, h4, h5, h6, h7⟩ := h
  have hm : ∀ p, p ∈ al.take (at_ + 1) ↔ p ∈ al.take at_ := fun p => by
    rw [List.take_succ_eq_append_getElem hlt, List.mem_append]
    constructor
    · rintro (hp | hp)
      · exact hp
      · simp at hp; rw [hp]; exact hf
    · exact .inl
  exact ⟨by omega, h2, h3, h4, fun p hp => h5 p ((hm p).1 hp), fun f z hf' hz' => by rw [h6 f z hf' hz', hm], h7⟩
theorem LbInv.add (h : LbInv rows a n al at_ fb) (hlt : at_ < al.length) (hfe : f = al[at_].1) (hze : z = al[at_].2) (hza : z ≠ a) (hnf : (f, z) ∉ al.take at_) (hr : ∀ k, k < n → AllLt n (rows k)) (hl : ∀ k, k < n → (rows k).length ≤ 121) :
    LbInv rows a n (al ++ (rows z).map fun x => (z, x)) (at_ + 1) (fb.set (f * n + z) true) := by
  obtain ⟨h1, h2, h3, h4, h5, h6, h7⟩ := h
  obtain ⟨hfn, hzn, hrz⟩ := h3 _ (List.getElem_mem hlt)
  rw [← hfe] at hfn
  rw [← hze] at hzn hrz
  have hpl : f * n + z < fb.length := by rw [h2]; exact pair_lt hfn hzn
  have hfb : fb.getD (f * n + z) false = false := by
    cases hc : fb.getD (f * n + z) false with
    | false => rfl
    | true => exact absurd ((h6 f z hfn hzn).1 hc) hnf
  have hat : al[at_] = (f, z) := by rw [hfe, hze]
  have htk : (al ++ (rows z).map fun x => (z, x)).take (at_ + 1) = al.take at_ ++ [(f, z)] := by
    rw [List.take_append_of_le_length (by omega), List.take_succ_eq_append_getElem hlt, hat]
  refine ⟨by simp; omega, by simpa using h2, fun p hp => ?_, fun y hy => List.mem_append_left _ (h4 y hy), fun p hp => ?_, fun f' z' hf' hz' => ?_, ?_⟩
  · rcases List.mem_append.1 hp with hp | hp
    · exact h3 p hp
    · obtain ⟨x, hx, rfl⟩ := List.mem_map.1 hp
      exact ⟨hzn, hr z hzn x hx, hrz.next hx⟩
  · rw [htk, List.mem_append] at hp
    rcases hp with hp | hp
    · exact ⟨(h5 p hp).1, fun y hy => List.mem_append_left _ ((h5 p hp).2 y hy)⟩
    · simp at hp
      subst hp
      exact ⟨hza, fun y hy => List.mem_append_right _ (List.mem_map.2 ⟨y, hy, rfl⟩)⟩
  · rw [getD_put hpl, htk, List.mem_append]
    by_cases e : f' * n + z' = f * n + z
    · obtain ⟨rfl, rfl⟩ := pair_inj hz' hzn e
      simp
    · rw [if_neg e, h6 f' z' hf' hz']
      constructor
      · exact .inl
      · rintro (hp | hp)
        · exact hp
        · simp at hp; exact absurd (by rw [hp.1, hp.2]) e
  · rw [count_put fb _ hpl hfb, List.length_append, List.length_map]
    have := hl z hzn
    omega
theorem LbInv.fin (h : LbInv rows a n al at_ fb) (hlt : ¬ at_ < al.length) : ¬ Rch rows a a := by
  obtain ⟨h1, h2, h3, h4, h5, h6, h7⟩ := h
  have hfull : al.take at_ = al := List.take_of_length_le (by omega)
  rw [hfull] at h5
  intro hr
  obtain ⟨f, hf⟩ := hr (fun x => ∃ f, (f, x) ∈ al) (fun y hy => ⟨a, h4 y hy⟩) (fun y ⟨f, hf⟩ z hz => ⟨y, (h5 _ hf).2 z hz⟩)
  exact (h5 _ hf).1 rfl
end

theorem info_decX : (Try.prog.info? 78).map (fun i => (i.zero, i.size, i.bytes)) = some (some (.agg #[.int .i64 0, .int .i64 0]), 2, 16) := by kernel_rfl
set_option maxHeartbeats 2000000 in
theorem cloneX_any (w : World) (g L c k : Nat) (row : List Nat) (hL : L = row.length) (hL9 : L ≤ 121) (hc : ∀ i (hi : i < row.length), w.cell? ⟨g, i * 2, none⟩ = some (.int .i64 (k : Nat)) ∧ w.cell? ⟨g, i * 2 + 1, none⟩ = some (.int .i64 (row[i] : Nat))) :
    Calls Try.prog 65 #[.slice (some ⟨g, 0, none⟩) L c] w fun e w' => ∃ v, e = .returned v ∧ w'.ownsRow w.heap.size 78 2 v L (encL (row.map fun x => (k, x))) ∧ Below w.heap.size w w' := by
  obtain ⟨d0, di, dz0, dz1, dz2⟩ := info_parts info_decX
  have hnil := fun (w : World) (n c : Nat) (a : Option Addr) => Lib.run_eql_slice_nil (P := Try.prog) w 76 78 a n c 0 0 Try.underlying76
  have hcell : ∀ j u, (encL (row.map fun x => (k, x)))[j]? = some u → w.cell? ⟨g, j, none⟩ = some u := fun j u hj => by
    have hlen := encL_len (row.map fun x => (k, x))
    rw [List.length_map] at hlen
    have hjl := (List.getElem?_eq_some_iff.1 hj).1
    obtain ⟨q1, q2⟩ := encL_at (row.map fun x => (k, x)) (j / 2) (by rw [List.length_map]; omega)
    have hj2 : j / 2 < row.length := by omega
    obtain ⟨e1, e2⟩ := hc (j / 2) hj2
    rcases Nat.mod_two_eq_zero_or_one j with hm | hm
    · have e : j = j / 2 * 2 := by omega
      rw [e] at hj ⊢
      rw [q1] at hj
      rw [e1, ← Option.some.inj hj]; simp
    · have e : j = j / 2 * 2 + 1 := by omega
      rw [e] at hj ⊢
      rw [q2] at hj
      rw [e2, ← Option.some.inj hj]; simp
  have HC := Lib.hid hcell; have HL := Lib.hid hL
  clear hc hcell hL
  go_enter Try.func65, Try.ntmps65
  go_wp2_with (at_builtin; refine wpList_append_own _ rfl _ _ 76 rfl w.heap.size 78 d0 (.agg #[.int .i64 0, .int .i64 0]) 2 16 Try.underlying76 di dz0 dz1 dz2 rfl (by decide) _ 0 [] rfl (World.ownsRow_made w #[] 0 (Nat.le_refl _) (by unfold maxLen; omega) rfl) ⟨g, 0, none⟩ L c (encL (row.map fun x => (k, x))) rfl (by rw [encL_len, List.length_map, HL.out]; omega) ?c1 (encL_one _) ?c3 ?c4 ?c5 ?_)
  case c1 =>
    intro j u hj
    have hcj := HC.out j u hj
    have hlt := World.block_lt_of_cell? w _ hcj
    have e2 : (⟨g, 0, none⟩ : Addr).add j = ⟨g, j, none⟩ := by
      cases j with
      | zero => rfl
      | succ j => simp [Addr.add]
    rw [e2]
    exact ((below_alloc w _).cell (p := ⟨g, j, none⟩) hlt).trans hcj
  case c3 => unfold maxLen; omega
  case c4 => omega
  case c5 => simp
  intro v' w1 hown hgr _
  have HO := Lib.hid hown
  have HB := Lib.hid ((below_alloc w (.cells #[] 78)).grown hgr (by simp) (fun r e => by cases e; exact Nat.le_refl _))
  clear hown hgr
  go_wp2_with fail
  go_ret
  exact ⟨_, rfl, by simpa using HO.out, HB.out⟩
end Go.Proofs.Ytgmknehioadjhaa
