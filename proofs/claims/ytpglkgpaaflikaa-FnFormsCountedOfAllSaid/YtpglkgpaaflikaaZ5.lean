/- Chapter 6: all forms (pure): level by level, and in depth; the model's own copies of rows. -/
import Derived.Test.YtpglkgpaaflikaaZ3
import Derived.Deep.RegionWith
namespace Go.Proofs.Ytpglkgpaaflikaa
open Go.RowKit Go.BigFrame Go.Maps
set_option linter.unusedSimpArgs false
set_option linter.unusedVariables false
set_option maxRecDepth 4000

/-! ### Pure -/
def mxL (b : List Int) : Int := mxS (sq b) b.length
def exts (b : List Int) : List (List Int) := (List.range ((mxL b).toNat + 1)).map fun (i : Nat) => b ++ [(i : Int) + 1]
def allF : Nat → List (List Int)
  | 0 => [[]]
  | k + 1 => (allF k).flatMap exts
def dfsF : Nat → List Int → List (List Int)
  | 0, b => [b]
  | r + 1, b => (exts b).flatMap (dfsF r)
theorem dfs_all : ∀ (r k : Nat), (allF k).flatMap (dfsF r) = allF (k + r)
  | 0, k => by
    show (allF k).flatMap (fun b => [b]) = _
    rw [Nat.add_zero]
    simp [List.flatMap_singleton']
  | r + 1, k => by
    show (allF k).flatMap (fun b => (exts b).flatMap (dfsF r)) = _
    rw [← List.flatMap_assoc]
    have := dfs_all r (k + 1)
    rw [show k + (r + 1) = k + 1 + r by omega, ← this]
    rfl
theorem dfs_nil (n : Nat) : dfsF n [] = allF n := by
  have := dfs_all n 0
  rw [Nat.zero_add] at this
  rw [← this]
  simp [allF]
theorem mxS_nonneg (s : Nat → Int) : ∀ k, 0 ≤ mxS s k
  | 0 => Int.le_refl _
  | k + 1 => by
    have := mxS_nonneg s k
    unfold mxS
    split <;> omega
theorem mxZ_congr {s t : Nat → Int} : ∀ k, (∀ i, i < k → s i = t i) → mxS s k = mxS t k
  | 0, _ => rfl
  | k + 1, h => by unfold mxS; rw [h k (Nat.lt_succ_self k), mxZ_congr k (fun i hi => h i (Nat.lt_succ_of_lt hi))]
theorem mxL_snoc (b : List Int) (x : Int) : mxL (b ++ [x]) = if mxL b > x then mxL b else x := by
  unfold mxL
  rw [List.length_append, List.length_singleton]
  show (if mxS (sq (b ++ [x])) b.length > sq (b ++ [x]) b.length then mxS (sq (b ++ [x])) b.length else sq (b ++ [x]) b.length) = _
  rw [sq_snoc rfl, mxZ_congr (s := sq (b ++ [x])) (t := sq b) b.length (fun i hi => sq_snoc_lt hi)]
/-- A form's beginning has no number greater than its length. -/
theorem exts_mx {b c : List Int} {k : Nat} (hb : b.length = k) (hm : mxL b ≤ (k : Int)) (hc : c ∈ exts b) : c.length = k + 1 ∧ mxL c ≤ ((k + 1 : Nat) : Int) := by
  unfold exts at hc
  obtain ⟨i, hi, rfl⟩ := List.mem_map.1 hc
  rw [List.mem_range] at hi
  have h0 : 0 ≤ mxL b := mxS_nonneg _ _
  refine ⟨by simp [hb], ?_⟩
  rw [mxL_snoc]
  split <;> omega
theorem allF_mx : ∀ (k : Nat) (b : List Int), b ∈ allF k → b.length = k ∧ mxL b ≤ (k : Int)
  | 0, b, h => by simp [allF] at h; subst h; exact ⟨rfl, Int.le_refl _⟩
  | k + 1, b, h => by
    obtain ⟨a, ha, hb⟩ := List.mem_flatMap.1 h
    obtain ⟨h1, h2⟩ := allF_mx k a ha
    exact exts_mx h1 h2 hb
theorem allF_len (n : Nat) (h : n ≤ 7) : (allF n).length ≤ 1000 := by
  have : ∀ m : Fin 8, (allF m).length ≤ 1000 := by decide +kernel
  exact this ⟨n, by omega⟩
theorem allF_total (n : Nat) (h : n ≤ 7) : totalSS (allF n) ≤ 100000 := by
  have : ∀ m : Fin 8, totalSS (allF m) ≤ 100000 := by decide +kernel
  exact this ⟨n, by omega⟩

/-! ### append(s, nil...) -/
theorem run_append_none {P : Program} (w : World) (t ty e : TypeId) (i : TypeInfo) (ht : P.underlying t = some (.slice e)) (hi : P.info? e = some i) (b : Option Addr) (n c : Nat) (h : n ≤ c) :
    (Builtin.append_ #[t, t] ty #[.slice b n c, .slice none 0 0]).run P w = .ok (.slice b n c) w := by
  cases b with
  | none => simp [Builtin.append_, run_underlying ht, sizeOf, typeInfo, hi, Builtin.lenOf, Builtin.firstCells, h]
  | some a => simp [Builtin.append_, run_underlying ht, sizeOf, typeInfo, hi, Builtin.lenOf, Builtin.firstCells, h, storeCells]
theorem wpList_app0 {P : Program} (w : World) {ops : Array Oper} {rest : List Oper} {o : Oper} {a : Act} {Q : Exit → Act → World → Prop} (hgd : o.guard = none) (s x : Operand) (t : TypeId)
    (ho : o.op = .call { callee := .builtin .append, args := #[s, x], argTypes := #[t, t] })
    (e : TypeId) (i : TypeInfo) (ht : P.underlying t = some (.slice e)) (hi : P.info? e = some i) (b : Option Addr) (n c : Nat) (hs : a.eval s = .slice b n c) (hx : a.eval x = .slice none 0 0) (hn : n ≤ c)
    (h : wpList P ops Q rest (a.put o.dst (.slice b n c)) w) : wpList P ops Q (o :: rest) a w := by
  refine wpList_plain hgd fun K hK => ?_
  unfold Oper.wp execOp
  simp only [ho, resolve, invoke, builtin, Sem.run_bind, Sem.run_pure, Result.andThen_ok, List.map_toArray, List.map_cons, List.map_nil, hs, hx, run_append_none w t o.type e i ht hi b n c hn]
  exact hK _ _ h

set_option maxHeartbeats 1000000 in
theorem l1Own_any (w : World) (B : Nat) (v : Value) (xs : List Int) (ha : Ints w B v xs) (h9 : xs.length ≤ 1000) :
    Calls Try.prog 87 #[v] w fun e w' => ∃ q c, e = .returned (.slice q xs.length c) ∧ Ints w' w.heap.size (.slice q xs.length c) xs ∧ Below w.heap.size w w' := by
  obtain ⟨i0, hi, hz0, hz1, hz2⟩ := info_parts info_intT
  rcases ints_open ha with ⟨rfl, rfl⟩ | ⟨g, cap, rfl, _, hg, hn, hcp, hca, _⟩
  · clear ha
    go_enter Try.func87, Try.ntmps87
    go_wp2_with (at_builtin; refine wpList_app0 _ rfl _ _ 22 rfl 3 i0 Try.underlying22 hi (some ⟨w.heap.size, 0, none⟩) 0 0 rfl rfl (Nat.le_refl _) ?_)
    go_ret
    exact ⟨_, _, rfl, own_lit w w.heap.size 3 [] (Nat.le_refl _) (by simp [maxLen]), below_alloc _ _⟩
  · have hsrc : ∀ j u, (ivs xs)[j]? = some u → (w.alloc (.cells #[] 3)).cell? ((⟨g, 0, none⟩ : Addr).add j) = some u := fun j u hu => by
      have hj : j < xs.length := by have := get_lt hu; simpa [ivs] using this
      simp only [ivs, List.getElem?_map, List.getElem?_eq_getElem hj, Option.map_some, Option.some.injEq] at hu
      rw [add_plainL, Nat.zero_add, ← hu]
      exact ((below_alloc w _).cell (p := ⟨g, j, none⟩) hg).trans (hca j hj)
    have hone : ∀ u ∈ ivs xs, u.oneCell' = true := fun u hu => by
      simp only [ivs, List.mem_map] at hu; obtain ⟨n, _, rfl⟩ := hu; rfl
    have hlen : (ivs xs).length = xs.length := by simp [ivs]
    obtain ⟨N, hN⟩ : ∃ N, N = xs.length := ⟨_, rfl⟩
    have HN := Lib.hid hN; have HS := Lib.hid hsrc; have HO := Lib.hid hone; have HLE := Lib.hid hlen
    rw [← hN] at h9 hn ⊢
    clear ha hca hsrc hone hlen hN
    go_enter Try.func87, Try.ntmps87
    go_wp2_with (at_builtin; refine wpList_app _ rfl _ _ 22 rfl w.heap.size 3 i0 (.int .i64 0) 8 Try.underlying22 hi hz0 hz1 hz2 rfl _ 0 [] rfl (own_lit w w.heap.size 3 [] (Nat.le_refl _) (by simp [maxLen])) ⟨g, 0, none⟩ N cap (ivs xs) rfl (by rw [HLE.out]; exact HN.out.symm) HS.out HO.out ?c3 ?c4 ?c5 ?_)
    case c3 => unfold maxLen; omega
    case c4 => omega
    case c5 => simp
    intro v' w3 hown' hgrow _
    have hown2 : w3.ownsRow w.heap.size 3 1 v' N (ivs xs) := by simpa using hown'
    obtain ⟨q, c, rfl⟩ := own_slice hown2
    have R1 := Lib.hid hown2
    have R2 := Lib.hid ((below_alloc w _).grown hgrow (by simp) (fun q hq => by cases hq; exact Nat.le_refl _))
    clear hown' hown2 hgrow
    go_wp2_with fail
    go_ret
    exact ⟨_, _, rfl, by unfold Ints; rw [← HN.out]; exact R1.out, R2.out⟩
end Go.Proofs.Ytpglkgpaaflikaa
