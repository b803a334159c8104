/- The word of runs: the program's isRun and WordOfRuns. -/
import Derived.Test.YthbjaclobllkhaaI8
import Derived.Test.YthbjaclobllkhaaE1
namespace Go.Proofs.Ythbjaclobllkhaa
open Go.RowKit Go.BigFrame
set_option linter.unusedSimpArgs false
set_option linter.unusedVariables false
set_option maxRecDepth 4000

/-- The law on append as one step of a region that draws its order. -/
theorem step_app {P : Program} {w : World} {ops : Array Oper} {o : Oper} {a : Act} {K : Act → World → Prop} {Q : Exit → Act → World → Prop} {E : Prop} (hgd : o.guard = none) (s x : Operand) (t : TypeId)
    (ho : o.op = .call { callee := .builtin .append, args := #[s, x], argTypes := #[t, t] })
    (base : Nat) (e : TypeId) (i : TypeInfo) (z : Value) (bytes : Nat) (ht : P.underlying t = some (.slice e)) (hi : P.info? e = some i) (hz : i.zero = some z)
    (hsize : i.size = 1) (hby : i.bytes = bytes) (hzs : z.cells.size = 1)
    (v : Value) (n : Nat) (xs : List Value) (hs : a.eval s = v) (hown : w.ownsRow base e 1 v n xs)
    (ad : Addr) (m c : Nat) (news : List Value) (hx : a.eval x = .slice (some ad) m c) (hl : news.length = m) (hnews : ∀ j u, news[j]? = some u → w.cell? (ad.add j) = some u) (h1 : ∀ u ∈ news, u.oneCell' = true)
    (h63 : n + m ≤ maxLen) (hbytes : (n + m) * bytes ≤ 140737488355328) (hbase : base ≤ w.heap.size)
    (h : ∀ v' w', w'.ownsRow base e 1 v' (n + m) (xs ++ news) → w.grownBy w' v.ownBlock → (v'.ownBlock = v.ownBlock ∨ v'.ownBlock = some w.heap.size) → K (a.put o.dst v') w') :
    if Region.wanted o (yielded ops a.tmps) = true then Oper.wp P o a w K Q else E := by
  have hwt : Region.wanted o (yielded ops a.tmps) = true := by simp [Region.wanted, hgd]
  rw [if_pos hwt]
  obtain ⟨v', w', hr, h2, h3, h4⟩ := run_append_own (P := P) w base t o.type e i z 1 bytes ht hi hz hsize hby hzs (by decide) v n xs hown ad m c news (by omega) hnews h1 h63 hbytes hbase
  have hw := append_where w base t o.type e i z bytes ht hi hz hsize hby hzs v n xs hown ad m c news hl hnews h1 h63 hbytes v' w' hr
  unfold Oper.wp execOp
  simp only [ho, resolve, invoke, builtin, Sem.run_bind, Sem.run_pure, Result.andThen_ok, List.map_toArray, List.map_cons, List.map_nil, hs, hx, hr]
  exact h v' w' h2 h3 hw

def isRunB (row : List Int) : Bool := decide (row.length = 2 ∧ 1 ≤ row.getD 0 0 ∧ row.getD 0 0 ≤ 9 ∧ 1 ≤ row.getD 1 0)
def dgw (d : Int) : UInt8 := UInt8.ofNat (48 + d.toNat)
theorem dgw_nat (d : Int) (h0 : 0 ≤ d) (h1 : d ≤ 9) : ((dgw d).toNat : Int) = 48 + d := by
  unfold dgw
  rw [UInt8.toNat_ofNat', Nat.mod_eq_of_lt (by omega)]; omega
def worStep (st : Option (List UInt8 × Int)) (row : List Int) : Option (List UInt8 × Int) :=
  match st with
  | none => none
  | some (t, b) => if isRunB row = true ∧ row.getD 0 0 ≠ b ∧ row.getD 1 0 ≤ 400 - (t.length : Int) then some (t ++ List.replicate (row.getD 1 0).toNat (dgw (row.getD 0 0)), row.getD 0 0) else none
def worL (nss : List (List Int)) : Option (List UInt8 × Int) := nss.foldl worStep (some ([], 0))
theorem worL_succ (nss : List (List Int)) (k : Nat) (h : k < nss.length) : worL (nss.take (k + 1)) = worStep (worL (nss.take k)) nss[k] := by
  unfold worL; rw [List.take_succ_eq_append_getElem h, List.foldl_append]; rfl
theorem fold_none (l : List (List Int)) : l.foldl worStep none = none := by
  induction l with
  | nil => rfl
  | cons a r ih => simpa [worStep] using ih
theorem worL_none (nss : List (List Int)) (k : Nat) (h : worL (nss.take k) = none) : worL nss = none := by
  conv => lhs; rw [← List.take_append_drop k nss]
  unfold worL at *
  rw [List.foldl_append, h, fold_none]
def wordO (nss : List (List Int)) : Option (List UInt8) := match worL nss with
  | some (t, _) => if goodL t = true then some t else none
  | none => none

theorem isDigit9_is (b : Bool) (n : Int) (w : World) (h : decide (1 ≤ n ∧ n ≤ 9) = b) :
    Calls Try.prog 40 #[.int .i64 n] w fun e w' => e = .returned (.bool b) ∧ w = w' := by
  have H := Lib.hid h; clear h
  go_enter Try.func40, Try.ntmps40
  go_wp2_with fail
  refine (isWithin_is b _ _ _ _ H.out).mono ?_
  rintro e w1 ⟨rfl, rfl⟩
  go_wp2_with fail
  go_ret
  exact ⟨rfl, rfl⟩

set_option maxHeartbeats 1000000 in
theorem isRun_any (w : World) (B : Nat) (u : Value) (row : List Int) (ha : Ints w B u row) :
    Calls Try.prog 62 #[u] w fun e w' => e = .returned (.bool (isRunB row)) ∧ w = w' := by
  rcases ints_open ha with ⟨rfl, rfl⟩ | ⟨g, cap, rfl, _, hg, hn, hcp, hca, _⟩
  · clear ha
    go_enter Try.func62, Try.ntmps62
    go_wp2_with fail
    go_ret
    exact ⟨rfl, rfl⟩
  · by_cases h2 : row.length = 2
    · obtain ⟨x, y, rfl⟩ : ∃ x y, row = [x, y] := by
        match row, h2 with
        | [x, y], _ => exact ⟨x, y, rfl⟩
      have c0 : w.cell? ⟨g, 0, none⟩ = some (.int .i64 x) := hca 0 (by simp)
      have c1 : w.cell? ⟨g, 1, none⟩ = some (.int .i64 y) := hca 1 (by simp)
      have hv : isRunB [x, y] = (decide (1 ≤ x ∧ x ≤ 9) && decide (1 ≤ y)) := by
        unfold isRunB
        simp only [List.getD_cons_zero, List.getD_cons_succ, List.length_cons, List.length_nil]
        rw [Bool.eq_iff_iff]; simp; omega
      have HV := Lib.hid hv
      clear ha hca hv h2
      simp only [List.length_cons, List.length_nil, Nat.zero_add] at hn ⊢
      cases hx : decide (1 ≤ x ∧ x ≤ 9) with
      | false =>
        have HX := Lib.hid hx; clear hx
        go_enter Try.func62, Try.ntmps62
        go_wp2_with fail
        refine (isDigit9_is false _ _ HX.out).mono ?_
        rintro e w1 ⟨rfl, rfl⟩
        go_wp2_with fail
        go_ret
        exact ⟨ret_bool (by rw [HV.out, HX.out]; rfl), rfl⟩
      | true =>
        have HX := Lib.hid hx; clear hx
        go_enter Try.func62, Try.ntmps62
        go_wp2_with fail
        refine (isDigit9_is true _ _ HX.out).mono ?_
        rintro e w1 ⟨rfl, rfl⟩
        go_wp2_with fail
        go_ret
        exact ⟨ret_bool (by rw [HV.out, HX.out]; simp), rfl⟩
    · have hne : ((row.length : Int) == 2) = false := by simp; omega
      have hv : Hid (isRunB row = false) := by unfold isRunB; simp; intro h; exact absurd h h2
      clear ha hca
      go_enter Try.func62, Try.ntmps62
      go_wp2_with fail
      go_ret
      exact ⟨ret_bool (by rw [hv.out]), rfl⟩
end Go.Proofs.Ythbjaclobllkhaa
