/- AllSelfTold, CountSelfTold: the model's side. -/
import Derived.Test.YtkdoghopbefjfaaQ2
namespace Go.Proofs.Ytkdoghopbefjfaa
open Go.RowKit Go.BigFrame
set_option linter.unusedSimpArgs false
set_option linter.unusedVariables false
set_option maxRecDepth 4000

def selfO (n : Int) : Option (List (List Int)) := if 1 ≤ n ∧ n ≤ 9 then some ((selfs n.toNat [] n.toNat).map ti) else none
def cntO (n : Int) : Int := (((selfO n).getD []).length : Int)
theorem selfO_total (n : Int) : totalSS ((selfO n).getD []) ≤ 450000 ∧ ((selfO n).getD []).length ≤ 50000 ∧ ∀ r ∈ (selfO n).getD [], r.length ≤ 9 := by
  unfold selfO
  split
  · rename_i h
    have h1 := selfs_all n.toNat (by omega)
    have h2 : ∀ r ∈ (selfs n.toNat [] n.toNat).map ti, r.length ≤ 9 := by
      intro r hr
      obtain ⟨l, hl, rfl⟩ := List.mem_map.1 hr
      rw [ti_len, selfs_len n.toNat [] n.toNat (by simp) l hl]; omega
    have hb : ∀ (m : Nat) (nss : List (List Int)), (∀ r ∈ nss, r.length ≤ m) → totalSS nss ≤ m * nss.length := by
      intro m nss
      induction nss with
      | nil => intro _; simp [totalSS]
      | cons x l ih =>
        intro h
        have hx := h x (by simp)
        have := ih (fun r hr => h r (by simp [hr]))
        simp only [totalSS, List.map_cons, List.sum_cons, List.length_cons, Nat.mul_succ] at *
        omega
    have h3 := hb 9 _ h2
    rw [Option.getD_some]
    rw [List.length_map] at h3
    refine ⟨by omega, by rw [List.length_map]; exact h1, h2⟩
  · simp [totalSS]

theorem taAll_any (n : Nat) (h1 : 1 ≤ n) (h9 : n ≤ 9) : ∀ (d : Nat) (b : List Nat) (left : Nat) (w : World) (B : Nat) (v : Value), b.length + d = n → left ≤ n → IntsA w B v (ti b) → (b = [] → v = .slice none 0 0) →
    Calls Try.prog 92 #[.int .i64 (n : Int), v, .int .i64 (left : Int)] w fun e w' => RowsAOk (selfs n b left) w w' e
  | 0, b, left, w, B, v, hd, hl, ha, hn => taAll_step n b left w B v h1 h9 (by omega) hl ha hn (fun h => by omega)
  | d + 1, b, left, w, B, v, hd, hl, ha, hn => taAll_step n b left w B v h1 h9 (by omega) hl ha hn (fun _ k hk W B' u hu => by
      have := taAll_any n h1 h9 d (b ++ [k]) (left - k) W B' u (by simp; omega) (by omega) hu (fun e => by simp at e)
      rw [Int.ofNat_sub hk] at this
      exact this)

set_option maxHeartbeats 1000000 in
theorem specAllSelfTold_any (w : World) (n : Int) : Calls Try.prog 45 #[.int .i64 n] w fun e w' => TellOk (selfO n) w w' e := by
  by_cases h : 1 ≤ n ∧ n ≤ 9
  · have ho : selfO n = some ((selfs n.toNat [] n.toNat).map ti) := if_pos h
    have hd : decide ((1 : Int) ≤ n ∧ n ≤ 9) = true := decide_eq_true h
    have hall := fun W => taAll_any n.toNat (by omega) (by omega) n.toNat [] n.toNat W 0 (.slice none 0 0) (by simp) (Nat.le_refl _) (intsA_nil _ _) (fun _ => rfl)
    rw [show ((n.toNat : Nat) : Int) = n from by omega] at hall
    have HO := Lib.hid ho; have HA := Lib.hid hall; have HD := Lib.hid hd; clear ho hall hd
    go_enter Try.func45, Try.ntmps45
    go_wp2_with fail
    refine (l1In_is true _ _ _ _ HD.out).mono ?_
    rintro e w2 ⟨rfl, rfl⟩
    go_wp2_with fail
    refine (HA.out _).mono ?_
    rintro e w3 ⟨v, vs, rfl, h3, hb, _⟩
    have H3 := Lib.hid h3; have HB := Lib.hid hb; clear h3 hb
    go_wp2_with fail
    go_ret2
    exact ⟨v, vs, by rw [HO.out]; rfl, by rw [HO.out]; exact H3.out, HB.out, fun e => by rw [HO.out] at e; cases e⟩
  · have ho : selfO n = none := if_neg h
    have hd : decide ((1 : Int) ≤ n ∧ n ≤ 9) = false := decide_eq_false h
    have HO := Lib.hid ho; have HD := Lib.hid hd; clear ho hd
    go_enter Try.func45, Try.ntmps45
    go_wp2_with fail
    refine (l1In_is false _ _ _ _ HD.out).mono ?_
    rintro e w2 ⟨rfl, rfl⟩
    go_wp2_with fail
    go_ret2
    exact ⟨_, [], by rw [HO.out]; rfl, by rw [HO.out]; exact intsRA_nil _ _, below_refl _, fun _ => rfl⟩

set_option maxHeartbeats 1000000 in
theorem specCountSelfTold_any (w : World) (n : Int) : Calls Try.prog 47 #[.int .i64 n] w fun e w' => e = .returned (.tuple #[.int .i64 (cntO n), .bool (selfO n).isSome]) ∧ Below w.heap.size w w' := by
  by_cases h : 1 ≤ n ∧ n ≤ 9
  · have ho : selfO n = some ((selfs n.toNat [] n.toNat).map ti) := if_pos h
    have hd : decide ((1 : Int) ≤ n ∧ n ≤ 9) = true := decide_eq_true h
    have hall := fun W => taAll_any n.toNat (by omega) (by omega) n.toNat [] n.toNat W 0 (.slice none 0 0) (by simp) (Nat.le_refl _) (intsA_nil _ _) (fun _ => rfl)
    rw [show ((n.toNat : Nat) : Int) = n from by omega] at hall
    have hc : cntO n = (((selfs n.toNat [] n.toNat).length : Nat) : Int) := by unfold cntO; rw [ho, Option.getD_some, List.length_map]
    have HO := Lib.hid ho; have HA := Lib.hid hall; have HD := Lib.hid hd; have HC := Lib.hid hc; clear ho hall hd hc
    go_enter Try.func47, Try.ntmps47
    go_wp2_with fail
    refine (l1In_is true _ _ _ _ HD.out).mono ?_
    rintro e w2 ⟨rfl, rfl⟩
    go_wp2_with fail
    refine (HA.out _).mono ?_
    rintro e w3 ⟨v, vs, rfl, h3, hb, _⟩
    obtain ⟨q, c, hv⟩ := own_slice h3.outer
    have hvl : vs.length = (selfs n.toNat [] n.toNat).length := by rw [← h3.len, List.length_map]
    rw [hvl] at hv
    subst hv
    have HB := Lib.hid hb; clear h3 hb hvl
    go_wp2_with fail
    go_ret2
    exact ⟨by rw [HO.out, HC.out]; rfl, HB.out⟩
  · have ho : selfO n = none := if_neg h
    have hd : decide ((1 : Int) ≤ n ∧ n ≤ 9) = false := decide_eq_false h
    have hc : cntO n = 0 := by unfold cntO; rw [ho]; rfl
    have HO := Lib.hid ho; have HD := Lib.hid hd; have HC := Lib.hid hc; clear ho hd hc
    go_enter Try.func47, Try.ntmps47
    go_wp2_with fail
    refine (l1In_is false _ _ _ _ HD.out).mono ?_
    rintro e w2 ⟨rfl, rfl⟩
    go_wp2_with fail
    go_ret2
    exact ⟨by rw [HO.out, HC.out]; rfl, below_refl _⟩
end Go.Proofs.Ytkdoghopbefjfaa
