/- The program's WayOfTelling, and the law. -/
import Derived.Test.YtkdoghopbefjfaaU8
namespace Go.Proofs.Ytkdoghopbefjfaa
open Go.RowKit Go.BigFrame
set_option linter.unusedSimpArgs false
set_option linter.unusedVariables false
set_option maxRecDepth 4000

set_option maxHeartbeats 2000000 in
theorem implWayOfTelling_any (w : World) (B : Nat) (v : Value) (xs : List Int) (n : Int) (ha : IntsA w B v xs) :
    Calls Try.prog 42 #[v, .int .i64 n] w fun e w' => TellOk (wayTO xs n) w w' e := by
  have hL := tallyList_any w B v xs ha
  cases ht : tolL xs with
  | false =>
    rw [wayTO_none (fun h => by rw [ht] at h; cases h.1)]
    have hP : padO xs = zeros9 := by unfold padO; rw [if_neg (by rw [ht]; simp)]
    rw [ht, hP] at hL
    obtain ⟨a, cap, rfl, _, _⟩ := intsA_slice ha
    have HL := Lib.hid hL; clear hL ha ht hP
    go_enter Try.func42, Try.ntmps42
    go_wp2_with fail
    refine HL.out.mono ?_
    rintro e w1 ⟨rfl, hb⟩
    have HB := Lib.hid hb; clear hb
    go_wp2_with (refine wpList_putT rfl _ _ rfl w1.heap.size rfl zeros9 zeros9 rfl ⟨heap_alloc_new _ _, rfl⟩ rfl ?_; intro w2 hB2 _ hbb _; have HB2 := Lib.hid ((below_alloc w1 _).trans (hbb _ (Nat.le_refl _))); clear hbb)
    go_ret2
    exact ⟨_, _, rfl, intsRA_nil _ _, below_trans HB.out HB2.out, fun _ => rfl⟩
  | true =>
    obtain ⟨ns, rfl, h1, h9, hle⟩ := tolL_nat ht
    rw [ht, padO_ti ht] at hL
    have hp9 := pad_len ns h9
    obtain ⟨ts, hts⟩ : ∃ ts, ts = pad ns := ⟨_, rfl⟩
    rw [← hts] at hL hp9
    by_cases hn : 0 ≤ n ∧ n ≤ 40
    · rw [wayTO_ti ht hn]
      obtain ⟨N, rfl⟩ := Int.eq_ofNat_of_zero_le hn.1
      rw [Int.toNat_natCast]
      have hN : N ≤ 40 := by omega
      have hd : decide ((0 : Int) ≤ (N : Int) ∧ (N : Int) ≤ 40) = true := decide_eq_true hn
      obtain ⟨L, hLL⟩ : ∃ L, L = ns.length := ⟨_, rfl⟩
      have hcl := fun W (hb : Below w.heap.size w W) => cloneI_any W B v (ti ns) (intsA_below ha hb) (by rw [ti_len]; exact h1) (by rw [ti_len]; omega)
      have hwf := fun W B' g c (h : IntsA W B' (.slice (some ⟨g, 0, none⟩) L c) (ti ns)) (hB : B' ≤ W.heap.size) => wayFromTell_any W B' g c ns N L h hB hLL (by omega) (by omega) (by rw [hLL]; exact hle) hN
      rw [ti_len, ← hLL] at hcl
      rw [← hLL]
      obtain ⟨R, hR⟩ : ∃ R, R = rowsW L N ns := ⟨_, rfl⟩
      rw [← hR] at hwf ⊢
      obtain ⟨a, cap, rfl, _, _⟩ := intsA_slice ha
      have HL := Lib.hid hL; have HD := Lib.hid hd; have HCL := Lib.hid hcl; have HWF := Lib.hid hwf
      clear hL ha ht hd hn hcl hwf hR hLL hts hle h1 h9
      go_enter Try.func42, Try.ntmps42
      go_wp2_with fail
      refine HL.out.mono ?_
      rintro e w1 ⟨rfl, hb⟩
      have HB := Lib.hid hb; clear hb
      go_wp2_with (refine wpList_putT rfl _ _ rfl w1.heap.size rfl zeros9 ts rfl ⟨heap_alloc_new _ _, rfl⟩ hp9 ?_; intro w2 hB2 _ hbb _; have HB2 := Lib.hid ((below_alloc w1 _).trans (hbb _ (Nat.le_refl _))); clear hbb)
      refine (isWithin_is true _ _ _ _ HD.out).mono ?_
      rintro e w3 ⟨rfl, rfl⟩
      have HB3 := Lib.hid (below_trans HB.out HB2.out)
      clear hB2
      go_wp2_with fail
      refine (HCL.out w2 HB3.out).mono ?_
      rintro e w3 ⟨g, c, rfl, ho, hb⟩
      have HO := Lib.hid ho; have HB4 := Lib.hid hb; clear ho hb
      go_wp2_with fail
      refine (HWF.out w3 _ g c HO.out HB4.out.size).mono ?_
      rintro e w4 ⟨u, vs, rfl, hr, hb⟩
      have HR := Lib.hid hr; have HB5 := Lib.hid hb; clear hr hb
      go_wp2_with fail
      go_ret2
      exact ⟨u, vs, rfl, intsRA_mono HR.out HB3.out.size, below_trans HB3.out (below_trans HB4.out HB5.out), fun h => by cases h⟩
    · rw [wayTO_none (fun h => hn h.2)]
      have hd : decide ((0 : Int) ≤ n ∧ n ≤ 40) = false := decide_eq_false hn
      obtain ⟨a, cap, rfl, _, _⟩ := intsA_slice ha
      have HL := Lib.hid hL; have HD := Lib.hid hd
      clear hL ha ht hd hn hts hle h1 h9
      go_enter Try.func42, Try.ntmps42
      go_wp2_with fail
      refine HL.out.mono ?_
      rintro e w1 ⟨rfl, hb⟩
      have HB := Lib.hid hb; clear hb
      go_wp2_with (refine wpList_putT rfl _ _ rfl w1.heap.size rfl zeros9 ts rfl ⟨heap_alloc_new _ _, rfl⟩ hp9 ?_; intro w2 hB2 _ hbb _; have HB2 := Lib.hid ((below_alloc w1 _).trans (hbb _ (Nat.le_refl _))); clear hbb)
      refine (isWithin_is false _ _ _ _ HD.out).mono ?_
      rintro e w3 ⟨rfl, rfl⟩
      clear hB2
      go_wp2_with fail
      go_ret2
      exact ⟨_, _, rfl, intsRA_nil _ _, below_trans HB.out HB2.out, fun _ => rfl⟩

theorem totalSS_bound (m : Nat) : ∀ (nss : List (List Int)), (∀ r ∈ nss, r.length ≤ m) → totalSS nss ≤ m * nss.length
  | [], _ => by simp [totalSS]
  | a :: r, h => by
    have h1 := h a List.mem_cons_self
    have h2 := totalSS_bound m r (fun x hx => h x (List.mem_cons_of_mem _ hx))
    simp only [totalSS, List.map_cons, List.sum_cons, List.length_cons, Nat.mul_add] at *
    omega
theorem wayTO_total (xs : List Int) (n : Int) : totalSS ((wayTO xs n).getD []) ≤ 400 := by
  unfold wayTO
  split
  · rename_i h
    obtain ⟨ns, rfl, h1, h9, hle⟩ := tolL_nat h.1
    have e : (ti ns).map Int.toNat = ns := by simp only [ti, List.map_map]; exact List.map_id ns
    rw [e, ti_len, Option.getD_some]
    have := totalSS_bound 9 (rowsW ns.length n.toNat ns) (fun r hr => by
      unfold rowsW at hr
      obtain ⟨m, hm, rfl⟩ := List.mem_map.1 hr
      have := (wayN_mem ns.length n.toNat ns rfl hle m hm).1
      rw [ti_len]; omega)
    rw [rowsW_len] at this
    omega
  · simp [totalSS]

end Go.Proofs.Ytkdoghopbefjfaa
