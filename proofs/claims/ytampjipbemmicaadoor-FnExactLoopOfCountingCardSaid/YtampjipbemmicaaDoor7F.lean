/- Chapter 7: the program's languages; the law of IsLanguage. -/
import Derived.Test.YtampjipbemmicaaDoor7E
import Derived.Test.YtampjipbemmicaaDoorS
import Derived.Shelf.Strings.SlTrimAscii
namespace Go.Proofs.YtampjipbemmicaaDoor
open Go.RowKit Go.BigFrame
set_option linter.unusedSimpArgs false
set_option linter.unusedVariables false
set_option maxRecDepth 4000

theorem all_of_dropN {p : UInt8 → Bool} : ∀ (xs : List UInt8), (∀ x ∈ xs.dropWhile p, p x = true) → ∀ x ∈ xs, p x = true
  | [], _, x, h => by simp at h
  | a :: t, h, x, hx => by
    by_cases ha : p a = true
    · rw [List.dropWhile_cons_of_pos ha] at h
      rw [List.mem_cons] at hx
      rcases hx with rfl | hx
      · exact ha
      · exact all_of_dropN t h x hx
    · rw [List.dropWhile_cons_of_neg ha] at h
      exact h x hx
theorem drop_of_allN {p : UInt8 → Bool} : ∀ (xs : List UInt8), (∀ x ∈ xs, p x = true) → xs.dropWhile p = []
  | [], _ => rfl
  | a :: t, h => by rw [List.dropWhile_cons_of_pos (h a (by simp))]; exact drop_of_allN t (fun x hx => h x (by simp [hx]))
theorem all_of_nilN {p : UInt8 → Bool} : ∀ (xs : List UInt8), xs.dropWhile p = [] → ∀ x ∈ xs, p x = true
  | [], _, x, h => by simp at h
  | a :: t, h, x, hx => by
    by_cases ha : p a = true
    · rw [List.dropWhile_cons_of_pos ha] at h
      rw [List.mem_cons] at hx
      rcases hx with rfl | hx
      · exact ha
      · exact all_of_nilN t h x hx
    · rw [List.dropWhile_cons_of_neg ha] at h; cases h
theorem set_ltr (c : UInt8) : ([97, 98, 99, 100] : List UInt8).contains c = ltrB c := by
  have e : ∀ d : UInt8, (c == d) = decide (c.toNat = d.toNat) := fun d => by
    by_cases h : c = d
    · subst h; simp
    · rw [beq_false_of_ne h, decide_eq_false (fun e => h (UInt8.toNat_inj.1 e))]
  simp only [List.contains_cons, List.contains_nil, Bool.or_false, e, ltrB]
  rw [← Bool.decide_or, ← Bool.decide_or, ← Bool.decide_or]
  exact decide_eq_decide.2 (by show (c.toNat = 97 ∨ c.toNat = 98 ∨ c.toNat = 99 ∨ c.toNat = 100) ↔ _; omega)
theorem trim_ltrs (l : List UInt8) : Go.Lib.trimS l [97, 98, 99, 100] = [] ↔ ltrsB l = true := by
  unfold Go.Lib.trimS Go.Lib.trimLeftS Go.Lib.trimRightS ltrsB
  constructor
  · intro h
    have h1 := all_of_nilN _ h
    have h2 : ∀ x ∈ l.reverse.dropWhile (([97, 98, 99, 100] : List UInt8).contains ·), ([97, 98, 99, 100] : List UInt8).contains x = true := fun x hx => h1 x (List.mem_reverse.2 hx)
    have h3 := all_of_dropN _ h2
    rw [List.all_eq_true]
    intro x hx
    rw [← set_ltr]
    exact h3 x (List.mem_reverse.2 hx)
  · intro h
    rw [List.all_eq_true] at h
    have h1 : l.reverse.dropWhile (([97, 98, 99, 100] : List UInt8).contains ·) = [] := drop_of_allN _ (fun x hx => by rw [set_ltr]; exact h x (List.mem_reverse.1 hx))
    rw [h1]; rfl
theorem info_boolsN : (Tryd.prog.info? 102).map (fun i => (i.zero, i.size)) = some (some (.agg (Array.replicate 256 (.bool false))), 256) := by kernel_rfl
theorem trimN_any (l : List UInt8) (w : World) (hs : l.length ≤ 9223372036854775807) :
    Calls Tryd.prog 83 #[.string (bs l), .string ⟨#[97, 98, 99, 100]⟩] w fun e w' => e = .returned (.string (bs (Go.Lib.trimS l [97, 98, 99, 100]))) ∧ Below w.heap.size w w' := by
  obtain ⟨i4, hi4, hb4⟩ := Option.map_eq_some_iff.1 info_boolsN
  simp only [Prod.mk.injEq] at hb4
  have hz : ∀ w : World, (zeroValue 102).run Tryd.prog w = .ok (.agg (Array.replicate 256 (.bool false))) w := fun w => by
    simp [zeroValue, typeInfo, hi4, hb4.1]
  have hi : (Tryd.prog.info? 102).map (·.size) = some 256 := by rw [hi4]; simp [hb4.2]
  have := Any.strings_Trim_ascii Tryd.lays160 hz hi (bs l) ⟨#[97, 98, 99, 100]⟩ w (by rw [bs_size]; exact hs) (by decide) (by
    intro j b hb
    match j, hb with
    | 0, hb => cases hb; decide
    | 1, hb => cases hb; decide
    | 2, hb => cases hb; decide
    | 3, hb => cases hb; decide
    | j + 4, hb => simp at hb)
  rw [bs_list] at this
  exact this

set_option maxHeartbeats 1000000 in
theorem isLetterText_any (l : List UInt8) (lo hi : Int) (w : World) (hs : l.length ≤ 9223372036854775807) :
    Calls Tryd.prog 52 #[.string (bs l), .int .i64 lo, .int .i64 hi] w fun e w' => e = .returned (.bool (decide (lo ≤ (l.length : Int) ∧ (l.length : Int) ≤ hi) && ltrsB l)) ∧ Below w.heap.size w w' := by
  obtain ⟨c, hc⟩ : ∃ c : Bool, c = decide (lo ≤ (l.length : Int) ∧ (l.length : Int) ≤ hi) := ⟨_, rfl⟩
  obtain ⟨m, hm⟩ : ∃ m : Bool, m = ltrsB l := ⟨_, rfl⟩
  rw [← hc, ← hm]
  have HC := Lib.hid hc
  have hbs : (bs l).size = l.length := bs_size _
  have HT := Lib.hid (fun (W : World) => trimN_any l W (by omega))
  have hE : m = decide (Go.Lib.trimS l [97, 98, 99, 100] = []) := by
    rw [hm]
    cases h : ltrsB l with
    | true => rw [decide_eq_true ((trim_ltrs _).2 h)]
    | false => rw [decide_eq_false (fun e => by have := (trim_ltrs _).1 e; rw [h] at this; cases this)]
  have HE := Lib.hid hE
  clear hc hm hE
  generalize Go.Lib.trimS l [97, 98, 99, 100] = t at *
  have hq : ((bs t).toList == ([] : List UInt8)) = m := by
    rw [HE.out, Go.Lib.toList_data, bs_list]
    cases t <;> rfl
  cases c with
  | true =>
    go_enter Tryd.func52, Tryd.ntmps52
    go_wp2_with fail
    refine (isWithin_is true _ _ _ _ HC.out.symm).mono ?_
    rintro e w1 ⟨rfl, rfl⟩
    go_wp2_with fail
    refine (HT.out _).mono ?_
    rintro e w1 ⟨rfl, hb⟩
    have HB := Lib.hid hb; clear hb
    go_wp2_with fail
    go_ret
    exact ⟨by first | rfl | simp [hq], HB.out⟩
  | false =>
    go_enter Tryd.func52, Tryd.ntmps52
    go_wp2_with fail
    refine (isWithin_is false _ _ _ _ HC.out.symm).mono ?_
    rintro e w1 ⟨rfl, rfl⟩
    go_wp2_with fail
    go_ret
    exact ⟨rfl, Below.refl _ _⟩
theorem containsN (ns : List (List UInt8)) (k : Nat) (x : List UInt8) : Go.Lib.containsS ((ns.map bs).take k) (bs x) = decide (x ∈ ns.take k) := by
  have h : Go.Lib.containsS ((ns.map bs).take k) (bs x) = true ↔ x ∈ ns.take k := by
    rw [Go.Lib.containsS_iff, ← List.map_take, List.mem_map]
    exact ⟨fun ⟨y, h1, h2⟩ => by rw [← bs_inj h2]; exact h1, fun h => ⟨x, h, rfl⟩⟩
  cases hc : Go.Lib.containsS ((ns.map bs).take k) (bs x) with
  | true => rw [decide_eq_true (h.1 hc)]
  | false => rw [decide_eq_false (fun e => by have := h.2 e; rw [hc] at this; cases this)]
end Go.Proofs.YtampjipbemmicaaDoor
