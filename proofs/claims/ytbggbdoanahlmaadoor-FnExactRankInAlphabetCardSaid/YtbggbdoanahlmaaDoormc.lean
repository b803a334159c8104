/- Chapter 8: the model's l1Split (as in chapter 7's texts); named numbers; NameOf and WordsOfName on both sides. -/
import Derived.Test.YtbggbdoanahlmaaDoorm5
import Derived.Test.YtbggbdoanahlmaaDoormb
import Derived.Test.YtbggbdoanahlmaaDoorm9
import Derived.Test.YtbggbdoanahlmaaDoorS
import Derived.Deep.QuietTactic
import Derived.BigQuiet
namespace Go.Proofs.YtbggbdoanahlmaaDoor
open Go.RowKit Go.BigFrame
set_option linter.unusedSimpArgs false
set_option linter.unusedVariables false
set_option maxRecDepth 4000

theorem add_plainL (b o r : Nat) : (⟨b, o, none⟩ : Addr).add r = ⟨b, o + r, none⟩ := by
  unfold Addr.add
  split
  · subst_vars; rfl
  · rfl
theorem cell_new (w : World) (v : Value) (T : TypeId) : (w.alloc (.cells #[v] T)).cell? ⟨w.heap.size, 0, none⟩ = some v := by
  unfold World.cell?
  rw [heap_alloc_new]; rfl
theorem extract_bs (l : List UInt8) (i j : Nat) : (bs l).extract i j = bs ((l.drop i).take (j - i)) := bs_eq (by rw [list_extract, bs_list])
theorem getB (l : List UInt8) (k : Nat) (h : k < (bs l).size) (h' : k < l.length) : (bs l)[k]'h = l[k]'h' := by simp [bs, ByteArray.getElem_eq_getElem_data]
theorem beqB (x c : UInt8) : (((x.toNat : Nat) : Int) == ((c.toNat : Nat) : Int)) = decide (x = c) := by
  by_cases h : x = c
  · subst h; simp
  · rw [decide_eq_false h]
    exact beq_false_of_ne (fun e => h (UInt8.toNat_inj.1 (by omega)))
def strVN (ls : List (List UInt8)) : List Value := ls.map (fun l => .string (bs l))
theorem strVN_len (ls : List (List UInt8)) : (strVN ls).length = ls.length := by simp [strVN]

def nmB (n : Int) : Bool := decide (0 ≤ n ∧ n ≤ 999999)
theorem nmB_parts {n : Int} (h : nmB n = true) : ∃ k : Nat, n = (k : Int) ∧ k < 1000000 := by
  have : 0 ≤ n ∧ n ≤ 999999 := of_decide_eq_true h
  exact ⟨n.toNat, by omega, by omega⟩
def nameO (n : Int) : List UInt8 := if nmB n = true then nmN n.toNat else []
def wordsO (n : Int) : List (List UInt8) := if nmB n = true then wdsN n.toNat else []
theorem nameO_join (n : Int) : joinS (wordsO n) = nameO n := by
  unfold wordsO nameO
  split
  · exact joinN _
  · rfl

/-- Words and whether there are any. -/
def WordsOk2 (B : Nat) (ls : List (List UInt8)) (ok : Bool) (w : World) (e : Ending) (w' : World) : Prop := ∃ v, e = .returned (.tuple #[v, .bool ok]) ∧ Strs w' B v ls ∧ Below B w w'

theorem join_any (w : World) (B : Nat) (v : Value) (ls : List (List UInt8)) (sep : List UInt8) (h : Strs w B v ls) (hl : ls.length ≤ 10) (hj : (Go.Lib.join ls sep).length ≤ 10000) :
    Calls Tryd.prog 31 #[v, .string (bs sep)] w fun e w' => e = .returned (.string (bs (Go.Lib.join ls sep))) ∧ Below w.heap.size w w' := by
  by_cases hne : ls = []
  · subst hne
    rcases own_open h with ⟨rfl, _, _⟩ | ⟨g, cap, rfl, _⟩
    · refine (Tryd.strings_Join_none none 0 (bs sep) w).mono ?_
      rintro e w' ⟨rfl, rfl⟩
      exact ⟨rfl, below_refl _⟩
    · refine (Tryd.strings_Join_none (some ⟨g, 0, none⟩) cap (bs sep) w).mono ?_
      rintro e w' ⟨rfl, rfl⟩
      exact ⟨rfl, below_refl _⟩
  · obtain ⟨g, c, rfl, _, hg, hc, _, hcell⟩ := strs_parts h hne
    have e0 : ((ls.map bs).map (·.data.toList)) = ls := by rw [List.map_map]; conv => rhs; rw [← List.map_id ls]
                                                           apply List.map_congr_left; intro l _; simp [bs_list]
    have e1 : (bs sep).data.toList = sep := bs_list _
    have hj2 := Tryd.strings_Join g 0 c (ls.map bs) (bs sep) w (fun j x hx => by
      obtain ⟨hj, e⟩ := List.getElem?_eq_some_iff.1 hx
      have hj' : j < ls.length := by simpa using hj
      rw [Nat.zero_add, hcell j hj', ← e]; simp) hg (by simp; omega) (by simpa using hc) (by rw [e0, e1]; omega)
    rw [e0, e1, List.length_map] at hj2
    exact hj2

end Go.Proofs.YtbggbdoanahlmaaDoor
